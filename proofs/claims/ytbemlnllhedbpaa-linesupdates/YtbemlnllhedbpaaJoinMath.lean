/- Where the lines of two texts, one behind the other, begin. -/
import Derived.Test.YtbemlnllhedbpaaWakes
namespace Go.Proofs.Ytbemlnllhedbpaa
open Go.RowKit

theorem nl_list (s : ByteArray) (k : Nat) : nl s k = decide (s.data.toList[k]? = some 10) := by
  by_cases h : k < s.size
  · rw [nl_at h, List.getElem?_eq_getElem (by rw [Array.length_toList]; exact h)]
    rw [decide_eq_decide, Array.getElem_toList]
    exact ⟨fun e => congrArg some e, fun e => Option.some.inj e⟩
  · rw [nl_out h, List.getElem?_eq_none (by rw [Array.length_toList]; exact Nat.le_of_not_lt h)]
    rfl
theorem app_list (s t : ByteArray) : (s ++ t).data.toList = s.data.toList ++ t.data.toList := by rw [ByteArray.data_append, Array.toList_append]
theorem size_list (s : ByteArray) : s.data.toList.length = s.size := by rw [Array.length_toList]; rfl
theorem nl_left {s t : ByteArray} {k : Nat} (h : k < s.size) : nl (s ++ t) k = nl s k := by
  rw [nl_list, nl_list, app_list, List.getElem?_append_left (by rw [size_list]; exact h)]
theorem nl_right (s t : ByteArray) (k : Nat) : nl (s ++ t) (s.size + k) = nl t k := by
  rw [nl_list, nl_list, app_list, List.getElem?_append_right (by rw [size_list]; omega), size_list, Nat.add_sub_cancel_left]
theorem stN_left {s t : ByteArray} : ∀ {k : Nat}, k ≤ s.size → stN (s ++ t) k = stN s k
  | 0, _ => rfl
  | k + 1, h => by rw [stN, stN, nl_left (by omega), stN_left (by omega)]
def shiftT (n : Int) (l : List Int) : List Int := (l.filter fun x => decide (0 < x)).map fun x => n + x
theorem shiftT_snoc (n : Int) (l : List Int) (x : Int) : shiftT n (l ++ [x]) = shiftT n l ++ (if 0 < x then [n + x] else []) := by
  unfold shiftT
  rw [List.filter_append, List.map_append]
  by_cases h : 0 < x
  · rw [if_pos h]; simp [h]
  · rw [if_neg h]; simp [h]
theorem stN_right (s t : ByteArray) : ∀ k, stN (s ++ t) (s.size + k) = st s ++ shiftT s.size (stN t k)
  | 0 => by
    show stN (s ++ t) s.size = st s ++ shiftT s.size [0]
    rw [stN_left (Nat.le_refl _), show shiftT (s.size : Int) [0] = [] from rfl, List.append_nil]; rfl
  | k + 1 => by
    have ih := stN_right s t k
    have hr := nl_right s t k
    cases hn : nl t k with
    | true =>
      rw [hn] at hr
      rw [← Nat.add_assoc, stN_yes hr, stN_yes hn, ih, shiftT_snoc, if_pos (by omega), List.append_assoc]
      congr 3
    | false =>
      rw [hn] at hr
      rw [← Nat.add_assoc, stN_no hr, stN_no hn, ih]
theorem st_app (s t : ByteArray) : st (s ++ t) = st s ++ shiftT s.size (st t) := by
  have := stN_right s t t.size
  unfold st at *
  rw [ByteArray.size_append]
  exact this

theorem own_keep {w w' : World} {base size n : Nat} {e : TypeId} {v : Value} {xs : List Value} (h : w.ownsRow base e size v n xs) (hb : ∀ k, v.ownBlock = some k → w'.heap[k]? = w.heap[k]?) : w'.ownsRow base e size v n xs := by
  refine ⟨h.1, h.2.imp id ?_⟩
  rintro ⟨g, cap, cur, rfl, h2, h3, h4⟩
  exact ⟨g, cap, cur, rfl, h2, (hb g rfl).trans h3, h4⟩
theorem own_below {w w' : World} {base size n : Nat} {e : TypeId} {v : Value} {xs : List Value} (h : w.ownsRow base e size v n xs) (hb : Below w.heap.size w w') : w'.ownsRow base e size v n xs :=
  own_keep h fun k hk => hb.block k (h.lt k hk).2
theorem own_news {w : World} {base g cap : Nat} {l : List Int} (h : w.ownsRow base 3 1 (.slice (some ⟨g, 0, none⟩) l.length cap) l.length (numCells l)) : ∀ j u, (numCells l)[j]? = some u → w.cell? ((⟨g, 0, none⟩ : Addr).add j) = some u := h.cells rfl
theorem numCells_one (l : List Int) : ∀ u ∈ numCells l, u.oneCell' = true := fun u hu => by
  unfold numCells at hu
  obtain ⟨n, _, rfl⟩ := List.mem_map.1 hu
  rfl
theorem numCells_app (a b : List Int) : numCells (a ++ b) = numCells a ++ numCells b := List.map_append

end Go.Proofs.Ytbemlnllhedbpaa
