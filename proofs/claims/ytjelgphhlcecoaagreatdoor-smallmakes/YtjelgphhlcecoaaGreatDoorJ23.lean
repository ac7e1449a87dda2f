/- The reference of layer 8: accept, wide. The reference of layer 8: spots one behind the other in memory; first. The reference of layer 8: by. -/
import Derived.Test.YtjelgphhlcecoaaGreatDoorJ22
namespace Go.Proofs.YtjelgphhlcecoaaGreatDoor
open Go.RowKit

theorem accS_drop {l : List Int} {k : Nat} (h : k < l.length) : accS (l.drop k) = if l[k] % 1000 = 999 then l[k] / 1000 else accS (l.drop (k + 1)) := by
  rw [List.drop_eq_getElem_cons h, accS]
theorem wideL_take {r k : Nat} {l : List Int} (h : k < l.length) : wideL r (l.take (k + 1)) = wideL r (l.take k) ++ [(r : Int) * 1000 + l[k]] := by
  unfold wideL
  rw [List.take_succ_eq_append_getElem h, List.map_append]
  rfl
theorem wideL_len (r : Nat) (l : List Int) : (wideL r l).length = l.length := by simp [wideL]
end Go.Proofs.YtjelgphhlcecoaaGreatDoor
namespace Go.Proofs.YtjelgphhlcecoaaGreatDoor
open Go.RowKit

/-- spots lie at a place -/
def AtS (w : World) (b o : Nat) (p : Sp) : Prop := ∃ sv fv lv gv, w.cell? ⟨b, o, none⟩ = some sv ∧ w.cell? ⟨b, o + 1, none⟩ = some (.bool p.null) ∧ w.cell? ⟨b, o + 2, none⟩ = some fv ∧ w.cell? ⟨b, o + 3, none⟩ = some lv ∧ w.cell? ⟨b, o + 4, none⟩ = some gv ∧ SpV w sv fv lv gv p
theorem AtS.keep {w w' : World} {b o : Nat} {p : Sp} (h : AtS w b o p) (hb : Below w.heap.size w w') : AtS w' b o p := by
  obtain ⟨sv, fv, lv, gv, h0, h1, h2, h3, h4, h5⟩ := h
  exact ⟨sv, fv, lv, gv, keep_cell hb h0, keep_cell hb h1, keep_cell hb h2, keep_cell hb h3, keep_cell hb h4, h5.keep hb⟩
/-- a slice of spots -/
def Spss (w : World) (v : Value) (l : List Sp) : Prop := ∃ a cap, v = .slice a l.length cap ∧ l.length ≤ cap ∧ (a = none → cap = 0) ∧ ∀ j (h : j < l.length), ∃ b o, a = some ⟨b, o, none⟩ ∧ b < w.heap.size ∧ AtS w b (o + j * 5) l[j]
theorem Spss.keep {w w' : World} {v : Value} {l : List Sp} (h : Spss w v l) (hb : Below w.heap.size w w') : Spss w' v l := by
  obtain ⟨a, cap, hv, hc, hn, hat⟩ := h
  refine ⟨a, cap, hv, hc, hn, fun j hj => ?_⟩
  obtain ⟨b, o, ha, hlt, h1⟩ := hat j hj
  exact ⟨b, o, ha, Nat.lt_of_lt_of_le hlt hb.size, h1.keep hb⟩
/-- spots of a size that the walks can bear -/
structure SmlS (p : Sp) : Prop where
  sets : p.sets.length ≤ 60
  first : p.first.length ≤ 60
  firstIn : ∀ x ∈ p.first, 0 ≤ x ∧ x < 60
  last : p.last.length ≤ 60
  flen : p.follow.length = p.sets.length
  follow : ∀ l ∈ p.follow, l.length ≤ 60 ∧ ∀ x ∈ l, 0 ≤ x ∧ x < 60
theorem getD_at {all : List Sp} {k : Nat} (h : k < all.length) : all.getD k noSp = all[k] := by
  rw [List.getD_eq_getElem?_getD, List.getElem?_eq_getElem h]
  rfl
theorem oneS_len {r : Nat} {p : Sp} (h : SmlS p) : (oneS r p).length ≤ 61 := by
  have := h.first
  unfold oneS
  rw [List.length_append, wideL_len]
  split <;> simp <;> omega
theorem firstS_len {all : List Sp} (h : ∀ p ∈ all, SmlS p) : ∀ m, m ≤ all.length → (firstS all m).length ≤ m * 61
  | 0, _ => by simp [firstS]
  | m + 1, hm => by
    have ih := firstS_len h m (by omega)
    have h1 := oneS_len (r := m) (h all[m] (List.getElem_mem (by omega)))
    rw [firstS, List.length_append, getD_at (by omega)]
    omega
end Go.Proofs.YtjelgphhlcecoaaGreatDoor
namespace Go.Proofs.YtjelgphhlcecoaaGreatDoor
open Go.RowKit

theorem byOne_eq (all : List Sp) (b r j : Nat) (h : j < 999) : byOne all b (enc r j) = if hasB ((all.getD r noSp).sets.getD j noneB) b then wideL r ((all.getD r noSp).follow.getD j []) ++ (if (all.getD r noSp).last.contains (j : Int) then [(r : Int) * 1000 + 999] else []) else [] := by
  have e1 : (enc r j / 1000).toNat = r := enc_div (by omega)
  have e2 : enc r j % 1000 = (j : Int) := enc_mod (by omega)
  have e3 : enc r j / 1000 * 1000 + 999 = (r : Int) * 1000 + 999 := by unfold enc; omega
  unfold byOne
  rw [e1, e2, e3, Int.toNat_natCast]
  by_cases hb : hasB ((all.getD r noSp).sets.getD j noneB) b = true
  · rw [if_neg (by rw [hb]; simp; omega), if_pos hb]
  · rw [if_pos (Or.inr (by simpa using hb)), if_neg hb]
/-- numbers of a state, as the walks bear them -/
def StOk (all : List Sp) (st : St) : Prop := ∀ x ∈ st, ∃ r j : Nat, x = enc r j ∧ r < all.length ∧ (j = 999 ∨ j < (all.getD r noSp).sets.length)
theorem SmlS.fol {p : Sp} (h : SmlS p) (j : Nat) : (p.follow.getD j []).length ≤ 60 ∧ ∀ x ∈ p.follow.getD j [], 0 ≤ x ∧ x < 60 := by
  rw [List.getD_eq_getElem?_getD]
  rcases Nat.lt_or_ge j p.follow.length with hl | hl
  · rw [List.getElem?_eq_getElem hl]
    exact h.follow _ (List.getElem_mem hl)
  · rw [List.getElem?_eq_none hl]
    simp
theorem byOne_len {all : List Sp} (hp : ∀ p ∈ all, SmlS p) {st : St} (hs : StOk all st) (b : Nat) {x : Int} (hx : x ∈ st) : (byOne all b x).length ≤ 61 := by
  obtain ⟨r, j, rfl, hr, rfl | hj⟩ := hs x hx
  · rw [byOne_end]; simp
  · have hS := hp all[r] (List.getElem_mem hr)
    rw [getD_at hr] at hj
    have := hS.sets
    rw [byOne_eq all b r j (by omega), getD_at hr]
    split
    · have := (hS.fol j).1
      rw [List.length_append, wideL_len]
      split <;> simp only [List.length_singleton, List.length_nil] <;> omega
    · simp
theorem flat_len {all : List Sp} (hp : ∀ p ∈ all, SmlS p) {st : St} (hs : StOk all st) (b : Nat) : ∀ k, k ≤ st.length → ((st.take k).flatMap (byOne all b)).length ≤ k * 61
  | 0, _ => by simp
  | k + 1, hk => by
    have ih := flat_len hp hs b k (by omega)
    have := byOne_len hp hs b (List.getElem_mem (show k < st.length by omega))
    rw [List.take_succ_eq_append_getElem (by omega), List.flatMap_append, List.length_append, List.flatMap_singleton]
    omega
theorem flat_take (all : List Sp) (b : Nat) {st : St} {k : Nat} (h : k < st.length) : (st.take (k + 1)).flatMap (byOne all b) = (st.take k).flatMap (byOne all b) ++ byOne all b st[k] := by
  rw [List.take_succ_eq_append_getElem h, List.flatMap_append]
  simp
end Go.Proofs.YtjelgphhlcecoaaGreatDoor
