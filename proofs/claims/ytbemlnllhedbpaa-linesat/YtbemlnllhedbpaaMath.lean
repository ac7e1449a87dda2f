/- Lines and columns of places, by counting. -/
import Derived.Test.YtbemlnllhedbpaaWakes
namespace Go.Proofs.Ytbemlnllhedbpaa

/-- the line of a place; where that line begins; its column -/
def ln (s : ByteArray) (i : Nat) : Nat := (stN s i).length
def lastSt (s : ByteArray) : Nat → Int
  | 0 => 0
  | k + 1 => if nl s k then (k : Int) + 1 else lastSt s k
def cl (s : ByteArray) (i : Nat) : Int := i - lastSt s i + 1

theorem lastSt_bd (s : ByteArray) (i : Nat) : 0 ≤ lastSt s i ∧ lastSt s i ≤ i := by
  induction i with
  | zero => exact ⟨Int.le_refl _, Int.le_refl _⟩
  | succ k ih =>
    unfold lastSt
    split <;> omega
theorem cl_pos (s : ByteArray) (i : Nat) : 1 ≤ cl s i ∧ cl s i ≤ i + 1 := by have := lastSt_bd s i; unfold cl; omega
theorem ln_pos (s : ByteArray) (i : Nat) : 1 ≤ ln s i ∧ ln s i ≤ i + 1 := stN_len s i
theorem ln_yes {s : ByteArray} {i : Nat} (h : nl s i = true) : ln s (i + 1) = ln s i + 1 := by unfold ln; rw [stN_yes h, List.length_append]; rfl
theorem ln_no {s : ByteArray} {i : Nat} (h : nl s i = false) : ln s (i + 1) = ln s i := by unfold ln; rw [stN_no h]
theorem last_yes {s : ByteArray} {i : Nat} (h : nl s i = true) : lastSt s (i + 1) = i + 1 := by rw [lastSt, if_pos h]
theorem last_no {s : ByteArray} {i : Nat} (h : nl s i = false) : lastSt s (i + 1) = lastSt s i := by rw [lastSt, if_neg (by rw [h]; exact Bool.false_ne_true)]
theorem cl_yes {s : ByteArray} {i : Nat} (h : nl s i = true) : cl s (i + 1) = 1 := by unfold cl; rw [last_yes h]; omega
theorem cl_no {s : ByteArray} {i : Nat} (h : nl s i = false) : cl s (i + 1) = cl s i + 1 := by unfold cl; rw [last_no h]; omega

theorem stN_pre (s : ByteArray) (k m : Nat) : ∃ t, stN s (k + m) = stN s k ++ t ∧ ∀ x ∈ t, (k : Int) < x := by
  induction m with
  | zero => exact ⟨[], (List.append_nil _).symm, fun x hx => absurd hx List.not_mem_nil⟩
  | succ m ih =>
    obtain ⟨t, e, ht⟩ := ih
    cases hn : nl s (k + m) with
    | true =>
      refine ⟨t ++ [((k + m : Nat) : Int) + 1], by rw [← Nat.add_assoc, stN_yes hn, e, List.append_assoc], fun x hx => ?_⟩
      rcases List.mem_append.1 hx with h | h
      · exact ht x h
      · obtain rfl := List.mem_singleton.1 h; omega
    | false => exact ⟨t, by rw [← Nat.add_assoc, stN_no hn, e], ht⟩
theorem stN_last (s : ByteArray) (k : Nat) : (stN s k)[ln s k - 1]? = some (lastSt s k) := by
  induction k with
  | zero => rfl
  | succ k ih =>
    cases hn : nl s k with
    | true =>
      rw [ln_yes hn, last_yes hn, stN_yes hn, Nat.add_sub_cancel]
      show (stN s k ++ [(k : Int) + 1])[(stN s k).length]? = _
      simp
    | false => rw [ln_no hn, last_no hn, stN_no hn]; exact ih

/-- a line begins up to a place just if it is not behind the place's line -/
theorem st_le {s : ByteArray} {i p : Nat} (hi : i ≤ s.size) (hp : p < (st s).length) : (st s)[p] ≤ i ↔ p < ln s i := by
  obtain ⟨t, e, ht⟩ := stN_pre s i (s.size - i)
  rw [show i + (s.size - i) = s.size by omega] at e
  have e' : st s = stN s i ++ t := e
  by_cases h : p < (stN s i).length
  · have : (st s)[p] = (stN s i)[p] := by
      have h2 : (st s)[p]? = (stN s i)[p]? := by rw [e', List.getElem?_append_left h]
      rw [List.getElem?_eq_getElem hp, List.getElem?_eq_getElem h] at h2
      exact Option.some.inj h2
    rw [this]
    exact ⟨fun _ => h, fun _ => (stN_le s i _ (List.getElem_mem h)).2⟩
  · have hm : (st s)[p] ∈ t := by
      have h2 : (st s)[p]? = t[p - (stN s i).length]? := by rw [e', List.getElem?_append_right (by omega)]
      rw [List.getElem?_eq_getElem hp] at h2
      exact List.mem_of_getElem? h2.symm
    have := ht _ hm
    exact ⟨fun h3 => by omega, fun h3 => absurd h3 h⟩
theorem ln_le {s : ByteArray} {i : Nat} (hi : i ≤ s.size) : ln s i ≤ (st s).length := by
  obtain ⟨t, e, _⟩ := stN_pre s i (s.size - i)
  rw [show i + (s.size - i) = s.size by omega] at e
  have e' : st s = stN s i ++ t := e
  rw [e', List.length_append]; exact Nat.le_add_right _ _
theorem st_last {s : ByteArray} {i : Nat} (hi : i ≤ s.size) : (st s)[ln s i - 1]? = some (lastSt s i) := by
  obtain ⟨t, e, _⟩ := stN_pre s i (s.size - i)
  rw [show i + (s.size - i) = s.size by omega] at e
  have e' : st s = stN s i ++ t := e
  rw [e', List.getElem?_append_left (by have := ln_pos s i; unfold ln at *; omega)]
  exact stN_last s i
theorem st_bd {s : ByteArray} {p : Nat} (hp : p < (st s).length) : 0 ≤ (st s)[p] ∧ (st s)[p] ≤ s.size := stN_le s s.size _ (List.getElem_mem hp)

theorem stN_strict (s : ByteArray) (k : Nat) : (stN s k).Pairwise (· < ·) := by
  induction k with
  | zero => exact List.pairwise_singleton _ _
  | succ k ih =>
    cases hn : nl s k with
    | true =>
      rw [stN_yes hn]
      refine List.pairwise_append.2 ⟨ih, List.pairwise_singleton _ _, fun a ha b hb => ?_⟩
      obtain rfl := List.mem_singleton.1 hb
      have := (stN_le s k a ha).2
      omega
    | false => rw [stN_no hn]; exact ih
theorem st_strict {s : ByteArray} {p q : Nat} (hp : p < (st s).length) (hq : q < (st s).length) (h : p < q) : (st s)[p] < (st s)[q] := List.pairwise_iff_getElem.1 (stN_strict s s.size) p q hp hq h

/-- the last place of a line -/
def lastP (s : ByteArray) (p : Nat) : Int := match (st s)[p + 1]? with | some x => x - 1 | none => s.size
theorem ln_iff {s : ByteArray} {i p : Nat} (hi : i ≤ s.size) (hp : p < (st s).length) : ln s i = p + 1 ↔ (st s)[p] ≤ i ∧ (i : Int) ≤ lastP s p := by
  have h1 := st_le hi hp
  unfold lastP
  by_cases h : p + 1 < (st s).length
  · have h2 := st_le hi h
    rw [List.getElem?_eq_getElem h]
    show _ ↔ _ ∧ (i : Int) ≤ (st s)[p + 1] - 1
    omega
  · rw [List.getElem?_eq_none (by omega)]
    show _ ↔ _ ∧ (i : Int) ≤ s.size
    have := ln_le hi
    omega
theorem lastP_bd {s : ByteArray} {p : Nat} (hp : p < (st s).length) : lastP s p ≤ s.size ∧ (st s)[p] ≤ lastP s p := by
  obtain ⟨b1, b2⟩ := st_bd hp
  unfold lastP
  by_cases h : p + 1 < (st s).length
  · have b3 := st_bd h
    have b4 := st_strict hp h (Nat.lt_succ_self _)
    rw [List.getElem?_eq_getElem h]
    show (st s)[p + 1] - 1 ≤ _ ∧ _ ≤ (st s)[p + 1] - 1
    omega
  · rw [List.getElem?_eq_none (by omega)]
    exact ⟨Int.le_refl _, b2⟩

/-- the place of a line and a column, and whether there is one -/
def isAt (s : ByteArray) (l c : Int) (i : Nat) : Bool := decide ((ln s i : Int) = l) && decide (cl s i = c)
def atV (s : ByteArray) (l c : Int) : Option Nat := (List.range (s.size + 1)).find? (isAt s l c)
theorem isAt_iff {s : ByteArray} {l c : Int} {i : Nat} : isAt s l c i = true ↔ (ln s i : Int) = l ∧ cl s i = c := by unfold isAt; simp
theorem atV_none {s : ByteArray} {l c : Int} (h : ∀ i, i ≤ s.size → ¬ ((ln s i : Int) = l ∧ cl s i = c)) : atV s l c = none := by
  unfold atV
  rw [List.find?_eq_none]
  intro i hi
  have := List.mem_range.1 hi
  rw [isAt_iff]
  exact h i (by omega)
theorem ln_cl_inj {s : ByteArray} {i j : Nat} (hi : i ≤ s.size) (hj : j ≤ s.size) (h1 : ln s i = ln s j) (h2 : cl s i = cl s j) : i = j := by
  have e1 := st_last hi
  have e2 := st_last hj
  rw [h1, e2] at e1
  have := Option.some.inj e1
  unfold cl at h2
  omega
theorem atV_some {s : ByteArray} {l c : Int} {i : Nat} (hi : i ≤ s.size) (h1 : (ln s i : Int) = l) (h2 : cl s i = c) : atV s l c = some i := by
  unfold atV
  cases hf : (List.range (s.size + 1)).find? (isAt s l c) with
  | none =>
    rw [List.find?_eq_none] at hf
    exact absurd (isAt_iff.2 ⟨h1, h2⟩) (hf i (List.mem_range.2 (by omega)))
  | some j =>
    obtain ⟨h3, h4⟩ := isAt_iff.1 (List.find?_some hf)
    have hj := List.mem_range.1 (List.mem_of_find?_eq_some hf)
    exact congrArg some (ln_cl_inj (by omega) hi (by omega) (by omega))

/-- where lines are gone through by their beginnings -/
theorem atV_no {s : ByteArray} {l c : Int} (h : l < 1 ∨ ((st s).length : Int) < l ∨ c < 1) : atV s l c = none := by
  refine atV_none fun i hi ⟨h1, h2⟩ => ?_
  have a1 := ln_pos s i
  have a2 := ln_le hi
  have a3 := cl_pos s i
  omega
theorem atV_far {s : ByteArray} {p : Nat} {c : Int} (hp : p < (st s).length) (h : lastP s p - (st s)[p] < c - 1) : atV s ((p : Int) + 1) c = none := by
  refine atV_none fun i hi ⟨h1, h2⟩ => ?_
  have h3 : ln s i = p + 1 := by omega
  obtain ⟨h4, h5⟩ := (ln_iff hi hp).1 h3
  have h6 := st_last hi
  rw [h3, Nat.add_sub_cancel, List.getElem?_eq_getElem hp] at h6
  have := Option.some.inj h6
  unfold cl at h2
  omega
theorem atV_near {s : ByteArray} {p : Nat} {c : Int} (hp : p < (st s).length) (hc : 1 ≤ c) (h : ¬ lastP s p - (st s)[p] < c - 1) : atV s ((p : Int) + 1) c = some ((st s)[p] + c - 1).toNat := by
  have b := st_bd hp
  have b2 := lastP_bd hp
  have hi : ((st s)[p] + c - 1).toNat ≤ s.size := by omega
  have h3 : ln s ((st s)[p] + c - 1).toNat = p + 1 := (ln_iff hi hp).2 (by omega)
  refine atV_some hi (by omega) ?_
  have h6 := st_last hi
  rw [h3, Nat.add_sub_cancel, List.getElem?_eq_getElem hp] at h6
  have := Option.some.inj h6
  unfold cl
  omega

end Go.Proofs.Ytbemlnllhedbpaa
