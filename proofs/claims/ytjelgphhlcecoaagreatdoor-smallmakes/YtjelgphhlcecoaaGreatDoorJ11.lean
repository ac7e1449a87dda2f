/- The reference: fitsAt of ROpt. The reference: fitsAt, Fits. Sets of numbers as rising lists; the order of lists: facts of lists alone. -/
import Derived.Test.YtjelgphhlcecoaaGreatDoorJ10
import Derived.Lib.SlicesCompact
namespace Go.Proofs.YtjelgphhlcecoaaGreatDoor
open Go.RowKit

end Go.Proofs.YtjelgphhlcecoaaGreatDoor
namespace Go.Proofs.YtjelgphhlcecoaaGreatDoor
open Go.RowKit

theorem seg_all (s : Txt) : seg s 0 s.length = s := by simp [seg]
theorem stp_start (t : Rx) (s : Txt) (bs : List Bool) (h : ∀ i, On bs i ↔ i = 0) : Stp t s (On bs) s.length ↔ Mat t s := by
  constructor
  · rintro ⟨j, _, hf, hm⟩
    rw [(h j).1 hf, seg_all] at hm
    exact hm
  · exact fun hm => ⟨0, Nat.zero_le _, (h 0).2 rfl, by rw [seg_all]; exact hm⟩
theorem on_start (N i : Nat) (hN : 0 < N) : On ((List.replicate N false).set 0 true) i ↔ i = 0 := by
  unfold On
  rw [List.getElem?_set]
  by_cases e : 0 = i
  · subst e; simp [hN]
  · rw [if_neg e]
    constructor
    · intro h
      rw [List.getElem?_replicate] at h
      split at h <;> simp at h
    · intro h; omega

theorem own_start (w : World) (N : Nat) (hN : N ≤ 2000) : OwnT (w.alloc (.cells ((madeCells #[.bool false] N).setIfInBounds 0 (.bool true)) 4)) w.heap.size (.slice (some ⟨w.heap.size, 0, none⟩) N N) ((List.replicate N false).set 0 true) := by
  have e := made_false N
  rw [Nat.mul_one, show (Value.bool false).cells = #[.bool false] from rfl] at e
  have hz : (madeCells #[Value.bool false] N).size = N := by rw [← Array.length_toList, e]; simp
  have h := World.ownsRow_lit (e := 4) (base := w.heap.size) (size := 1) w ((madeCells #[.bool false] N).setIfInBounds 0 (.bool true)) N (Nat.le_refl _) (by unfold maxLen; omega) (by rw [Array.size_setIfInBounds, hz]; simp)
  rw [Array.toList_setIfInBounds, e] at h
  unfold OwnT
  rw [List.length_set, List.length_replicate, List.map_set]
  exact h

end Go.Proofs.YtjelgphhlcecoaaGreatDoor
namespace Go.Proofs.YtjelgphhlcecoaaGreatDoor

/-- a rising list -/
abbrev Up (l : List Int) : Prop := l.Pairwise (· < ·)

def ins (x : Int) : List Int → List Int
  | [] => [x]
  | y :: t => if x < y then x :: y :: t else if x = y then y :: t else y :: ins x t
/-- the set of a list's numbers -/
def ofL : List Int → List Int
  | [] => []
  | x :: t => ins x (ofL t)

theorem ins_mem (x y : Int) (l : List Int) : y ∈ ins x l ↔ y = x ∨ y ∈ l := by
  induction l with
  | nil => simp [ins]
  | cons z t ih =>
    unfold ins
    split
    · simp
    · split
      · rename_i h; subst h; simp
      · simp only [List.mem_cons, ih]
        constructor
        · rintro (h | h | h) <;> simp [h]
        · rintro (h | h | h) <;> simp [h]
theorem ins_up (x : Int) (l : List Int) (h : Up l) : Up (ins x l) := by
  induction l with
  | nil => simp [ins, Up]
  | cons z t ih =>
    rw [Up, List.pairwise_cons] at h
    unfold ins
    split
    · rename_i hx
      rw [Up, List.pairwise_cons]
      refine ⟨fun y hy => ?_, List.pairwise_cons.2 h⟩
      rcases List.mem_cons.1 hy with rfl | hy
      · exact hx
      · have := h.1 y hy; omega
    · split
      · exact List.pairwise_cons.2 h
      · rename_i h1 h2
        rw [Up, List.pairwise_cons]
        refine ⟨fun y hy => ?_, ih h.2⟩
        rcases (ins_mem x y t).1 hy with rfl | hy
        · omega
        · exact h.1 y hy
theorem ins_len (x : Int) (l : List Int) : (ins x l).length ≤ l.length + 1 := by
  induction l with
  | nil => simp [ins]
  | cons z t ih =>
    unfold ins
    split
    · simp
    · split
      · simp
      · simp only [List.length_cons]; omega
theorem ofL_mem (y : Int) (l : List Int) : y ∈ ofL l ↔ y ∈ l := by
  induction l with
  | nil => simp [ofL]
  | cons z t ih => rw [ofL, ins_mem, ih, List.mem_cons]
theorem ofL_up (l : List Int) : Up (ofL l) := by
  induction l with
  | nil => exact List.Pairwise.nil
  | cons z t ih => exact ins_up z _ ih
theorem ofL_len (l : List Int) : (ofL l).length ≤ l.length := by
  induction l with
  | nil => exact Nat.le_refl _
  | cons z t ih => have := ins_len z (ofL t); simp only [ofL, List.length_cons]; omega

/-- two rising lists of the same numbers are one -/
theorem up_uniq : ∀ {l m : List Int}, Up l → Up m → (∀ x, x ∈ l ↔ x ∈ m) → l = m
  | [], [], _, _, _ => rfl
  | [], y :: t, _, _, h => absurd ((h y).2 (List.mem_cons_self)) (by simp)
  | x :: s, [], _, _, h => absurd ((h x).1 (List.mem_cons_self)) (by simp)
  | x :: s, y :: t, hl, hm, h => by
    rw [Up, List.pairwise_cons] at hl hm
    have hxy : x = y := by
      have h1 := (h x).1 List.mem_cons_self
      have h2 := (h y).2 List.mem_cons_self
      rcases List.mem_cons.1 h1 with e | h1
      · exact e
      · rcases List.mem_cons.1 h2 with e | h2
        · exact e.symm
        · have := hl.1 y h2; have := hm.1 x h1; omega
    subst hxy
    congr 1
    refine up_uniq hl.2 hm.2 fun z => ?_
    have hz := h z
    simp only [List.mem_cons] at hz
    constructor
    · intro hzs
      rcases hz.1 (Or.inr hzs) with e | e
      · subst e; exact absurd (hl.1 _ hzs) (by omega)
      · exact e
    · intro hzt
      rcases hz.2 (Or.inr hzt) with e | e
      · subst e; exact absurd (hm.1 _ hzt) (by omega)
      · exact e
theorem ofL_eq {l s : List Int} (hs : Up s) (h : ∀ x, x ∈ s ↔ x ∈ l) : s = ofL l :=
  up_uniq hs (ofL_up l) fun x => by rw [h, ofL_mem]
theorem ofL_self {s : List Int} (hs : Up s) : ofL s = s := (ofL_eq hs fun _ => Iff.rfl).symm
theorem up_iff (l : List Int) : Up l ↔ l = ofL l := ⟨fun h => (ofL_self h).symm, fun h => by rw [h]; exact ofL_up l⟩
theorem ofL_congr {l m : List Int} (h : ∀ x, x ∈ l ↔ x ∈ m) : ofL l = ofL m :=
  up_uniq (ofL_up l) (ofL_up m) fun x => by rw [ofL_mem, ofL_mem, h]
theorem up_filter {l : List Int} (h : Up l) (p : Int → Bool) : Up (l.filter p) := List.Pairwise.filter p h
/-- what is in both; what is in the one alone -/
def bothL (a b : List Int) : List Int := (ofL a).filter fun n => b.contains n
def lessL (a b : List Int) : List Int := (ofL a).filter fun n => !b.contains n
def unionL (a b : List Int) : List Int := ofL (a ++ b)
theorem bothL_eq (a b : List Int) : bothL a b = ofL (a.filter fun n => b.contains n) :=
  ofL_eq (up_filter (ofL_up a) _) fun x => by unfold bothL; rw [List.mem_filter, List.mem_filter, ofL_mem]
theorem lessL_eq (a b : List Int) : lessL a b = ofL (a.filter fun n => !b.contains n) :=
  ofL_eq (up_filter (ofL_up a) _) fun x => by unfold lessL; rw [List.mem_filter, List.mem_filter, ofL_mem]
theorem bothL_mem (a b : List Int) (x : Int) : x ∈ bothL a b ↔ x ∈ a ∧ x ∈ b := by unfold bothL; rw [List.mem_filter, ofL_mem, List.contains_iff_mem]
theorem lessL_mem (a b : List Int) (x : Int) : x ∈ lessL a b ↔ x ∈ a ∧ ¬ x ∈ b := by unfold lessL; rw [List.mem_filter, ofL_mem, Bool.not_eq_true', ← Bool.not_eq_true, List.contains_iff_mem]
theorem unionL_mem (a b : List Int) (x : Int) : x ∈ unionL a b ↔ x ∈ a ∨ x ∈ b := by simp [unionL, ofL_mem]
theorem bothL_len (a b : List Int) : (bothL a b).length ≤ a.length := Nat.le_trans (List.length_filter_le _ _) (ofL_len a)
theorem lessL_len (a b : List Int) : (lessL a b).length ≤ a.length := Nat.le_trans (List.length_filter_le _ _) (ofL_len a)
theorem unionL_len (a b : List Int) : (unionL a b).length ≤ a.length + b.length := by have := ofL_len (a ++ b); rw [List.length_append] at this; exact this
theorem contains_ofL (b : List Int) (n : Int) : (ofL b).contains n = b.contains n := by
  rw [Bool.eq_iff_iff]; simp [ofL_mem]

/-- a sorted list of which each stands once -/
theorem mem_compact (zs : List Int) (x : Int) : x ∈ Lib.compact zs ↔ x ∈ zs := by
  have key : ∀ m, m ≤ zs.length → ∀ y, y ∈ Lib.compactUpTo zs.toArray m ↔ y ∈ zs.take m := by
    intro m
    induction m with
    | zero => intro _ y; simp [Lib.compactUpTo]
    | succ m ih =>
      intro hm y
      have hlt : m < zs.length := hm
      rw [Lib.compactUpTo_succ, List.mem_append, ih (by omega), List.take_succ_eq_append_getElem hlt, List.mem_append]
      have hg : zs.toArray[m]! = zs[m] := by simp [getElem!_pos, hlt]
      cases hk : Lib.keeps zs.toArray m with
      | true => simp [hg]
      | false =>
        simp only [Bool.false_eq_true, if_false, List.not_mem_nil, or_false, List.mem_singleton]
        constructor
        · exact Or.inl
        · rintro (h | h)
          · exact h
          · have hm0 : m ≠ 0 := by rintro rfl; rw [Lib.keeps_lt_one _ 0 (by omega)] at hk; cases hk
            have he : zs.toArray[m]! = zs.toArray[m - 1]! := by
              by_cases e : zs.toArray[m]! = zs.toArray[m - 1]!
              · exact e
              · rw [Lib.keeps_pos e] at hk; cases hk
            have hg1 : zs.toArray[m - 1]! = zs[m - 1]'(by omega) := by simp [getElem!_pos, show m - 1 < zs.length by omega]
            rw [h, ← hg, he, hg1]
            exact List.mem_take_iff_getElem.2 ⟨m - 1, by omega, rfl⟩
  have := key zs.length (Nat.le_refl _) x
  rw [List.take_of_length_le (Nat.le_refl _)] at this
  simpa [Lib.compact] using this
theorem up_compact (zs : List Int) (hs : zs.Pairwise (· ≤ ·)) : Up (Lib.compact zs) := by
  have key : ∀ m, m ≤ zs.length → Up (Lib.compactUpTo zs.toArray m) ∧ ∀ y ∈ Lib.compactUpTo zs.toArray m, y ∈ zs.take m := by
    intro m
    induction m with
    | zero => intro _; simp [Lib.compactUpTo, Up]
    | succ m ih =>
      intro hm
      have hlt : m < zs.length := hm
      obtain ⟨h1, h2⟩ := ih (by omega)
      have hg : zs.toArray[m]! = zs[m] := by simp [getElem!_pos, hlt]
      rw [Lib.compactUpTo_succ, List.take_succ_eq_append_getElem hlt]
      cases hk : Lib.keeps zs.toArray m with
      | false =>
        simp only [Bool.false_eq_true, if_false, List.append_nil]
        exact ⟨h1, fun y hy => List.mem_append_left _ (h2 y hy)⟩
      | true =>
        simp only [if_true, hg]
        refine ⟨List.pairwise_append.2 ⟨h1, List.pairwise_singleton _ _, fun y hy z hz => ?_⟩, fun y hy => ?_⟩
        · rw [List.mem_singleton] at hz
          subst hz
          obtain ⟨i, hi, rfl⟩ := List.mem_take_iff_getElem.1 (h2 y hy)
          have him : i < m := by omega
          have hm0 : 0 < m := by omega
          have hg1 : zs.toArray[m - 1]! = zs[m - 1]'(by omega) := by simp [getElem!_pos, show m - 1 < zs.length by omega]
          have hne : zs[m - 1]'(by omega) ≠ zs[m] := by
            intro e
            rw [Lib.keeps_neg hm0 (by rw [hg, hg1, e])] at hk
            cases hk
          have hle := List.pairwise_iff_getElem.1 hs
          have h3 : zs[m - 1]'(by omega) ≤ zs[m] := hle (m - 1) m (by omega) hlt (by omega)
          have h4 : zs[i]'(by omega) ≤ zs[m - 1]'(by omega) := by
            by_cases e : i = m - 1
            · subst e; exact Int.le_refl _
            · exact hle i (m - 1) (by omega) (by omega) (by omega)
          omega
        · rcases List.mem_append.1 hy with hy | hy
          · exact List.mem_append_left _ (h2 y hy)
          · exact List.mem_append_right _ hy
  exact (key zs.length (Nat.le_refl _)).1
theorem sorted_ms (l : List Int) : (l.mergeSort fun x y => decide (x ≤ y)).Pairwise (· ≤ ·) := by
  have := List.pairwise_mergeSort (le := fun x y : Int => decide (x ≤ y)) (fun a b c h1 h2 => by simp at *; omega) (fun a b => by simp; omega) l
  exact this.imp (fun h => of_decide_eq_true h)
theorem ofL_sorted (l : List Int) : Lib.compact (l.mergeSort fun x y => decide (x ≤ y)) = ofL l :=
  ofL_eq (up_compact _ (sorted_ms l)) fun x => by rw [mem_compact]; exact (List.mergeSort_perm l _).mem_iff

/-- the order of lists -/
def cmpL : List Int → List Int → Int
  | [], [] => 0
  | [], _ :: _ => -1
  | _ :: _, [] => 1
  | x :: a, y :: b => if x < y then -1 else if y < x then 1 else cmpL a b
theorem cmpL_cases : ∀ a b, cmpL a b = -1 ∨ cmpL a b = 0 ∨ cmpL a b = 1
  | [], [] => by simp [cmpL]
  | [], _ :: _ => by simp [cmpL]
  | _ :: _, [] => by simp [cmpL]
  | x :: a, y :: b => by
    have := cmpL_cases a b
    unfold cmpL
    split
    · simp
    · split
      · simp
      · exact this
theorem cmpL_turn : ∀ a b, cmpL b a = - cmpL a b
  | [], [] => by simp [cmpL]
  | [], _ :: _ => by simp [cmpL]
  | _ :: _, [] => by simp [cmpL]
  | x :: a, y :: b => by
    have := cmpL_turn a b
    unfold cmpL
    by_cases h1 : x < y
    · rw [if_neg (by omega), if_pos h1, if_pos h1]; rfl
    · by_cases h2 : y < x
      · rw [if_pos h2, if_neg h1, if_pos h2]
      · rw [if_neg h2, if_neg h1, if_neg h1, if_neg h2]; exact this
theorem cmpL_same : ∀ a b, cmpL a b = 0 ↔ a = b
  | [], [] => by simp [cmpL]
  | [], _ :: _ => by simp [cmpL]
  | _ :: _, [] => by simp [cmpL]
  | x :: a, y :: b => by
    have := cmpL_same a b
    unfold cmpL
    by_cases h1 : x < y
    · rw [if_pos h1]; simp; omega
    · by_cases h2 : y < x
      · rw [if_neg h1, if_pos h2]; simp; omega
      · rw [if_neg h1, if_neg h2, this]
        obtain rfl : x = y := by omega
        simp
theorem cmpL_on : ∀ a b c, cmpL a b ≤ 0 → cmpL b c ≤ 0 → cmpL a c ≤ 0
  | [], b, [], _, _ => by simp [cmpL]
  | [], b, _ :: _, _, _ => by simp [cmpL]
  | _ :: _, [], c, h1, _ => by simp [cmpL] at h1
  | _ :: _, _ :: _, [], _, h2 => by simp [cmpL] at h2
  | x :: a, y :: b, z :: c, h1, h2 => by
    have ih := cmpL_on a b c
    rw [cmpL] at h1 h2 ⊢
    by_cases e1 : x < y
    · by_cases e2 : y < z
      · rw [if_pos (by omega)]; omega
      · by_cases e3 : z < y
        · rw [if_neg e2, if_pos e3] at h2; omega
        · rw [if_pos (by omega)]; omega
    · by_cases e4 : y < x
      · rw [if_neg e1, if_pos e4] at h1; omega
      · rw [if_neg e1, if_neg e4] at h1
        by_cases e2 : y < z
        · rw [if_pos (by omega)]; omega
        · by_cases e3 : z < y
          · rw [if_neg e2, if_pos e3] at h2; omega
          · rw [if_neg e2, if_neg e3] at h2
            rw [if_neg (by omega), if_neg (by omega)]
            exact ih h1 h2
/-- one step of the order, at a place -/
theorem cmpL_at {a b : List Int} {k : Nat} (ha : k < a.length) (hb : k < b.length) : cmpL (a.drop k) (b.drop k) = if a[k] < b[k] then -1 else if b[k] < a[k] then 1 else cmpL (a.drop (k + 1)) (b.drop (k + 1)) := by
  rw [List.drop_eq_getElem_cons ha, List.drop_eq_getElem_cons hb, cmpL]
theorem cmpL_endA {a b : List Int} {k : Nat} (ha : ¬ k < a.length) (hb : k < b.length) : cmpL (a.drop k) (b.drop k) = -1 := by
  rw [List.drop_eq_nil_of_le (by omega), List.drop_eq_getElem_cons hb, cmpL]
theorem cmpL_endB {a b : List Int} {k : Nat} (ha : k < a.length) (hb : ¬ k < b.length) : cmpL (a.drop k) (b.drop k) = 1 := by
  rw [List.drop_eq_getElem_cons ha, List.drop_eq_nil_of_le (show b.length ≤ k by omega), cmpL]
theorem cmpL_end {a b : List Int} {k : Nat} (ha : ¬ k < a.length) (hb : ¬ k < b.length) : cmpL (a.drop k) (b.drop k) = 0 := by
  rw [List.drop_eq_nil_of_le (show a.length ≤ k by omega), List.drop_eq_nil_of_le (show b.length ≤ k by omega), cmpL]

end Go.Proofs.YtjelgphhlcecoaaGreatDoor
