/- The contract of sets.Of: the set of the numbers of a list, in memory of the call's own. -/
import Derived.Test.YtklfcjgambdncaaDoorNums
import Derived.Test.YtklfcjgambdncaaDoorShelf
namespace Go.Proofs.YtklfcjgambdncaaDoor
open Go.RowKit Go.Sort

theorem own_grow {w : World} {B size n : Nat} {e : TypeId} {v : Value} {xs : List Value} (h : w.ownsRow B e size v n xs) (os : Array Obj) : (grow w os).ownsRow B e size v n xs :=
  own_keep h fun k hk => by
    have := (h.lt k hk).2
    unfold grow
    rw [Array.getElem?_append_left this]
theorem bl_grow {B : Nat} {w0 w : World} (h : Below B w0 w) (hB : B ≤ w.heap.size) (os : Array Obj) : Below B w0 (grow w os) :=
  ⟨h.os, h.tape, h.output, Nat.le_trans h.size (by unfold grow; rw [Array.size_append]; omega), fun k hk => by
    rw [← h.block k hk]; unfold grow; rw [Array.getElem?_append_left (by omega)]⟩
theorem own_holds {w : World} {B : Nat} {v : Value} {l : List Int} (h : Own w B v l) (hv : v ≠ .slice none 0 0) : ∃ g cap, v = .slice (some ⟨g, 0, none⟩) l.length cap ∧ B ≤ g ∧ g < w.heap.size ∧ l.length ≤ cap ∧ Holds (Value.int .i64) w g 0 l.toArray := by
  obtain ⟨g, cap, rfl, h1, h2, h3, _, _, h4⟩ := Lib.holds_of_ownsRow (enc := Value.int .i64) (zs := l) h hv
  exact ⟨g, cap, rfl, h1, h2, h3, h4⟩
theorem own_put {w : World} {B g cap q k : Nat} {l ys : List Int} (h : Own w B (.slice (some ⟨g, 0, none⟩) l.length cap) l) (hy : ys.length = l.length) (hk : k ≤ l.length) (zs : List Int) (hz : ys.take k = zs) :
    Own (putRow (Value.int .i64) (Sort.ahead w q) g 0 ys.toArray) B (.slice (some ⟨g, 0, none⟩) k cap) zs := by
  have := Lib.ownsRow_putRow (enc := Value.int .i64) (zs := l) (ys := ys) (q := q) h hy hk
  subst hz
  unfold Own
  rw [List.length_take, Nat.min_eq_left (by omega)]
  exact this
theorem own_ref {w : World} {B n size : Nat} {e : TypeId} {v : Value} {xs : List Value} (_ : w.ownsRow B e size v n xs) (hB : B ≤ w.heap.size) : Below B w w := (Below.refl _ w).mono hB

def msL (l : List Int) : List Int := l.mergeSort fun x y => decide (x ≤ y)
theorem msL_nil : msL [] = [] := by unfold msL; exact List.mergeSort_nil
theorem msL_len (l : List Int) : (msL l).length = l.length := (List.mergeSort_perm l _).length_eq

theorem sortOwn (v : Value) (l : List Int) (B : Nat) (w : World) (hB : B ≤ w.heap.size) (hl : l.length ≤ 1000000) (hO : Own w B v l) :
    Calls Tryd.prog 19 #[v] w fun e w' => e = .returned (.tuple #[]) ∧ Own w' B v (msL l) ∧ Below B w w' := by
  by_cases hv : v = .slice none 0 0
  · subst hv
    have h0 : l = [] := List.length_eq_zero_iff.1 (by rcases hO.2 with ⟨_, h⟩ | ⟨g, cap, cur, h, _⟩; exact h; cases h)
    subst h0
    exact (Tryd.slices_Sort_int_none none 0 w).mono fun e w' ⟨he, hw⟩ => by subst hw; rw [msL_nil]; exact ⟨he, hO, own_ref hO hB⟩
  · obtain ⟨g, cap, rfl, h1, h2, h3, h4⟩ := own_holds hO hv
    refine (Tryd.slices_Sort_int g 0 cap l w h4 h2 (by omega)).mono fun e w' ⟨he, n, os, hw⟩ => ?_
    subst hw
    refine ⟨he, own_grow (B := B) ?_ os, bl_grow (Lib.below_putRow (own_ref hO hB) h1) ?_ os⟩
    · have := own_put (q := n) hO (ys := msL l) (msL_len l) (Nat.le_refl _) (msL l) (List.take_of_length_le (by rw [msL_len]; exact Nat.le_refl _))
      rw [msL_len]
      rw [Own, msL_len] at this
      exact this
    · rw [size_putRow]; exact hB

theorem compact_len (l : List Int) : (Lib.compact (msL l)).length ≤ l.length := by
  have := ofL_sorted l
  unfold msL
  rw [this]
  exact ofL_len l

theorem compactOwn (v : Value) (l : List Int) (B : Nat) (w : World) (hB : B ≤ w.heap.size) (hl : l.length ≤ 1000000) (hO : Own w B v (msL l)) :
    Calls Tryd.prog 20 #[v] w fun e w' => ∃ v', e = .returned v' ∧ Own w' B v' (ofL l) ∧ Below B w w' := by
  by_cases hv : v = .slice none 0 0
  · subst hv
    have h0 : msL l = [] := List.length_eq_zero_iff.1 (by rcases hO.2 with ⟨_, h⟩ | ⟨g, cap, cur, h, _⟩; exact h; cases h)
    have h1 : l = [] := List.length_eq_zero_iff.1 (by rw [← msL_len, h0]; rfl)
    subst h1
    exact (Tryd.slices_Compact_int_empty none 0 w).mono fun e w' ⟨he, hw⟩ => by subst hw; rw [msL_nil] at hO; exact ⟨_, he, hO, own_ref hO hB⟩
  · obtain ⟨g, cap, rfl, h1, h2, h3, h4⟩ := own_holds hO hv
    have hml := msL_len l
    have hcl := compact_len l
    refine (Tryd.slices_Compact_int g 0 cap (msL l) w h4 (by omega) h3).mono fun e w' ⟨he, q, hw⟩ => ?_
    subst hw
    refine ⟨_, he, ?_, Lib.below_putRow (own_ref hO hB) h1⟩
    rw [← ofL_sorted]
    exact own_put hO (by rw [List.length_append, List.length_replicate]; omega) (by omega) _ (List.take_left' rfl)

set_option maxHeartbeats 1000000 in
theorem setsOf (v : Value) (l : List Int) (w : World) (hl : l.length ≤ 1000000) (hA : Nums w v l) :
    Calls Tryd.prog 13 #[v] w fun e w' => ∃ v', e = .returned v' ∧ Own w' w.heap.size v' (ofL l) ∧ Below w.heap.size w w' := by
  obtain ⟨i0, hi, hz0, hz1, hz2⟩ := info_parts Tryd.info3
  have hN : w.ownsRow w.heap.size 3 1 (.slice none 0 0) 0 [] := World.ownsRow_nil w _ _ _
  have G1 : Hid (∀ v u, w.heap.size ≤ u.heap.size → Own u w.heap.size v l → Calls Tryd.prog 19 #[v] u fun e w' => e = .returned (.tuple #[]) ∧ Own w' w.heap.size v (msL l) ∧ Below w.heap.size u w') := fun v u h1 h2 => sortOwn v l _ u h1 hl h2
  have G2 : Hid (∀ v u, w.heap.size ≤ u.heap.size → Own u w.heap.size v (msL l) → Calls Tryd.prog 20 #[v] u fun e w' => ∃ v', e = .returned v' ∧ Own w' w.heap.size v' (ofL l) ∧ Below w.heap.size u w') := fun v u h1 h2 => compactOwn v l _ u h1 hl h2
  by_cases h0 : l = []
  · subst h0
    rcases hA.empty with rfl | ⟨a, cap, rfl⟩
    · clear hA
      go_enter Tryd.func13, Tryd.ntmps13
      go_wp2_with (first
        | (go_at_call 19; refine (G1.out _ _ (Nat.le_refl _) hN).mono ?_; rintro e w1 ⟨rfl, hO1, hb1⟩)
        | (go_at_call 20; refine (G2.out _ _ hb1.size hO1).mono ?_; rintro e w2 ⟨v2, rfl, hO2, hb2⟩))
      go_ret
      exact ⟨_, rfl, hO2, hb1.trans hb2⟩
    · clear hA
      go_enter Tryd.func13, Tryd.ntmps13
      go_wp2_with (first
        | (at_builtin; refine wpList_append_own _ rfl _ _ 23 rfl w.heap.size 3 i0 (.int .i64 0) 1 8 Tryd.underlying23 hi hz0 hz1 hz2 rfl (by decide) _ _ _ rfl hN a 0 cap [] rfl rfl (by intro j u hj; simp at hj) (by simp) (by unfold maxLen; omega) (by omega) (Nat.le_refl _) ?_; intro v' w0 hO0 hgrow _)
        | (go_at_call 19; refine (G1.out _ _ hgrow.size hO0).mono ?_; rintro e w1 ⟨rfl, hO1, hb1⟩)
        | (go_at_call 20; refine (G2.out _ _ (Nat.le_trans hgrow.size hb1.size) hO1).mono ?_; rintro e w2 ⟨v2, rfl, hO2, hb2⟩))
      go_ret
      exact ⟨_, rfl, hO2, ((below_app0 hN (Below.refl _ w) (Nat.le_refl _) hgrow).trans hb1).trans hb2⟩
  · obtain ⟨b, o, cap, rfl, hcap, hb, hc⟩ := hA.at (List.length_pos_iff.2 h0)
    have hnews := Nums.news hc
    have hone := numCells_one l
    have hnl := numCells_len l
    generalize hcs : numCells l = cs at hnews hone hnl
    clear hA hc
    go_enter Tryd.func13, Tryd.ntmps13
    go_wp2_with (first
      | (at_builtin; refine wpList_append_own _ rfl _ _ 23 rfl w.heap.size 3 i0 (.int .i64 0) 1 8 Tryd.underlying23 hi hz0 hz1 hz2 rfl (by decide) _ _ _ rfl hN ⟨b, o, none⟩ l.length cap cs rfl (by omega) hnews hone (by unfold maxLen; omega) (by omega) (Nat.le_refl _) ?_; intro v' w0 hO0 hgrow _; rw [Nat.zero_add, List.nil_append, ← hcs] at hO0)
      | (go_at_call 19; refine (G1.out _ _ hgrow.size hO0).mono ?_; rintro e w1 ⟨rfl, hO1, hb1⟩)
      | (go_at_call 20; refine (G2.out _ _ (Nat.le_trans hgrow.size hb1.size) hO1).mono ?_; rintro e w2 ⟨v2, rfl, hO2, hb2⟩))
    go_ret
    exact ⟨_, rfl, hO2, ((below_app0 hN (Below.refl _ w) (Nat.le_refl _) hgrow).trans hb1).trans hb2⟩

end Go.Proofs.YtklfcjgambdncaaDoor
