/- wakes of layer 4. -/
import Derived.Test.YtklfcjgambdncaaDoorUnion
namespace Go.Proofs.YtklfcjgambdncaaDoor
open Go.RowKit

theorem size_al (u : World) (o : Obj) : (u.alloc o).heap.size = u.heap.size + 1 := by simp
theorem Nums.lit2s (u : World) (o : Obj) (a b : Int) : Nums ((u.alloc o).alloc (.cells #[.int .i64 a, .int .i64 b] 3)) (.slice (some ⟨u.heap.size + 1, 0, none⟩) 2 2) [a, b] := by
  have := Nums.lit2 (u.alloc o) a b
  rwa [size_al] at this
theorem Nums.lit1s (u : World) (o : Obj) (a : Int) : Nums ((u.alloc o).alloc (.cells #[.int .i64 a] 3)) (.slice (some ⟨u.heap.size + 1, 0, none⟩) 1 1) [a] := by
  have := Nums.lit1 (u.alloc o) a
  rwa [size_al] at this

set_option maxHeartbeats 1000000 in
theorem wakesC (w : World) : Calls Tryd.prog 4 #[] w fun e w' => e = .returned (.bool true) ∧ Below w.heap.size w w' := by
  have G1 := hid unionW
  have G2 := hid sameW
  have G3 := hid orderW
  have al : Hid (∀ (u : World) (o : Obj), Below u.heap.size u (u.alloc o)) := fun u o => (Below.refl _ u).alloc (Nat.le_refl _) _
  go_enter Tryd.func4, Tryd.ntmps4
  go_wp2_with (first
    | (go_at_call 9; refine (G1.out _ _ _ (Nums.lit2k _ _ _ _) (Nums.lit2s _ _ _ _)).mono ?_; rintro e w1 ⟨v1, rfl, hN1, hb1⟩)
    | (go_at_call 8; refine (G2.out _ _ _ (hN1.keep (al.out _ _)) (Nums.lit3 _ _ _ _)).mono ?_; rintro e w2 ⟨rfl, hb2⟩)
    | (go_at_call 10; refine (G3.out _ _ _ (Nums.lit2k _ _ _ _) (Nums.lit1s _ _ _)).mono ?_; rintro e w3 ⟨rfl, hw3⟩; subst w3))
  go_ret
  exact ⟨rfl, bl_step (bl_step (bl_step (bl_step (bl_step (bl_step (al.out _ _) (al.out _ _)) hb1) (al.out _ _)) hb2) (al.out _ _)) (al.out _ _)⟩

end Go.Proofs.YtklfcjgambdncaaDoor
