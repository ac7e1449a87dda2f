/- The contracts of sets.Union and of wakes. -/
import Derived.Test.YtklfcjgambdncaaDoorApp
import Derived.Test.YtklfcjgambdncaaDoorOf
import Derived.Test.YtklfcjgambdncaaDoorOrder
namespace Go.Proofs.YtklfcjgambdncaaDoor
open Go.RowKit

theorem setsUnion (va vb : Value) (la lb : List Int) (w : World) (hla : la.length ≤ 100000) (hlb : lb.length ≤ 100000) (hA : Nums w va la) (hB : Nums w vb lb) :
    Calls Tryd.prog 9 #[va, vb] w fun e w' => ∃ v', e = .returned v' ∧ Own w' w.heap.size v' (unionL la lb) ∧ Below w.heap.size w w' := by
  obtain ⟨aa, ca, rfl, hA1⟩ := id hA
  obtain ⟨ab, cb, rfl, hB1⟩ := id hB
  clear hA1 hB1
  have hb0 : Below w.heap.size w (w.alloc (.cells #[.slice aa la.length ca, .slice ab lb.length cb] 23)) := (Below.refl _ w).alloc (Nat.le_refl _) _
  have G1 := hid (concatC (.slice aa la.length ca) (.slice ab lb.length cb) la lb w.heap.size (w.alloc (.cells #[.slice aa la.length ca, .slice ab lb.length cb] 23)) (by omega) (by omega) (by simp) (by simp) (by simp) (hA.keep hb0) (hB.keep hb0))
  have G2 : Hid (∀ v u, Nums u v (la ++ lb) → Calls Tryd.prog 13 #[v] u fun e w' => ∃ v', e = .returned v' ∧ Own w' u.heap.size v' (unionL la lb) ∧ Below u.heap.size u w') := fun v u h => setsOf v (la ++ lb) u (by rw [List.length_append]; omega) h
  clear hA hB
  go_enter Tryd.func9, Tryd.ntmps9
  go_wp2_with (first
    | (go_at_call 14; refine (G1.out).mono ?_; rintro e w1 ⟨v1, rfl, hO1, hb1⟩)
    | (go_at_call 13; refine (G2.out _ _ (Nums.of_row hO1)).mono ?_; rintro e w2 ⟨v2, rfl, hO2, hb2⟩))
  go_ret
  exact ⟨_, rfl, own_base hO2 (bl_step hb0 hb1).size, bl_step (bl_step hb0 hb1) hb2⟩

theorem Nums.lit1 (u : World) (a : Int) : Nums (u.alloc (.cells #[.int .i64 a] 3)) (.slice (some ⟨u.heap.size, 0, none⟩) 1 1) [a] := Nums.of_row (Own.lit1 u a)
theorem Nums.lit2 (u : World) (a b : Int) : Nums (u.alloc (.cells #[.int .i64 a, .int .i64 b] 3)) (.slice (some ⟨u.heap.size, 0, none⟩) 2 2) [a, b] := Nums.of_row (Own.lit2 u a b)
theorem Nums.lit3 (u : World) (a b c : Int) : Nums (u.alloc (.cells #[.int .i64 a, .int .i64 b, .int .i64 c] 3)) (.slice (some ⟨u.heap.size, 0, none⟩) 3 3) [a, b, c] := Nums.of_row (Own.lit3 u a b c)
theorem Nums.lit2k (u : World) (a b : Int) (o : Obj) : Nums ((u.alloc (.cells #[.int .i64 a, .int .i64 b] 3)).alloc o) (.slice (some ⟨u.heap.size, 0, none⟩) 2 2) [a, b] := (Nums.lit2 u a b).keep ((Below.refl _ _).alloc (Nat.le_refl _) _)

theorem union_wakes : unionL [3, 1] [2, 1] = [1, 2, 3] := by decide +kernel

theorem unionW (va vb : Value) (u : World) (h1 : Nums u va [3, 1]) (h2 : Nums u vb [2, 1]) : Calls Tryd.prog 9 #[va, vb] u fun e w' => ∃ v', e = .returned v' ∧ Nums w' v' [1, 2, 3] ∧ Below u.heap.size u w' := by
  have := setsUnion va vb [3, 1] [2, 1] u (by decide) (by decide) h1 h2
  rw [union_wakes] at this
  exact this.mono fun e w' ⟨v', he, hO, hb⟩ => ⟨v', he, Nums.of_row hO, hb⟩
theorem sameW (va vb : Value) (u : World) (h1 : Nums u va [1, 2, 3]) (h2 : Nums u vb [1, 2, 3]) : Calls Tryd.prog 8 #[va, vb] u fun e w' => e = .returned (.bool true) ∧ Below u.heap.size u w' := by
  have := refSame va vb [1, 2, 3] [1, 2, 3] u (by decide) (by decide) h1 h2
  rwa [decide_eq_true rfl] at this
theorem orderW (va vb : Value) (u : World) (h1 : Nums u va [1, 2]) (h2 : Nums u vb [1]) : Calls Tryd.prog 10 #[va, vb] u fun e w' => e = .returned (.int .i64 1) ∧ w' = u := by
  have := setsOrder va vb [1, 2] [1] u (by decide) (by decide) h1 h2
  rwa [show cmpL [1, 2] [1] = 1 by decide +kernel] at this
end Go.Proofs.YtklfcjgambdncaaDoor
