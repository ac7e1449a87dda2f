/- SetsParts. -/
import Derived.Test.YtklfcjgambdncaaOpen
import Derived.Test.YtklfcjgambdncaaWakes
import Derived.Test.YtklfcjgambdncaaRefTwo
import Derived.Test.YtklfcjgambdncaaBoth
import Derived.Test.YtklfcjgambdncaaPartsMath
namespace Go.Proofs.Ytklfcjgambdncaa
open Go.ChangeShapes Go.WideShapes Go.ChangeAt Go.RowKit

set_option maxHeartbeats 4000000 in
theorem partsWalk (la lb : List Int) (va vb : Value) (w : World) (hla : la.length ≤ 9223372036854775807) (hlb : lb.length ≤ 9223372036854775807) (hA : Nums w va la) (hB : Nums w vb lb) :
    Calls Try.prog 5 #[va, vb] w fun e w' => e = .returned (.bool true) ∧ Below w.heap.size w w' := by
  have GW := hid wakesC
  have GL : Hid (∀ v l u, l.length ≤ 9223372036854775807 → Nums u v l → Calls Try.prog 9 #[v] u fun e w' => e = .returned (.bool (decide (300 < l.length))) ∧ w' = u) := fun v l u hl h => longC v l u hl h
  have hA' := hid hA
  have hB' := hid hB
  clear hA hB
  by_cases hL : 300 < la.length
  · have GL1 : Hid (∀ u, Nums u va la → Calls Try.prog 9 #[va] u fun e w' => e = .returned (.bool true) ∧ w' = u) := fun u h => by
      have := GL.out va la u hla h
      rwa [decide_eq_true hL] at this
    go_enter Try.func5, Try.ntmps5
    go_wp2_with (first
      | (go_at_call 8; refine (GW.out _).mono ?_; rintro e w1 ⟨rfl, hb1⟩)
      | (go_at_call 9; refine (GL1.out _ (hA'.out.keep hb1)).mono ?_; rintro e w2 ⟨rfl, hw2⟩; subst w2))
    go_ret
    exact ⟨rfl, hb1⟩
  have GL1 : Hid (∀ u, Nums u va la → Calls Try.prog 9 #[va] u fun e w' => e = .returned (.bool false) ∧ w' = u) := fun u h => by
    have := GL.out va la u hla h
    rwa [decide_eq_false hL] at this
  by_cases hL2 : 300 < lb.length
  · have GL2 : Hid (∀ u, Nums u vb lb → Calls Try.prog 9 #[vb] u fun e w' => e = .returned (.bool true) ∧ w' = u) := fun u h => by
      have := GL.out vb lb u hlb h
      rwa [decide_eq_true hL2] at this
    go_enter Try.func5, Try.ntmps5
    go_wp2_with (first
      | (go_at_call 8; refine (GW.out _).mono ?_; rintro e w1 ⟨rfl, hb1⟩)
      | (go_at_call_of 9 va; refine (GL1.out _ (hA'.out.keep hb1)).mono ?_; rintro e w2 ⟨rfl, hw2⟩; subst w2)
      | (go_at_call_of 9 vb; refine (GL2.out _ (hB'.out.keep hb1)).mono ?_; rintro e w2 ⟨rfl, hw2⟩; subst w2))
    go_ret
    exact ⟨rfl, hb1⟩
  have GL2 : Hid (∀ u, Nums u vb lb → Calls Try.prog 9 #[vb] u fun e w' => e = .returned (.bool false) ∧ w' = u) := fun u h => by
    have := GL.out vb lb u hlb h
    rwa [decide_eq_false hL2] at this
  have GS : Hid (∀ va vb m u, m.length ≤ 100000 → Nums u va m → Nums u vb m → Calls Try.prog 12 #[va, vb] u fun e w' => e = .returned (.bool true) ∧ Below u.heap.size u w') := fun va vb m u hm h1 h2 => by
    have := refSame va vb m m u (by omega) (by omega) h1 h2
    rwa [decide_eq_true rfl] at this
  have hx := bothL_len la lb
  have hy := lessL_len la lb
  have hz := lessL_len lb la
  have hu := unionL_len (bothL la lb) (lessL la lb)
  have hq := unionL_len la lb
  have GX : Hid (∀ va vb u, Nums u va la → Nums u vb lb → Calls Try.prog 20 #[va, vb] u fun e w' => ∃ v', e = .returned v' ∧ Own w' u.heap.size v' (bothL la lb) ∧ Below u.heap.size u w') := fun va vb u h1 h2 => setsBoth va vb la lb u (by omega) (by omega) h1 h2
  have GY : Hid (∀ va vb u, Nums u va la → Nums u vb lb → Calls Try.prog 22 #[va, vb] u fun e w' => ∃ v', e = .returned v' ∧ Own w' u.heap.size v' (lessL la lb) ∧ Below u.heap.size u w') := fun va vb u h1 h2 => setsLess va vb la lb u (by omega) (by omega) h1 h2
  have GZ : Hid (∀ va vb u, Nums u va lb → Nums u vb la → Calls Try.prog 22 #[va, vb] u fun e w' => ∃ v', e = .returned v' ∧ Own w' u.heap.size v' (lessL lb la) ∧ Below u.heap.size u w') := fun va vb u h1 h2 => setsLess va vb lb la u (by omega) (by omega) h1 h2
  have PXY : Hid (∀ va vb u, Nums u va (bothL la lb) → Nums u vb (lessL la lb) → Calls Try.prog 20 #[va, vb] u fun e w' => ∃ a c, e = .returned (.slice a 0 c) ∧ Below u.heap.size u w') := fun va vb u h1 h2 => by
    have := setsBoth va vb (bothL la lb) (lessL la lb) u (by omega) (by omega) h1 h2
    rw [parts_xy la lb] at this
    exact this.mono fun e w' ⟨v', he, hO, hb⟩ => by
      obtain ⟨a, c, rfl, _⟩ := Nums.of_row hO
      exact ⟨a, c, he, hb⟩
  have PXZ : Hid (∀ va vb u, Nums u va (bothL la lb) → Nums u vb (lessL lb la) → Calls Try.prog 20 #[va, vb] u fun e w' => ∃ a c, e = .returned (.slice a 0 c) ∧ Below u.heap.size u w') := fun va vb u h1 h2 => by
    have := setsBoth va vb (bothL la lb) (lessL lb la) u (by omega) (by omega) h1 h2
    rw [parts_xz la lb] at this
    exact this.mono fun e w' ⟨v', he, hO, hb⟩ => by
      obtain ⟨a, c, rfl, _⟩ := Nums.of_row hO
      exact ⟨a, c, he, hb⟩
  have PYZ : Hid (∀ va vb u, Nums u va (lessL la lb) → Nums u vb (lessL lb la) → Calls Try.prog 20 #[va, vb] u fun e w' => ∃ a c, e = .returned (.slice a 0 c) ∧ Below u.heap.size u w') := fun va vb u h1 h2 => by
    have := setsBoth va vb (lessL la lb) (lessL lb la) u (by omega) (by omega) h1 h2
    rw [parts_yz la lb] at this
    exact this.mono fun e w' ⟨v', he, hO, hb⟩ => by
      obtain ⟨a, c, rfl, _⟩ := Nums.of_row hO
      exact ⟨a, c, he, hb⟩
  have GU1 : Hid (∀ va vb u, Nums u va (bothL la lb) → Nums u vb (lessL la lb) → Calls Try.prog 18 #[va, vb] u fun e w' => ∃ v', e = .returned v' ∧ Own w' u.heap.size v' (unionL (bothL la lb) (lessL la lb)) ∧ Below u.heap.size u w') := fun va vb u h1 h2 => by
    have := setsUnion va vb (bothL la lb) (lessL la lb) u (by omega) (by omega) h1 h2
    exact this
  have GU2 : Hid (∀ va vb u, Nums u va (unionL (bothL la lb) (lessL la lb)) → Nums u vb (lessL lb la) → Calls Try.prog 18 #[va, vb] u fun e w' => ∃ v', e = .returned v' ∧ Own w' u.heap.size v' (unionL la lb) ∧ Below u.heap.size u w') := fun va vb u h1 h2 => by
    have := setsUnion va vb (unionL (bothL la lb) (lessL la lb)) (lessL lb la) u (by omega) (by omega) h1 h2
    rwa [parts_all] at this
  have HU : Hid (∀ va vb u, Nums u va la → Nums u vb lb → Calls Try.prog 19 #[va, vb] u fun e w' => ∃ v', e = .returned v' ∧ Own w' u.heap.size v' (unionL la lb) ∧ Below u.heap.size u w') := fun va vb u h1 h2 => refUnion va vb la lb u (by omega) (by omega) h1 h2
  go_enter Try.func5, Try.ntmps5
  go_wp2_with (first
    | (go_at_call 8; refine (GW.out _).mono ?_; rintro e w1 ⟨rfl, hb1⟩; have na1 := hid (hA'.out.keep hb1); have nb1 := hid (hB'.out.keep hb1))
    | (go_at_call_of 9 va; refine (GL1.out _ na1.out).mono ?_; rintro e wz ⟨rfl, hwz⟩; subst wz)
    | (go_at_call_of 9 vb; refine (GL2.out _ nb1.out).mono ?_; rintro e wz ⟨rfl, hwz⟩; subst wz)
    | (go_at_call_of 20 vb; refine (GX.out va vb _ na1.out nb1.out).mono ?_; rintro e w2 ⟨vx, rfl, hOx, hb2⟩; have na2 := hid (na1.out.keep hb2); have nb2 := hid (nb1.out.keep hb2); have nx2 := hid (Nums.of_row hOx))
    | (go_at_call 22; refine (GZ.out vb va _ nb3.out na3.out).mono ?_; rintro e w4 ⟨vz, rfl, hOz, hb4⟩; have na4 := hid (na3.out.keep hb4); have nb4 := hid (nb3.out.keep hb4); have nx4 := hid (nx3.out.keep hb4); have ny4 := hid (ny3.out.keep hb4); have nz4 := hid (Nums.of_row hOz))
    | (go_at_call 22; refine (GY.out va vb _ na2.out nb2.out).mono ?_; rintro e w3 ⟨vy, rfl, hOy, hb3⟩; have na3 := hid (na2.out.keep hb3); have nb3 := hid (nb2.out.keep hb3); have nx3 := hid (nx2.out.keep hb3); have ny3 := hid (Nums.of_row hOy))
    | (go_at_call_of 20 vx; go_at_call_of 20 vy; refine (PXY.out vx vy _ nx4.out ny4.out).mono ?_; rintro e w5 ⟨a4, c4, rfl, hb5⟩; have na5 := hid (na4.out.keep hb5); have nb5 := hid (nb4.out.keep hb5); have nx5 := hid (nx4.out.keep hb5); have ny5 := hid (ny4.out.keep hb5); have nz5 := hid (nz4.out.keep hb5))
    | (go_at_call_of 20 vx; go_at_call_of 20 vz; refine (PXZ.out vx vz _ nx5.out nz5.out).mono ?_; rintro e w6 ⟨a5, c5, rfl, hb6⟩; have na6 := hid (na5.out.keep hb6); have nb6 := hid (nb5.out.keep hb6); have nx6 := hid (nx5.out.keep hb6); have ny6 := hid (ny5.out.keep hb6); have nz6 := hid (nz5.out.keep hb6))
    | (go_at_call_of 20 vy; go_at_call_of 20 vz; refine (PYZ.out vy vz _ ny6.out nz6.out).mono ?_; rintro e w7 ⟨a6, c6, rfl, hb7⟩; have na7 := hid (na6.out.keep hb7); have nb7 := hid (nb6.out.keep hb7); have nx7 := hid (nx6.out.keep hb7); have ny7 := hid (ny6.out.keep hb7); have nz7 := hid (nz6.out.keep hb7))
    | (go_at_call_of 18 vx; refine (GU1.out vx vy _ nx7.out ny7.out).mono ?_; rintro e w8 ⟨vu, rfl, hOu, hb8⟩; have na8 := hid (na7.out.keep hb8); have nb8 := hid (nb7.out.keep hb8); have nx8 := hid (nx7.out.keep hb8); have ny8 := hid (ny7.out.keep hb8); have nz8 := hid (nz7.out.keep hb8); have nu8 := hid (Nums.of_row hOu))
    | (go_at_call_of 18 vu; refine (GU2.out vu vz _ nu8.out nz8.out).mono ?_; rintro e w9 ⟨vq, rfl, hOq, hb9⟩; have na9 := hid (na8.out.keep hb9); have nb9 := hid (nb8.out.keep hb9); have nx9 := hid (nx8.out.keep hb9); have ny9 := hid (ny8.out.keep hb9); have nz9 := hid (nz8.out.keep hb9); have nu9 := hid (nu8.out.keep hb9); have nq9 := hid (Nums.of_row hOq))
    | (go_at_call 19; refine (HU.out va vb _ na9.out nb9.out).mono ?_; rintro e w10 ⟨vr, rfl, hOr, hb10⟩; have na10 := hid (na9.out.keep hb10); have nb10 := hid (nb9.out.keep hb10); have nx10 := hid (nx9.out.keep hb10); have ny10 := hid (ny9.out.keep hb10); have nz10 := hid (nz9.out.keep hb10); have nu10 := hid (nu9.out.keep hb10); have nq10 := hid (nq9.out.keep hb10); have nr10 := hid (Nums.of_row hOr))
    | (go_at_call 12; refine (GS.out vq vr _ _ (by omega) nq10.out nr10.out).mono ?_; rintro e w11 ⟨rfl, hb11⟩; have na11 := hid (na10.out.keep hb11); have nb11 := hid (nb10.out.keep hb11); have nx11 := hid (nx10.out.keep hb11); have ny11 := hid (ny10.out.keep hb11); have nz11 := hid (nz10.out.keep hb11); have nu11 := hid (nu10.out.keep hb11); have nq11 := hid (nq10.out.keep hb11); have nr11 := hid (nr10.out.keep hb11)))
  go_ret
  exact ⟨rfl, bl_step (bl_step (bl_step (bl_step (bl_step (bl_step (bl_step (bl_step (bl_step (bl_step hb1 hb2) hb3) hb4) hb5) hb6) hb7) hb8) hb9) hb10) hb11⟩

set_option maxRecDepth 100000 in
theorem setsParts_lifted (os : Os) (started : os.Started) (H : Type) (enc : TypeId × Value → H) :
    ReturnsInHanded {} Try.checked os 5 .any (Rows.setsPartsSpec.pre6 enc Try.prog Try.f5 Rows.setsPartsRow.domain false) (Rows.setsPartsSpec.post enc Try.prog Try.f5 false true false false) := by
  refine returnsInHanded_of_change (C := Try.checked) Try.own started (by kernel_rfl) Try.func5
    (ChangeSpec.witness6 (enc := enc) (C := Try.checked) false ⟨#[], #[.slice none 0 0, .slice none 0 0], []⟩ 8 (by kernel_rfl) (by kernel_rfl) (by kernel_rfl) (by kernel_rfl)) ?_
  intro W base args ds gs before hval0 hW hcnd _
  have hval : ∀ (j : Nat) t v, Try.f5.params[j]? = some t → args[j]? = some v → Value.okWide Try.prog W .any base t v := hval0
  have hW' := hW
  obtain ⟨p, q, hA0, hV, rfl, hfz, hnd⟩ := hW
  have hA : DataW.TrodAll enc Try.prog W 0 (fun _ => true) true Try.f5.params.toList args.toList ds p := hA0
  rw [Try.params5] at hA hval
  obtain ⟨la, lb, va, vb, d0, d1, rfl, rfl, hNa, hNb, hla, hlb⟩ := open_nn hval hA
  obtain ⟨rfl, rfl⟩ := trodVars_none hV
  clear hA0 hval0
  refine (partsWalk la lb va vb W hla hlb hNa hNb).mono fun e W' ⟨he, hb⟩ => ?_
  subst he
  exact ⟨_, rfl, law_post (by kernel_rfl) rfl (by kernel_rfl) rfl hW' hb⟩

theorem setsParts_holds : Rows.SetsPartsSaid :=
  OpenClaim.holds_of_wide 5 Try.f5 rfl rfl rfl rfl rfl rfl rfl ⟨rfl, rfl, rfl, rfl, rfl⟩ rfl rfl rfl rfl rfl (by kernel_rfl) Try.func5 (by kernel_rfl)
    (of_decide_eq_true (by kernel_rfl)) (by unfold Func.isWrapper; first | (rw [if_pos (by decide +kernel)]; kernel_rfl) | (rw [if_neg (by decide +kernel)]; exact ⟨rfl, rfl⟩))
    (fun os started H enc _ => setsParts_lifted os started H enc)

end Go.Proofs.Ytklfcjgambdncaa
