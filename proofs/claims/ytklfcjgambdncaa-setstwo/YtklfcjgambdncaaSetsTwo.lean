/- SetsTwo. -/
import Derived.Test.YtklfcjgambdncaaOpen
import Derived.Test.YtklfcjgambdncaaWakes
import Derived.Test.YtklfcjgambdncaaRefTwo
import Derived.Test.YtklfcjgambdncaaBoth
namespace Go.Proofs.Ytklfcjgambdncaa
open Go.ChangeShapes Go.WideShapes Go.ChangeAt Go.RowKit

set_option maxHeartbeats 4000000 in
theorem twoWalk (la lb : List Int) (va vb : Value) (w : World) (hla : la.length ≤ 9223372036854775807) (hlb : lb.length ≤ 9223372036854775807) (hA : Nums w va la) (hB : Nums w vb lb) :
    Calls Try.prog 4 #[va, vb] w fun e w' => e = .returned (.bool true) ∧ Below w.heap.size w w' := by
  have GW := hid wakesC
  have GL : Hid (∀ v l u, l.length ≤ 9223372036854775807 → Nums u v l → Calls Try.prog 9 #[v] u fun e w' => e = .returned (.bool (decide (300 < l.length))) ∧ w' = u) := fun v l u hl h => longC v l u hl h
  have hA' := hid hA
  have hB' := hid hB
  clear hA hB
  by_cases hL : 300 < la.length
  · have GL1 : Hid (∀ u, Nums u va la → Calls Try.prog 9 #[va] u fun e w' => e = .returned (.bool true) ∧ w' = u) := fun u h => by
      have := GL.out va la u hla h
      rwa [decide_eq_true hL] at this
    go_enter Try.func4, Try.ntmps4
    go_wp2_with (first
      | (go_at_call 8; refine (GW.out _).mono ?_; rintro e w1 ⟨rfl, hb1⟩)
      | (go_at_call 9; refine (GL1.out _ (hA'.out.keep hb1)).mono ?_; rintro e w2 ⟨rfl, hw2⟩; subst w2))
    go_ret
    exact ⟨rfl, hb1⟩
  have GL1 : Hid (∀ u, Nums u va la → Calls Try.prog 9 #[va] u fun e w' => e = .returned (.bool false) ∧ w' = u) := fun u h => by
    have := GL.out va la u hla h
    rwa [decide_eq_false hL] at this
  by_cases hL2 : 300 < lb.length
  · have GL2 : Hid (∀ u, Nums u vb lb → Calls Try.prog 9 #[vb] u fun e w' => e = .returned (.bool true) ∧ w' = u) := fun u h => by
      have := GL.out vb lb u hlb h
      rwa [decide_eq_true hL2] at this
    go_enter Try.func4, Try.ntmps4
    go_wp2_with (first
      | (go_at_call 8; refine (GW.out _).mono ?_; rintro e w1 ⟨rfl, hb1⟩)
      | (go_at_call_of 9 va; refine (GL1.out _ (hA'.out.keep hb1)).mono ?_; rintro e w2 ⟨rfl, hw2⟩; subst w2)
      | (go_at_call_of 9 vb; refine (GL2.out _ (hB'.out.keep hb1)).mono ?_; rintro e w2 ⟨rfl, hw2⟩; subst w2))
    go_ret
    exact ⟨rfl, hb1⟩
  have GL2 : Hid (∀ u, Nums u vb lb → Calls Try.prog 9 #[vb] u fun e w' => e = .returned (.bool false) ∧ w' = u) := fun u h => by
    have := GL.out vb lb u hlb h
    rwa [decide_eq_false hL2] at this
  have GS : Hid (∀ va vb m u, m.length ≤ 100000 → Nums u va m → Nums u vb m → Calls Try.prog 12 #[va, vb] u fun e w' => e = .returned (.bool true) ∧ Below u.heap.size u w') := fun va vb m u hm h1 h2 => by
    have := refSame va vb m m u (by omega) (by omega) h1 h2
    rwa [decide_eq_true rfl] at this
  have GC1 : Hid (∀ u, Nums u va la → Calls Try.prog 10 #[va] u fun e w' => ∃ v', e = .returned v' ∧ Own w' u.heap.size v' la ∧ Below u.heap.size u w') := fun u h => copiedC va la u (by omega) h
  have GC2 : Hid (∀ u, Nums u vb lb → Calls Try.prog 10 #[vb] u fun e w' => ∃ v', e = .returned v' ∧ Own w' u.heap.size v' lb ∧ Below u.heap.size u w') := fun u h => copiedC vb lb u (by omega) h
  have GU : Hid (∀ va vb u, Nums u va la → Nums u vb lb → Calls Try.prog 18 #[va, vb] u fun e w' => ∃ v', e = .returned v' ∧ Own w' u.heap.size v' (unionL la lb) ∧ Below u.heap.size u w') := fun va vb u h1 h2 => setsUnion va vb la lb u (by omega) (by omega) h1 h2
  have HU : Hid (∀ va vb u, Nums u va la → Nums u vb lb → Calls Try.prog 19 #[va, vb] u fun e w' => ∃ v', e = .returned v' ∧ Own w' u.heap.size v' (unionL la lb) ∧ Below u.heap.size u w') := fun va vb u h1 h2 => refUnion va vb la lb u (by omega) (by omega) h1 h2
  have GB : Hid (∀ va vb u, Nums u va la → Nums u vb lb → Calls Try.prog 20 #[va, vb] u fun e w' => ∃ v', e = .returned v' ∧ Own w' u.heap.size v' (bothL la lb) ∧ Below u.heap.size u w') := fun va vb u h1 h2 => setsBoth va vb la lb u (by omega) (by omega) h1 h2
  have HB : Hid (∀ va vb u, Nums u va la → Nums u vb lb → Calls Try.prog 21 #[va, vb] u fun e w' => ∃ v', e = .returned v' ∧ Own w' u.heap.size v' (bothL la lb) ∧ Below u.heap.size u w') := fun va vb u h1 h2 => refBoth va vb la lb u (by omega) (by omega) h1 h2
  have GD : Hid (∀ va vb u, Nums u va la → Nums u vb lb → Calls Try.prog 22 #[va, vb] u fun e w' => ∃ v', e = .returned v' ∧ Own w' u.heap.size v' (lessL la lb) ∧ Below u.heap.size u w') := fun va vb u h1 h2 => setsLess va vb la lb u (by omega) (by omega) h1 h2
  have HD : Hid (∀ va vb u, Nums u va la → Nums u vb lb → Calls Try.prog 23 #[va, vb] u fun e w' => ∃ v', e = .returned v' ∧ Own w' u.heap.size v' (lessL la lb) ∧ Below u.heap.size u w') := fun va vb u h1 h2 => refLess va vb la lb u (by omega) (by omega) h1 h2
  have hu1 := unionL_len la lb
  have hu2 := bothL_len la lb
  have hu3 := lessL_len la lb
  go_enter Try.func4, Try.ntmps4
  go_wp2_with (first
    | (go_at_call 8; refine (GW.out _).mono ?_; rintro e w1 ⟨rfl, hb1⟩; have na1 := hid (hA'.out.keep hb1); have nb1 := hid (hB'.out.keep hb1))
    | (go_at_call_of 9 va; refine (GL1.out _ na1.out).mono ?_; rintro e wz ⟨rfl, hwz⟩; subst wz)
    | (go_at_call_of 9 vb; refine (GL2.out _ nb1.out).mono ?_; rintro e wz ⟨rfl, hwz⟩; subst wz)
    | (go_at_call_of 10 va; refine (GC1.out _ na1.out).mono ?_; rintro e w2 ⟨vx, rfl, hOx, hb2⟩; have na2 := hid (na1.out.keep hb2); have nb2 := hid (nb1.out.keep hb2); have nx2 := hid (Nums.of_row hOx))
    | (go_at_call_of 10 vb; refine (GC2.out _ nb2.out).mono ?_; rintro e w3 ⟨vy, rfl, hOy, hb3⟩; have na3 := hid (na2.out.keep hb3); have nb3 := hid (nb2.out.keep hb3); have nx3 := hid (nx2.out.keep hb3); have ny3 := hid (Nums.of_row hOy))
    | (go_at_call 18; refine (GU.out vx vy _ nx3.out ny3.out).mono ?_; rintro e w4 ⟨vgu, rfl, hOgu, hb4⟩; have na4 := hid (na3.out.keep hb4); have nb4 := hid (nb3.out.keep hb4); have nx4 := hid (nx3.out.keep hb4); have ny4 := hid (ny3.out.keep hb4); have ngu4 := hid (Nums.of_row hOgu))
    | (go_at_call 19; refine (HU.out va vb _ na4.out nb4.out).mono ?_; rintro e w5 ⟨vhu, rfl, hOhu, hb5⟩; have na5 := hid (na4.out.keep hb5); have nb5 := hid (nb4.out.keep hb5); have nx5 := hid (nx4.out.keep hb5); have ny5 := hid (ny4.out.keep hb5); have ngu5 := hid (ngu4.out.keep hb5); have nhu5 := hid (Nums.of_row hOhu))
    | (go_at_call_of 12 vhu; refine (GS.out vgu vhu _ _ (by omega) ngu5.out nhu5.out).mono ?_; rintro e w6 ⟨rfl, hb6⟩; have na6 := hid (na5.out.keep hb6); have nb6 := hid (nb5.out.keep hb6); have nx6 := hid (nx5.out.keep hb6); have ny6 := hid (ny5.out.keep hb6))
    | (go_at_call 20; refine (GB.out vx vy _ nx6.out ny6.out).mono ?_; rintro e w7 ⟨vgb, rfl, hOgb, hb7⟩; have na7 := hid (na6.out.keep hb7); have nb7 := hid (nb6.out.keep hb7); have nx7 := hid (nx6.out.keep hb7); have ny7 := hid (ny6.out.keep hb7); have ngb7 := hid (Nums.of_row hOgb))
    | (go_at_call 21; refine (HB.out va vb _ na7.out nb7.out).mono ?_; rintro e w8 ⟨vhb, rfl, hOhb, hb8⟩; have na8 := hid (na7.out.keep hb8); have nb8 := hid (nb7.out.keep hb8); have nx8 := hid (nx7.out.keep hb8); have ny8 := hid (ny7.out.keep hb8); have ngb8 := hid (ngb7.out.keep hb8); have nhb8 := hid (Nums.of_row hOhb))
    | (go_at_call_of 12 vhb; refine (GS.out vgb vhb _ _ (by omega) ngb8.out nhb8.out).mono ?_; rintro e w9 ⟨rfl, hb9⟩; have na9 := hid (na8.out.keep hb9); have nb9 := hid (nb8.out.keep hb9); have nx9 := hid (nx8.out.keep hb9); have ny9 := hid (ny8.out.keep hb9))
    | (go_at_call 22; refine (GD.out vx vy _ nx9.out ny9.out).mono ?_; rintro e w10 ⟨vgd, rfl, hOgd, hb10⟩; have na10 := hid (na9.out.keep hb10); have nb10 := hid (nb9.out.keep hb10); have nx10 := hid (nx9.out.keep hb10); have ny10 := hid (ny9.out.keep hb10); have ngd10 := hid (Nums.of_row hOgd))
    | (go_at_call 23; refine (HD.out va vb _ na10.out nb10.out).mono ?_; rintro e w11 ⟨vhd, rfl, hOhd, hb11⟩; have na11 := hid (na10.out.keep hb11); have nb11 := hid (nb10.out.keep hb11); have nx11 := hid (nx10.out.keep hb11); have ny11 := hid (ny10.out.keep hb11); have ngd11 := hid (ngd10.out.keep hb11); have nhd11 := hid (Nums.of_row hOhd))
    | (go_at_call_of 12 vhd; refine (GS.out vgd vhd _ _ (by omega) ngd11.out nhd11.out).mono ?_; rintro e w12 ⟨rfl, hb12⟩; have na12 := hid (na11.out.keep hb12); have nb12 := hid (nb11.out.keep hb12); have nx12 := hid (nx11.out.keep hb12); have ny12 := hid (ny11.out.keep hb12))
    | (go_at_call_of 12 vx; refine (GS.out vx va _ _ (by omega) nx12.out na12.out).mono ?_; rintro e w13 ⟨rfl, hb13⟩; have na13 := hid (na12.out.keep hb13); have nb13 := hid (nb12.out.keep hb13); have nx13 := hid (nx12.out.keep hb13); have ny13 := hid (ny12.out.keep hb13))
    | (go_at_call_of 12 vy; refine (GS.out vy vb _ _ (by omega) ny13.out nb13.out).mono ?_; rintro e w14 ⟨rfl, hb14⟩; have na14 := hid (na13.out.keep hb14); have nb14 := hid (nb13.out.keep hb14); have nx14 := hid (nx13.out.keep hb14); have ny14 := hid (ny13.out.keep hb14)))
  go_ret
  exact ⟨rfl, bl_step (bl_step (bl_step (bl_step (bl_step (bl_step (bl_step (bl_step (bl_step (bl_step (bl_step (bl_step (bl_step hb1 hb2) hb3) hb4) hb5) hb6) hb7) hb8) hb9) hb10) hb11) hb12) hb13) hb14⟩

set_option maxRecDepth 100000 in
theorem setsTwo_lifted (os : Os) (started : os.Started) (H : Type) (enc : TypeId × Value → H) :
    ReturnsInHanded {} Try.checked os 4 .any (Rows.setsTwoSpec.pre6 enc Try.prog Try.f4 Rows.setsTwoRow.domain false) (Rows.setsTwoSpec.post enc Try.prog Try.f4 false true false false) := by
  refine returnsInHanded_of_change (C := Try.checked) Try.own started (by kernel_rfl) Try.func4
    (ChangeSpec.witness6 (enc := enc) (C := Try.checked) false ⟨#[], #[.slice none 0 0, .slice none 0 0], []⟩ 8 (by kernel_rfl) (by kernel_rfl) (by kernel_rfl) (by kernel_rfl)) ?_
  intro W base args ds gs before hval0 hW hcnd _
  have hval : ∀ (j : Nat) t v, Try.f4.params[j]? = some t → args[j]? = some v → Value.okWide Try.prog W .any base t v := hval0
  have hW' := hW
  obtain ⟨p, q, hA0, hV, rfl, hfz, hnd⟩ := hW
  have hA : DataW.TrodAll enc Try.prog W 0 (fun _ => true) true Try.f4.params.toList args.toList ds p := hA0
  rw [Try.params4] at hA hval
  obtain ⟨la, lb, va, vb, d0, d1, rfl, rfl, hNa, hNb, hla, hlb⟩ := open_nn hval hA
  obtain ⟨rfl, rfl⟩ := trodVars_none hV
  clear hA0 hval0
  refine (twoWalk la lb va vb W hla hlb hNa hNb).mono fun e W' ⟨he, hb⟩ => ?_
  subst he
  exact ⟨_, rfl, law_post (by kernel_rfl) rfl (by kernel_rfl) rfl hW' hb⟩

theorem setsTwo_holds : Rows.SetsTwoSaid :=
  OpenClaim.holds_of_wide 4 Try.f4 rfl rfl rfl rfl rfl rfl rfl ⟨rfl, rfl, rfl, rfl, rfl⟩ rfl rfl rfl rfl rfl (by kernel_rfl) Try.func4 (by kernel_rfl)
    (of_decide_eq_true (by kernel_rfl)) (by unfold Func.isWrapper; first | (rw [if_pos (by decide +kernel)]; kernel_rfl) | (rw [if_neg (by decide +kernel)]; exact ⟨rfl, rfl⟩))
    (fun os started H enc _ => setsTwo_lifted os started H enc)

end Go.Proofs.Ytklfcjgambdncaa
