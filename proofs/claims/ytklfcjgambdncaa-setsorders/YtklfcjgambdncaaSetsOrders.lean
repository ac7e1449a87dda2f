/- SetsOrders. -/
import Derived.Test.YtklfcjgambdncaaOpen
import Derived.Test.YtklfcjgambdncaaWakes
namespace Go.Proofs.Ytklfcjgambdncaa
open Go.ChangeShapes Go.WideShapes Go.ChangeAt Go.RowKit

set_option maxHeartbeats 2000000 in
theorem ordersWalk (la lb lc : List Int) (va vb vc : Value) (w : World) (hla : la.length ≤ 9223372036854775807) (hlb : lb.length ≤ 9223372036854775807) (hlc : lc.length ≤ 9223372036854775807) (hA : Nums w va la) (hB : Nums w vb lb) (hC : Nums w vc lc) :
    Calls Try.prog 6 #[va, vb, vc] w fun e w' => e = .returned (.bool true) ∧ Below w.heap.size w w' := by
  have GW := hid wakesC
  have G : Hid (∀ va vb la lb u, la.length ≤ 9223372036854775807 → lb.length ≤ 9223372036854775807 → Nums u va la → Nums u vb lb → Calls Try.prog 24 #[va, vb] u fun e w' => e = .returned (.int .i64 (cmpL la lb)) ∧ w' = u) := fun va vb la lb u h1 h2 h3 h4 => setsOrder va vb la lb u h1 h2 h3 h4
  have GAB : Hid (∀ u, Nums u va la → Nums u vb lb → Calls Try.prog 24 #[va, vb] u fun e w' => e = .returned (.int .i64 (cmpL la lb)) ∧ w' = u) := fun u h3 h4 => G.out va vb la lb u hla hlb h3 h4
  have GBA : Hid (∀ u, Nums u vb lb → Nums u va la → Calls Try.prog 24 #[vb, va] u fun e w' => e = .returned (.int .i64 (-cmpL la lb)) ∧ w' = u) := fun u h3 h4 => by
    have := G.out vb va lb la u hlb hla h3 h4
    rwa [cmpL_turn] at this
  have GBC : Hid (∀ u, Nums u vb lb → Nums u vc lc → Calls Try.prog 24 #[vb, vc] u fun e w' => e = .returned (.int .i64 (cmpL lb lc)) ∧ w' = u) := fun u h3 h4 => G.out vb vc lb lc u hlb hlc h3 h4
  have GAC : Hid (∀ u, Nums u va la → Nums u vc lc → Calls Try.prog 24 #[va, vc] u fun e w' => e = .returned (.int .i64 (cmpL la lc)) ∧ w' = u) := fun u h3 h4 => G.out va vc la lc u hla hlc h3 h4
  have GR : Hid (∀ u, Nums u va la → Nums u vb lb → Calls Try.prog 25 #[va, vb] u fun e w' => e = .returned (.int .i64 (cmpL la lb)) ∧ Below u.heap.size u w') := fun u h3 h4 => refOrder va vb la lb u hla hlb h3 h4
  have hA' := hid hA
  have hB' := hid hB
  have hC' := hid hC
  have hx := cmpL_cases la lb
  have hy := cmpL_cases lb lc
  have hz := cmpL_on la lb lc
  clear hA hB hC G
  generalize cmpL la lb = x at *
  generalize cmpL lb lc = y at *
  generalize cmpL la lc = z at *
  rcases hx with rfl | rfl | rfl <;> rcases hy with rfl | rfl | rfl
  · have hz0 : z ≤ 0 := hz (by omega) (by omega)
    clear hz
    go_enter Try.func6, Try.ntmps6
    go_wp2_with (first
      | (go_at_call 8; refine (GW.out _).mono ?_; rintro e w1 ⟨rfl, hb1⟩; have na1 := hid (hA'.out.keep hb1); have nb1 := hid (hB'.out.keep hb1); have nc1 := hid (hC'.out.keep hb1))
      | (go_at_call_of 24 va; go_at_call_of 24 vc; refine (GAC.out _ na2.out nc2.out).mono ?_; rintro e wz ⟨rfl, hwz⟩; subst wz)
      | (go_at_call_of 24 vb; go_at_call_of 24 vc; refine (GBC.out _ nb1.out nc1.out).mono ?_; rintro e wz ⟨rfl, hwz⟩; subst wz)
      | (go_at_call 25; refine (GR.out _ na1.out nb1.out).mono ?_; rintro e w2 ⟨rfl, hb2⟩; have na2 := hid (na1.out.keep hb2); have nb2 := hid (nb1.out.keep hb2); have nc2 := hid (nc1.out.keep hb2))
      | (go_at_call_of 24 va; go_at_call_of 24 vb; refine (GBA.out _ nb2.out na2.out).mono ?_; rintro e wz ⟨rfl, hwz⟩; subst wz)
      | (go_at_call_of 24 va; go_at_call_of 24 vb; refine (GAB.out _ na1.out nb1.out).mono ?_; rintro e wz ⟨rfl, hwz⟩; subst wz))
    go_ret
    exact ⟨by first | rfl | simp [hz0], bl_step hb1 hb2⟩
  · have hz0 : z ≤ 0 := hz (by omega) (by omega)
    clear hz
    go_enter Try.func6, Try.ntmps6
    go_wp2_with (first
      | (go_at_call 8; refine (GW.out _).mono ?_; rintro e w1 ⟨rfl, hb1⟩; have na1 := hid (hA'.out.keep hb1); have nb1 := hid (hB'.out.keep hb1); have nc1 := hid (hC'.out.keep hb1))
      | (go_at_call_of 24 va; go_at_call_of 24 vc; refine (GAC.out _ na2.out nc2.out).mono ?_; rintro e wz ⟨rfl, hwz⟩; subst wz)
      | (go_at_call_of 24 vb; go_at_call_of 24 vc; refine (GBC.out _ nb1.out nc1.out).mono ?_; rintro e wz ⟨rfl, hwz⟩; subst wz)
      | (go_at_call 25; refine (GR.out _ na1.out nb1.out).mono ?_; rintro e w2 ⟨rfl, hb2⟩; have na2 := hid (na1.out.keep hb2); have nb2 := hid (nb1.out.keep hb2); have nc2 := hid (nc1.out.keep hb2))
      | (go_at_call_of 24 va; go_at_call_of 24 vb; refine (GBA.out _ nb2.out na2.out).mono ?_; rintro e wz ⟨rfl, hwz⟩; subst wz)
      | (go_at_call_of 24 va; go_at_call_of 24 vb; refine (GAB.out _ na1.out nb1.out).mono ?_; rintro e wz ⟨rfl, hwz⟩; subst wz))
    go_ret
    exact ⟨by first | rfl | simp [hz0], bl_step hb1 hb2⟩
  · clear hz
    go_enter Try.func6, Try.ntmps6
    go_wp2_with (first
      | (go_at_call 8; refine (GW.out _).mono ?_; rintro e w1 ⟨rfl, hb1⟩; have na1 := hid (hA'.out.keep hb1); have nb1 := hid (hB'.out.keep hb1); have nc1 := hid (hC'.out.keep hb1))
      | (go_at_call_of 24 va; go_at_call_of 24 vc; refine (GAC.out _ na2.out nc2.out).mono ?_; rintro e wz ⟨rfl, hwz⟩; subst wz)
      | (go_at_call_of 24 vb; go_at_call_of 24 vc; refine (GBC.out _ nb1.out nc1.out).mono ?_; rintro e wz ⟨rfl, hwz⟩; subst wz)
      | (go_at_call 25; refine (GR.out _ na1.out nb1.out).mono ?_; rintro e w2 ⟨rfl, hb2⟩; have na2 := hid (na1.out.keep hb2); have nb2 := hid (nb1.out.keep hb2); have nc2 := hid (nc1.out.keep hb2))
      | (go_at_call_of 24 va; go_at_call_of 24 vb; refine (GBA.out _ nb2.out na2.out).mono ?_; rintro e wz ⟨rfl, hwz⟩; subst wz)
      | (go_at_call_of 24 va; go_at_call_of 24 vb; refine (GAB.out _ na1.out nb1.out).mono ?_; rintro e wz ⟨rfl, hwz⟩; subst wz))
    go_ret
    exact ⟨by first | rfl | simp [hz0], bl_step hb1 hb2⟩
  · have hz0 : z ≤ 0 := hz (by omega) (by omega)
    clear hz
    go_enter Try.func6, Try.ntmps6
    go_wp2_with (first
      | (go_at_call 8; refine (GW.out _).mono ?_; rintro e w1 ⟨rfl, hb1⟩; have na1 := hid (hA'.out.keep hb1); have nb1 := hid (hB'.out.keep hb1); have nc1 := hid (hC'.out.keep hb1))
      | (go_at_call_of 24 va; go_at_call_of 24 vc; refine (GAC.out _ na2.out nc2.out).mono ?_; rintro e wz ⟨rfl, hwz⟩; subst wz)
      | (go_at_call_of 24 vb; go_at_call_of 24 vc; refine (GBC.out _ nb1.out nc1.out).mono ?_; rintro e wz ⟨rfl, hwz⟩; subst wz)
      | (go_at_call 25; refine (GR.out _ na1.out nb1.out).mono ?_; rintro e w2 ⟨rfl, hb2⟩; have na2 := hid (na1.out.keep hb2); have nb2 := hid (nb1.out.keep hb2); have nc2 := hid (nc1.out.keep hb2))
      | (go_at_call_of 24 va; go_at_call_of 24 vb; refine (GBA.out _ nb2.out na2.out).mono ?_; rintro e wz ⟨rfl, hwz⟩; subst wz)
      | (go_at_call_of 24 va; go_at_call_of 24 vb; refine (GAB.out _ na1.out nb1.out).mono ?_; rintro e wz ⟨rfl, hwz⟩; subst wz))
    go_ret
    exact ⟨by first | rfl | simp [hz0], bl_step hb1 hb2⟩
  · have hz0 : z ≤ 0 := hz (by omega) (by omega)
    clear hz
    go_enter Try.func6, Try.ntmps6
    go_wp2_with (first
      | (go_at_call 8; refine (GW.out _).mono ?_; rintro e w1 ⟨rfl, hb1⟩; have na1 := hid (hA'.out.keep hb1); have nb1 := hid (hB'.out.keep hb1); have nc1 := hid (hC'.out.keep hb1))
      | (go_at_call_of 24 va; go_at_call_of 24 vc; refine (GAC.out _ na2.out nc2.out).mono ?_; rintro e wz ⟨rfl, hwz⟩; subst wz)
      | (go_at_call_of 24 vb; go_at_call_of 24 vc; refine (GBC.out _ nb1.out nc1.out).mono ?_; rintro e wz ⟨rfl, hwz⟩; subst wz)
      | (go_at_call 25; refine (GR.out _ na1.out nb1.out).mono ?_; rintro e w2 ⟨rfl, hb2⟩; have na2 := hid (na1.out.keep hb2); have nb2 := hid (nb1.out.keep hb2); have nc2 := hid (nc1.out.keep hb2))
      | (go_at_call_of 24 va; go_at_call_of 24 vb; refine (GBA.out _ nb2.out na2.out).mono ?_; rintro e wz ⟨rfl, hwz⟩; subst wz)
      | (go_at_call_of 24 va; go_at_call_of 24 vb; refine (GAB.out _ na1.out nb1.out).mono ?_; rintro e wz ⟨rfl, hwz⟩; subst wz))
    go_ret
    exact ⟨by first | rfl | simp [hz0], bl_step hb1 hb2⟩
  · clear hz
    go_enter Try.func6, Try.ntmps6
    go_wp2_with (first
      | (go_at_call 8; refine (GW.out _).mono ?_; rintro e w1 ⟨rfl, hb1⟩; have na1 := hid (hA'.out.keep hb1); have nb1 := hid (hB'.out.keep hb1); have nc1 := hid (hC'.out.keep hb1))
      | (go_at_call_of 24 va; go_at_call_of 24 vc; refine (GAC.out _ na2.out nc2.out).mono ?_; rintro e wz ⟨rfl, hwz⟩; subst wz)
      | (go_at_call_of 24 vb; go_at_call_of 24 vc; refine (GBC.out _ nb1.out nc1.out).mono ?_; rintro e wz ⟨rfl, hwz⟩; subst wz)
      | (go_at_call 25; refine (GR.out _ na1.out nb1.out).mono ?_; rintro e w2 ⟨rfl, hb2⟩; have na2 := hid (na1.out.keep hb2); have nb2 := hid (nb1.out.keep hb2); have nc2 := hid (nc1.out.keep hb2))
      | (go_at_call_of 24 va; go_at_call_of 24 vb; refine (GBA.out _ nb2.out na2.out).mono ?_; rintro e wz ⟨rfl, hwz⟩; subst wz)
      | (go_at_call_of 24 va; go_at_call_of 24 vb; refine (GAB.out _ na1.out nb1.out).mono ?_; rintro e wz ⟨rfl, hwz⟩; subst wz))
    go_ret
    exact ⟨by first | rfl | simp [hz0], bl_step hb1 hb2⟩
  · clear hz
    go_enter Try.func6, Try.ntmps6
    go_wp2_with (first
      | (go_at_call 8; refine (GW.out _).mono ?_; rintro e w1 ⟨rfl, hb1⟩; have na1 := hid (hA'.out.keep hb1); have nb1 := hid (hB'.out.keep hb1); have nc1 := hid (hC'.out.keep hb1))
      | (go_at_call_of 24 va; go_at_call_of 24 vc; refine (GAC.out _ na2.out nc2.out).mono ?_; rintro e wz ⟨rfl, hwz⟩; subst wz)
      | (go_at_call_of 24 vb; go_at_call_of 24 vc; refine (GBC.out _ nb1.out nc1.out).mono ?_; rintro e wz ⟨rfl, hwz⟩; subst wz)
      | (go_at_call 25; refine (GR.out _ na1.out nb1.out).mono ?_; rintro e w2 ⟨rfl, hb2⟩; have na2 := hid (na1.out.keep hb2); have nb2 := hid (nb1.out.keep hb2); have nc2 := hid (nc1.out.keep hb2))
      | (go_at_call_of 24 va; go_at_call_of 24 vb; refine (GBA.out _ nb2.out na2.out).mono ?_; rintro e wz ⟨rfl, hwz⟩; subst wz)
      | (go_at_call_of 24 va; go_at_call_of 24 vb; refine (GAB.out _ na1.out nb1.out).mono ?_; rintro e wz ⟨rfl, hwz⟩; subst wz))
    go_ret
    exact ⟨by first | rfl | simp [hz0], bl_step hb1 hb2⟩
  · clear hz
    go_enter Try.func6, Try.ntmps6
    go_wp2_with (first
      | (go_at_call 8; refine (GW.out _).mono ?_; rintro e w1 ⟨rfl, hb1⟩; have na1 := hid (hA'.out.keep hb1); have nb1 := hid (hB'.out.keep hb1); have nc1 := hid (hC'.out.keep hb1))
      | (go_at_call_of 24 va; go_at_call_of 24 vc; refine (GAC.out _ na2.out nc2.out).mono ?_; rintro e wz ⟨rfl, hwz⟩; subst wz)
      | (go_at_call_of 24 vb; go_at_call_of 24 vc; refine (GBC.out _ nb1.out nc1.out).mono ?_; rintro e wz ⟨rfl, hwz⟩; subst wz)
      | (go_at_call 25; refine (GR.out _ na1.out nb1.out).mono ?_; rintro e w2 ⟨rfl, hb2⟩; have na2 := hid (na1.out.keep hb2); have nb2 := hid (nb1.out.keep hb2); have nc2 := hid (nc1.out.keep hb2))
      | (go_at_call_of 24 va; go_at_call_of 24 vb; refine (GBA.out _ nb2.out na2.out).mono ?_; rintro e wz ⟨rfl, hwz⟩; subst wz)
      | (go_at_call_of 24 va; go_at_call_of 24 vb; refine (GAB.out _ na1.out nb1.out).mono ?_; rintro e wz ⟨rfl, hwz⟩; subst wz))
    go_ret
    exact ⟨by first | rfl | simp [hz0], bl_step hb1 hb2⟩
  · clear hz
    go_enter Try.func6, Try.ntmps6
    go_wp2_with (first
      | (go_at_call 8; refine (GW.out _).mono ?_; rintro e w1 ⟨rfl, hb1⟩; have na1 := hid (hA'.out.keep hb1); have nb1 := hid (hB'.out.keep hb1); have nc1 := hid (hC'.out.keep hb1))
      | (go_at_call_of 24 va; go_at_call_of 24 vc; refine (GAC.out _ na2.out nc2.out).mono ?_; rintro e wz ⟨rfl, hwz⟩; subst wz)
      | (go_at_call_of 24 vb; go_at_call_of 24 vc; refine (GBC.out _ nb1.out nc1.out).mono ?_; rintro e wz ⟨rfl, hwz⟩; subst wz)
      | (go_at_call 25; refine (GR.out _ na1.out nb1.out).mono ?_; rintro e w2 ⟨rfl, hb2⟩; have na2 := hid (na1.out.keep hb2); have nb2 := hid (nb1.out.keep hb2); have nc2 := hid (nc1.out.keep hb2))
      | (go_at_call_of 24 va; go_at_call_of 24 vb; refine (GBA.out _ nb2.out na2.out).mono ?_; rintro e wz ⟨rfl, hwz⟩; subst wz)
      | (go_at_call_of 24 va; go_at_call_of 24 vb; refine (GAB.out _ na1.out nb1.out).mono ?_; rintro e wz ⟨rfl, hwz⟩; subst wz))
    go_ret
    exact ⟨by first | rfl | simp [hz0], bl_step hb1 hb2⟩

set_option maxRecDepth 100000 in
theorem setsOrders_lifted (os : Os) (started : os.Started) (H : Type) (enc : TypeId × Value → H) :
    ReturnsInHanded {} Try.checked os 6 .any (Rows.setsOrdersSpec.pre6 enc Try.prog Try.f6 Rows.setsOrdersRow.domain false) (Rows.setsOrdersSpec.post enc Try.prog Try.f6 false true false false) := by
  refine returnsInHanded_of_change (C := Try.checked) Try.own started (by kernel_rfl) Try.func6
    (ChangeSpec.witness6 (enc := enc) (C := Try.checked) false ⟨#[], #[.slice none 0 0, .slice none 0 0, .slice none 0 0], []⟩ 8 (by kernel_rfl) (by kernel_rfl) (by kernel_rfl) (by kernel_rfl)) ?_
  intro W base args ds gs before hval0 hW hcnd _
  have hval : ∀ (j : Nat) t v, Try.f6.params[j]? = some t → args[j]? = some v → Value.okWide Try.prog W .any base t v := hval0
  have hW' := hW
  obtain ⟨p, q, hA0, hV, rfl, hfz, hnd⟩ := hW
  have hA : DataW.TrodAll enc Try.prog W 0 (fun _ => true) true Try.f6.params.toList args.toList ds p := hA0
  rw [Try.params6] at hA hval
  obtain ⟨la, lb, lc, va, vb, vc, d0, d1, d2, rfl, rfl, hNa, hNb, hNc, hla, hlb, hlc⟩ := open_nnn hval hA
  obtain ⟨rfl, rfl⟩ := trodVars_none hV
  clear hA0 hval0
  refine (ordersWalk la lb lc va vb vc W hla hlb hlc hNa hNb hNc).mono fun e W' ⟨he, hb⟩ => ?_
  subst he
  exact ⟨_, rfl, law_post (by kernel_rfl) rfl (by kernel_rfl) rfl hW' hb⟩

theorem setsOrders_holds : Rows.SetsOrdersSaid :=
  OpenClaim.holds_of_wide 6 Try.f6 rfl rfl rfl rfl rfl rfl rfl ⟨rfl, rfl, rfl, rfl, rfl⟩ rfl rfl rfl rfl rfl (by kernel_rfl) Try.func6 (by kernel_rfl)
    (of_decide_eq_true (by kernel_rfl)) (by unfold Func.isWrapper; first | (rw [if_pos (by decide +kernel)]; kernel_rfl) | (rw [if_neg (by decide +kernel)]; exact ⟨rfl, rfl⟩))
    (fun os started H enc _ => setsOrders_lifted os started H enc)

end Go.Proofs.Ytklfcjgambdncaa
