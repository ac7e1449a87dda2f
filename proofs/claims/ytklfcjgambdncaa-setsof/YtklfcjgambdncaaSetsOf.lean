/- SetsOf. -/
import Derived.Test.YtklfcjgambdncaaOpen
import Derived.Test.YtklfcjgambdncaaWakes
import Derived.Test.YtklfcjgambdncaaRefOf
import Derived.Test.YtklfcjgambdncaaPlain
namespace Go.Proofs.Ytklfcjgambdncaa
open Go.ChangeShapes Go.WideShapes Go.ChangeAt Go.RowKit

set_option maxHeartbeats 2000000 in
theorem ofWalk (l : List Int) (v : Value) (n : Int) (w : World) (hl : l.length ≤ 9223372036854775807) (hA : Nums w v l) :
    Calls Try.prog 3 #[v, .int .i64 n] w fun e w' => e = .returned (.bool true) ∧ Below w.heap.size w w' := by
  have GW := hid wakesC
  have GL : Hid (∀ u, Nums u v l → Calls Try.prog 9 #[v] u fun e w' => e = .returned (.bool (decide (300 < l.length))) ∧ w' = u) := fun u h => longC v l u hl h
  have hA' := hid hA
  clear hA
  by_cases hL : 300 < l.length
  · rw [decide_eq_true hL] at GL
    go_enter Try.func3, Try.ntmps3
    go_wp2_with (first
      | (go_at_call 8; refine (GW.out _).mono ?_; rintro e w1 ⟨rfl, hb1⟩)
      | (go_at_call 9; refine (GL.out _ (hA'.out.keep hb1)).mono ?_; rintro e w2 ⟨rfl, hw2⟩; subst w2))
    go_ret
    exact ⟨rfl, hb1⟩
  · rw [decide_eq_false hL] at GL
    have hol := ofL_len l
    have GC : Hid (∀ u, Nums u v l → Calls Try.prog 10 #[v] u fun e w' => ∃ v', e = .returned v' ∧ Own w' u.heap.size v' l ∧ Below u.heap.size u w') := fun u h => copiedC v l u (by omega) h
    have GO : Hid (∀ v u, Nums u v l → Calls Try.prog 11 #[v] u fun e w' => ∃ v', e = .returned v' ∧ Own w' u.heap.size v' (ofL l) ∧ Below u.heap.size u w') := fun v u h => setsOf v l u (by omega) h
    have GR : Hid (∀ v u, Nums u v l → Calls Try.prog 13 #[v] u fun e w' => ∃ v', e = .returned v' ∧ Own w' u.heap.size v' (ofL l) ∧ Below u.heap.size u w') := fun v u h => refOf v l u (by omega) h
    have GS : Hid (∀ va vb m u, m.length ≤ 1000 → Nums u va m → Nums u vb m → Calls Try.prog 12 #[va, vb] u fun e w' => e = .returned (.bool true) ∧ Below u.heap.size u w') := fun va vb m u hm h1 h2 => by
      have := refSame va vb m m u (by omega) (by omega) h1 h2
      rwa [decide_eq_true rfl] at this
    have GI : Hid (∀ v u, Nums u v l → Calls Try.prog 14 #[v] u fun e w' => e = .returned (.bool (decide (Up l))) ∧ Below u.heap.size u w') := fun v u h => setsIs v l u (by omega) h
    have GJ : Hid (∀ v u, Nums u v (ofL l) → Calls Try.prog 14 #[v] u fun e w' => e = .returned (.bool true) ∧ Below u.heap.size u w') := fun v u h => by
      have := setsIs v (ofL l) u (by omega) h
      rwa [decide_eq_true (ofL_up l)] at this
    have GK : Hid (∀ v u, Nums u v l → Calls Try.prog 15 #[v] u fun e w' => e = .returned (.bool (decide (Up l))) ∧ Below u.heap.size u w') := fun v u h => refIs v l u (by omega) h
    have GH : Hid (∀ v u, Nums u v l → Calls Try.prog 16 #[v, .int .i64 n] u fun e w' => e = .returned (.bool (l.contains n)) ∧ w' = u) := fun v u h => setsHas v l n u (by omega) h
    have GM : Hid (∀ v u, Nums u v (ofL l) → Calls Try.prog 16 #[v, .int .i64 n] u fun e w' => e = .returned (.bool (l.contains n)) ∧ w' = u) := fun v u h => by
      have := setsHas v (ofL l) n u (by omega) h
      rwa [contains_ofL] at this
    have GN : Hid (∀ v u, Nums u v l → Calls Try.prog 17 #[v, .int .i64 n] u fun e w' => e = .returned (.bool (l.contains n)) ∧ w' = u) := fun v u h => refHas v l n u (by omega) h
    generalize decide (Up l) = r at GI GK
    generalize l.contains n = q at GH GM GN
    have hr : (r == r) = true := beq_self_eq_true r
    have hq : (q == q) = true := beq_self_eq_true q
    go_enter Try.func3, Try.ntmps3
    go_wp2_with (first
      | (go_at_call 8; refine (GW.out _).mono ?_; rintro e w1 ⟨rfl, hb1⟩; have hl1 := hid (hA'.out.keep hb1))
      | (go_at_call 9; refine (GL.out _ hl1.out).mono ?_; rintro e wz ⟨rfl, hwz⟩; subst wz)
      | (go_at_call 10; refine (GC.out _ hl1.out).mono ?_; rintro e w2 ⟨v2, rfl, hO2, hb2⟩; have ho2 := hid (Nums.of_row hO2); have hl2 := hid (hl1.out.keep hb2))
      | (go_at_call 11; refine (GO.out v2 _ ho2.out).mono ?_; rintro e w3 ⟨v3, rfl, hO3, hb3⟩; have hs3 := hid (Nums.of_row hO3); have hl3 := hid (hl2.out.keep hb3); have ho3 := hid (ho2.out.keep hb3))
      | (go_at_call 13; refine (GR.out v _ hl3.out).mono ?_; rintro e w4 ⟨v4, rfl, hO4, hb4⟩; have hr4 := hid (Nums.of_row hO4); have hl4 := hid (hl3.out.keep hb4); have ho4 := hid (ho3.out.keep hb4); have hs4 := hid (hs3.out.keep hb4))
      | (go_at_call_of 12 v4; refine (GS.out v3 v4 _ _ (by omega) hs4.out hr4.out).mono ?_; rintro e w5 ⟨rfl, hb5⟩; have hl5 := hid (hl4.out.keep hb5); have ho5 := hid (ho4.out.keep hb5); have hs5 := hid (hs4.out.keep hb5))
      | (go_at_call_of 14 v2; refine (GI.out v2 _ ho5.out).mono ?_; rintro e w6 ⟨rfl, hb6⟩; have hl6 := hid (hl5.out.keep hb6); have ho6 := hid (ho5.out.keep hb6); have hs6 := hid (hs5.out.keep hb6))
      | (go_at_call 15; refine (GK.out v _ hl6.out).mono ?_; rintro e w7 ⟨rfl, hb7⟩; have hl7 := hid (hl6.out.keep hb7); have ho7 := hid (ho6.out.keep hb7); have hs7 := hid (hs6.out.keep hb7))
      | (go_at_call_of 14 v3; refine (GJ.out v3 _ hs7.out).mono ?_; rintro e w8 ⟨rfl, hb8⟩; have hl8 := hid (hl7.out.keep hb8); have ho8 := hid (ho7.out.keep hb8); have hs8 := hid (hs7.out.keep hb8))
      | (go_at_call_of 16 v2; refine (GH.out v2 _ ho8.out).mono ?_; rintro e wz ⟨rfl, hwz⟩; subst wz)
      | (go_at_call 17; refine (GN.out v _ hl8.out).mono ?_; rintro e wz ⟨rfl, hwz⟩; subst wz)
      | (go_at_call_of 16 v3; refine (GM.out v3 _ hs8.out).mono ?_; rintro e wz ⟨rfl, hwz⟩; subst wz)
      | (go_at_call_of 12 v2; refine (GS.out v2 v _ _ (by omega) ho8.out hl8.out).mono ?_; rintro e w9 ⟨rfl, hb9⟩))
    go_ret
    exact ⟨rfl, bl_step (bl_step (bl_step (bl_step (bl_step (bl_step (bl_step (bl_step hb1 hb2) hb3) hb4) hb5) hb6) hb7) hb8) hb9⟩

set_option maxRecDepth 100000 in
theorem setsOf_lifted (os : Os) (started : os.Started) (H : Type) (enc : TypeId × Value → H) :
    ReturnsInHanded {} Try.checked os 3 .any (Rows.setsOfSpec.pre6 enc Try.prog Try.f3 Rows.setsOfRow.domain false) (Rows.setsOfSpec.post enc Try.prog Try.f3 false true false false) := by
  refine returnsInHanded_of_change (C := Try.checked) Try.own started (by kernel_rfl) Try.func3
    (ChangeSpec.witness6 (enc := enc) (C := Try.checked) false ⟨#[], #[.slice none 0 0, .int .i64 0], []⟩ 8 (by kernel_rfl) (by kernel_rfl) (by kernel_rfl) (by kernel_rfl)) ?_
  intro W base args ds gs before hval0 hW hcnd _
  have hval : ∀ (j : Nat) t v, Try.f3.params[j]? = some t → args[j]? = some v → Value.okWide Try.prog W .any base t v := hval0
  have hW' := hW
  obtain ⟨p, q, hA0, hV, rfl, hfz, hnd⟩ := hW
  have hA : DataW.TrodAll enc Try.prog W 0 (fun _ => true) true Try.f3.params.toList args.toList ds p := hA0
  rw [Try.params3] at hA hval
  obtain ⟨l, v, n, d0, d1, rfl, rfl, hN, hl⟩ := open_ni hval hA
  obtain ⟨rfl, rfl⟩ := trodVars_none hV
  clear hA0 hval0
  refine (ofWalk l v n W hl hN).mono fun e W' ⟨he, hb⟩ => ?_
  subst he
  exact ⟨_, rfl, law_post (by kernel_rfl) rfl (by kernel_rfl) rfl hW' hb⟩

theorem setsOf_holds : Rows.SetsOfSaid :=
  OpenClaim.holds_of_wide 3 Try.f3 rfl rfl rfl rfl rfl rfl rfl ⟨rfl, rfl, rfl, rfl, rfl⟩ rfl rfl rfl rfl rfl (by kernel_rfl) Try.func3 (by kernel_rfl)
    (of_decide_eq_true (by kernel_rfl)) (by unfold Func.isWrapper; first | (rw [if_pos (by decide +kernel)]; kernel_rfl) | (rw [if_neg (by decide +kernel)]; exact ⟨rfl, rfl⟩))
    (fun os started H enc _ => setsOf_lifted os started H enc)

end Go.Proofs.Ytklfcjgambdncaa
