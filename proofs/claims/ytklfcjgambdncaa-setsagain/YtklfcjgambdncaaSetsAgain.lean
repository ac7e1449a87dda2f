/- SetsAgain. -/
import Derived.Test.YtklfcjgambdncaaOpen
import Derived.Test.YtklfcjgambdncaaWakes
import Derived.Test.YtklfcjgambdncaaPlain
namespace Go.Proofs.Ytklfcjgambdncaa
open Go.ChangeShapes Go.WideShapes Go.ChangeAt Go.RowKit

set_option maxHeartbeats 2000000 in
theorem againWalk (l : List Int) (v : Value) (w : World) (hl : l.length ≤ 9223372036854775807) (hA : Nums w v l) :
    Calls Try.prog 7 #[v] w fun e w' => e = .returned (.bool true) ∧ Below w.heap.size w w' := by
  have GW := hid wakesC
  have GL : Hid (∀ u, Nums u v l → Calls Try.prog 9 #[v] u fun e w' => e = .returned (.bool (decide (300 < l.length))) ∧ w' = u) := fun u h => longC v l u hl h
  have hA' := hid hA
  obtain ⟨av, cv, rfl, _, _, hcells⟩ := hA
  have hcells := hid hcells
  by_cases hL : 300 < l.length
  · rw [decide_eq_true hL] at GL
    go_enter Try.func7, Try.ntmps7
    go_wp2_with (first
      | (go_at_call 8; refine (GW.out _).mono ?_; rintro e w1 ⟨rfl, hb1⟩)
      | (go_at_call 9; refine (GL.out _ (hA'.out.keep hb1)).mono ?_; rintro e w2 ⟨rfl, hw2⟩; subst w2))
    go_ret
    exact ⟨rfl, hb1⟩
  · rw [decide_eq_false hL] at GL
    have hol := ofL_len l
    have GO : Hid (∀ u, Nums u (.slice av l.length cv) l → Calls Try.prog 11 #[.slice av l.length cv] u fun e w' => ∃ v', e = .returned v' ∧ Own w' u.heap.size v' (ofL l) ∧ Below u.heap.size u w') := fun u h => setsOf _ l u (by omega) h
    have GP : Hid (∀ v u, Nums u v (ofL l) → Calls Try.prog 11 #[v] u fun e w' => ∃ v', e = .returned v' ∧ Own w' u.heap.size v' (ofL l) ∧ Below u.heap.size u w') := fun v u h => by
      have := setsOf v (ofL l) u (by omega) h
      rwa [ofL_self (ofL_up l)] at this
    have GS : Hid (∀ va vb u, Nums u va (ofL l) → Nums u vb (ofL l) → Calls Try.prog 12 #[va, vb] u fun e w' => e = .returned (.bool true) ∧ Below u.heap.size u w') := fun va vb u h1 h2 => by
      have := refSame va vb (ofL l) (ofL l) u (by omega) (by omega) h1 h2
      rwa [decide_eq_true rfl] at this
    have GH : Hid (∀ v n u, n ∈ l → Nums u v (ofL l) → Calls Try.prog 16 #[v, .int .i64 n] u fun e w' => e = .returned (.bool true) ∧ w' = u) := fun v n u hn h => by
      have := setsHas v (ofL l) n u (by omega) h
      rwa [show (ofL l).contains n = true from List.contains_iff_mem.2 ((ofL_mem n l).2 hn)] at this
    have GR : Hid (∀ n u, n ∈ ofL l → Nums u (.slice av l.length cv) l → Calls Try.prog 17 #[.slice av l.length cv, .int .i64 n] u fun e w' => e = .returned (.bool true) ∧ w' = u) := fun n u hn h => by
      have := refHas _ l n u (by omega) h
      rwa [show l.contains n = true from List.contains_iff_mem.2 ((ofL_mem n l).1 hn)] at this
    have hle : ¬ ((l.length : Int) < ((ofL l).length : Int)) := by omega
    generalize hs : ofL l = s at GO GP GS GH GR hol hle
    go_enter Try.func7, Try.ntmps7
    go_wp2_with (first
      | (go_at_call 8; refine (GW.out _).mono ?_; rintro e w1 ⟨rfl, hb1⟩; have hl1 := hid (hA'.out.keep hb1))
      | (go_at_call 9; refine (GL.out _ hl1.out).mono ?_; rintro e wz ⟨rfl, hwz⟩; subst wz)
      | (go_at_call 11; refine (GP.out _ _ hs2.out).mono ?_; rintro e w3 ⟨v3, rfl, hO3, hb3⟩; have hs3 := hid (hs2.out.keep hb3); have ht3 := hid (Nums.of_row hO3))
      | (go_at_call 11; refine (GO.out _ hl1.out).mono ?_; rintro e w2 ⟨v2, rfl, hO2, hb2⟩; have hs2 := hid (Nums.of_row hO2); obtain ⟨asl, cs, rfl, hxx⟩ := id (Nums.of_row hO2); clear hxx)
      | (go_at_call 12; refine (GS.out _ _ _ ht3.out hs3.out).mono ?_; rintro e w4 ⟨rfl, hb4⟩; have hs4 := hid (hs3.out.keep hb4)))
    have hbw := bl_step (bl_step (bl_step hb1 hb2) hb3) hb4
    have hl4 := hid (hA'.out.keep hbw)
    obtain ⟨a9, c9, e9, _, _, hsc⟩ := id hs4.out
    injection e9 with e9 e10 e11
    subst e9; subst e11
    have hsc := hid hsc
    have hdec : decide (l.length < s.length) = false := decide_eq_false (by omega)
    simp only [hdec]
    go_loop [28] (fun i => ∃ k : Nat, k ≤ l.length ∧ i = .int .i64 k) (fun i => l.length - (intOf i).toNat)
    case atStart => exact ⟨0, Nat.zero_le _, rfl⟩
    case round =>
      obtain ⟨k, hk, rfl⟩ := hrel
      by_cases hlt : k < l.length
      · have hltz : (k : Int) < (l.length : Int) := by omega
        obtain ⟨b1, o1, rfl, hb1', hc1⟩ := hcells.out k hlt
        have hd1 := (hbw.cell hb1').trans hc1
        have hm := hid (List.getElem_mem hlt)
        clear hc1
        generalize l[k] = x at hd1 hm
        go_wp2_with (go_at_call 16; refine (GH.out _ _ _ hm.out hs4.out).mono ?_; rintro e wz ⟨rfl, hwz⟩; subst wz)
        go_round
        case rel => exact ⟨k + 1, by omega, by go_num⟩
        case measure => simp [intOf]; omega
      · have hltz : ¬ (k : Int) < (l.length : Int) := by omega
        go_wp2
        go_loop [39] (fun i => ∃ k : Nat, k ≤ s.length ∧ i = .int .i64 k) (fun i => s.length - (intOf i).toNat)
        case atStart => exact ⟨0, Nat.zero_le _, rfl⟩
        case round =>
          obtain ⟨j, hj, rfl⟩ := hrel
          by_cases hlt2 : j < s.length
          · have hltz2 : (j : Int) < (s.length : Int) := by omega
            obtain ⟨b1, o1, rfl, hb1', hc1⟩ := hsc.out j hlt2
            have hm := hid (List.getElem_mem hlt2)
            generalize s[j] = x at hc1 hm
            go_wp2_with (go_at_call 17; refine (GR.out _ _ hm.out hl4.out).mono ?_; rintro e wz ⟨rfl, hwz⟩; subst wz)
            go_round
            case rel => exact ⟨j + 1, by omega, by go_num⟩
            case measure => simp [intOf]; omega
          · have hltz2 : ¬ (j : Int) < (s.length : Int) := by omega
            go_wp2
            go_ret
            exact ⟨rfl, hbw⟩

set_option maxRecDepth 100000 in
theorem setsAgain_lifted (os : Os) (started : os.Started) (H : Type) (enc : TypeId × Value → H) :
    ReturnsInHanded {} Try.checked os 7 .any (Rows.setsAgainSpec.pre6 enc Try.prog Try.f7 Rows.setsAgainRow.domain false) (Rows.setsAgainSpec.post enc Try.prog Try.f7 false true false false) := by
  refine returnsInHanded_of_change (C := Try.checked) Try.own started (by kernel_rfl) Try.func7
    (ChangeSpec.witness6 (enc := enc) (C := Try.checked) false ⟨#[], #[.slice none 0 0], []⟩ 8 (by kernel_rfl) (by kernel_rfl) (by kernel_rfl) (by kernel_rfl)) ?_
  intro W base args ds gs before hval0 hW hcnd _
  have hval : ∀ (j : Nat) t v, Try.f7.params[j]? = some t → args[j]? = some v → Value.okWide Try.prog W .any base t v := hval0
  have hW' := hW
  obtain ⟨p, q, hA0, hV, rfl, hfz, hnd⟩ := hW
  have hA : DataW.TrodAll enc Try.prog W 0 (fun _ => true) true Try.f7.params.toList args.toList ds p := hA0
  rw [Try.params7] at hA hval
  obtain ⟨l, v, d0, rfl, rfl, hN, hl⟩ := open_n hval hA
  obtain ⟨rfl, rfl⟩ := trodVars_none hV
  clear hA0 hval0
  refine (againWalk l v W hl hN).mono fun e W' ⟨he, hb⟩ => ?_
  subst he
  exact ⟨_, rfl, law_post (by kernel_rfl) rfl (by kernel_rfl) rfl hW' hb⟩

theorem setsAgain_holds : Rows.SetsAgainSaid :=
  OpenClaim.holds_of_wide 7 Try.f7 rfl rfl rfl rfl rfl rfl rfl ⟨rfl, rfl, rfl, rfl, rfl⟩ rfl rfl rfl rfl rfl (by kernel_rfl) Try.func7 (by kernel_rfl)
    (of_decide_eq_true (by kernel_rfl)) (by unfold Func.isWrapper; first | (rw [if_pos (by decide +kernel)]; kernel_rfl) | (rw [if_neg (by decide +kernel)]; exact ⟨rfl, rfl⟩))
    (fun os started H enc _ => setsAgain_lifted os started H enc)

end Go.Proofs.Ytklfcjgambdncaa
