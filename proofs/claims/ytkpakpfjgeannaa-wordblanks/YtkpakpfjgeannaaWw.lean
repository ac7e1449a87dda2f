/- What is asked of package word; topiarylaw11.wakes, long; WordAll's and WordBack's walks. -/
import Derived.Test.YtkpakpfjgeannaaWd
namespace Go.Proofs.Ytkpakpfjgeannaa
open Go.RowKit Go.Maps

/-- what is asked of package word -/
structure WordOK : Prop where
  all : ∀ (s : Txt) (u : World), s.length ≤ 100000000 → Calls Try.prog 10 #[.string (strT s)] u fun e w' => ∃ v, e = .returned (.tuple #[v, .int .i64 ((wrdA s).2.1 : Int), .int .i64 (wrdA s).2.2]) ∧ Wds w' v ((wrdA s).1.map zOf) ∧ Below u.heap.size u w'
  shw : ∀ (v : Value) (l : List Wz) (u : World), Wds u v l → l.length ≤ 5000 → (∀ j, j < l.length → (l.getD j (0, 0, [])).2.2.length ≤ 5000) → Calls Try.prog 13 #[v] u fun e w' => e = .returned (.string (strT (shK l l.length))) ∧ Below u.heap.size u w'
theorem wk_words : wrdA [97, 58, 98, 124, 47, 120, 47, 59] = ([(1, 0, [97]), (3, 1, [58]), (1, 2, [98]), (3, 3, [124]), (2, 4, [120]), (3, 7, [59])], 0, 0) := by decide +kernel
set_option maxRecDepth 20000 in
theorem longC (s : Txt) (w : World) (hs : s.length ≤ 9223372036854775807) : Calls Try.prog 9 #[.string (strT s)] w fun e w' => e = .returned (.bool (decide (8192 < s.length))) ∧ w' = w := by
  have hsz := strT_size s
  by_cases h : 8192 < s.length
  · have hz : (8192 : Int) < (s.length : Int) := by omega
    rw [decide_eq_true h]
    go_enter Try.func9, Try.ntmps9
    go_wp2
    go_ret
    exact ⟨by simp, rfl⟩
  · have hz : ¬ (8192 : Int) < (s.length : Int) := by omega
    rw [decide_eq_false h]
    go_enter Try.func9, Try.ntmps9
    go_wp2
    go_ret
    exact ⟨by simp, rfl⟩
set_option maxRecDepth 20000 in
set_option maxHeartbeats 1000000 in
theorem wakes11 (H : WordOK) (w : World) : Calls Try.prog 8 #[] w fun e w' => e = .returned (.bool true) ∧ Below w.heap.size w w' := by
  have GA := hid (H.all [97, 58, 98, 124, 47, 120, 47, 59] w (by decide))
  rw [wk_words] at GA
  dsimp only at GA
  rw [show strT [97, 58, 98, 124, 47, 120, 47, 59] = ⟨#[97, 58, 98, 124, 47, 120, 47, 59]⟩ from rfl] at GA
  go_enter Try.func8, Try.ntmps8
  go_wp2_with (go_at_call 10; refine GA.out.mono ?_; clear GA; rintro e w2 ⟨v, rfl, hW, hc2⟩; obtain ⟨a, c, rfl⟩ := hW.shape; obtain ⟨b, o, he, x0, x1, x2⟩ := hW.at (j := 4) (by decide); subst he; have hc2 := hid hc2; have y0 : w2.cell? ⟨b, o + 4 * 3, none⟩ = some (.int .i64 2) := x0; have y1 : w2.cell? ⟨b, o + 4 * 3 + 1, none⟩ = some (.int .i64 4) := x1; have y2 : w2.cell? ⟨b, o + 4 * 3 + 2, none⟩ = some (.string ⟨#[120]⟩) := x2; clear hW x0 x1 x2)
  go_ret
  exact ⟨by simp, hc2.out⟩
set_option maxRecDepth 20000 in
set_option maxHeartbeats 2000000 in
theorem wordAllWalk (H : WordOK) (s : Txt) (w : World) (hs : s.length ≤ 9223372036854775807) : Calls Try.prog 3 #[.string (strT s)] w fun e w' => e = .returned (.bool true) ∧ Below w.heap.size w w' := by
  have GW := hid (wakes11 H w)
  have GL := hid (fun u => longC s u (by omega))
  by_cases h : 8192 < s.length
  · rw [decide_eq_true h] at GL
    go_enter Try.func3, Try.ntmps3
    go_wp2_with (first
      | (go_at_call 8; refine GW.out.mono ?_; clear GW; rintro e w1 ⟨rfl, hc1⟩; have hc1 := hid hc1)
      | (go_at_call 9; refine (GL.out w1).mono ?_; clear GL; rintro e w2 ⟨rfl, hc2⟩; subst w2))
    go_ret
    exact ⟨rfl, hc1.out⟩
  · rw [decide_eq_false h] at GL
    have GA := hid (fun u => H.all s u (by omega))
    have GR := hid (fun u => refWordsC s u (by omega))
    obtain ⟨f1, f2, f3, f4, f5, -⟩ := wrdA_few s
    have GE : Hid (∀ v v' u, Wds u v ((wrdA s).1.map zOf) → Wds u v' ((wrdA s).1.map zOf) → Calls Try.prog 12 #[v, v'] u fun e w' => e = .returned (.bool true) ∧ Below u.heap.size u w') := hid (fun v v' u h1 h2 => by
      have h9 := wdEqual v v' _ _ u h1 h2 (by rw [List.length_map]; omega) (by rw [List.length_map]; omega)
      rw [decide_eq_true rfl] at h9
      exact h9)
    generalize wrdA s = R at *
    obtain ⟨l, n, e⟩ := R
    dsimp only at GA GR GE f1 f3 f4 f5
    clear f2
    go_enter Try.func3, Try.ntmps3
    go_wp2_with (first
      | (go_at_call 8; refine GW.out.mono ?_; clear GW; rintro e w1 ⟨rfl, hc1⟩; have hc1 := hid hc1)
      | (go_at_call 9; refine (GL.out w1).mono ?_; clear GL; rintro e w2 ⟨rfl, hc2⟩; subst w2)
      | (go_at_call 10; refine (GA.out w1).mono ?_; clear GA; rintro e w2 ⟨v, rfl, hW, hc2⟩; have hW := hid hW; have k2 := hid (bl_step hc1.out hc2))
      | (go_at_call 11; refine (GR.out w2).mono ?_; clear GR; rintro e w3 ⟨v', rfl, hM⟩; have hM := hid hM; have k3 := hid (bl_step k2.out hM.out.low))
      | (go_at_call 12; refine (GE.out v v' w3 (hW.out.keep hM.out.low) (Wds.of_own hM.out.own)).mono ?_; clear GE; rintro e w4 ⟨rfl, hc4⟩; have k4 := hid (bl_step k3.out hc4)))
    go_ret
    exact ⟨by simp, k4.out⟩
set_option maxRecDepth 20000 in
set_option maxHeartbeats 2000000 in
theorem wordBackWalk (H : WordOK) (s : Txt) (w : World) (hs : s.length ≤ 9223372036854775807) : Calls Try.prog 5 #[.string (strT s)] w fun e w' => e = .returned (.bool true) ∧ Below w.heap.size w w' := by
  have GW := hid (wakes11 H w)
  have GL := hid (fun u => longC s u (by omega))
  by_cases h : 8192 < s.length
  · rw [decide_eq_true h] at GL
    go_enter Try.func5, Try.ntmps5
    go_wp2_with (first
      | (go_at_call 8; refine GW.out.mono ?_; clear GW; rintro e w1 ⟨rfl, hc1⟩; have hc1 := hid hc1)
      | (go_at_call 9; refine (GL.out w1).mono ?_; clear GL; rintro e w2 ⟨rfl, hc2⟩; subst w2))
    go_ret
    exact ⟨rfl, hc1.out⟩
  rw [decide_eq_false h] at GL
  have GA := hid (fun u => H.all s u (by omega))
  obtain ⟨f1, f2, f3, f4, f5, f6, f7⟩ := wrdA_few s
  have hback := hid (words_back (s := s))
  by_cases he : (wrdA s).2.2 = 0
  · have h4 := f7 he
    have hb : ∀ j, j < ((wrdA s).1.map zOf).length → (((wrdA s).1.map zOf).getD j (0, 0, [])).2.2.length ≤ 4000 := fun j hj => by
      rw [List.length_map] at hj
      rw [List.getD_eq_getElem?_getD, List.getElem?_map, List.getElem?_eq_getElem hj]
      have := (f2 _ (List.getElem_mem hj)).1
      show ((wrdA s).1[j]).2.2.length ≤ 4000
      omega
    have GS := hid (fun v u (hv : Wds u v ((wrdA s).1.map zOf)) => H.shw v _ u hv (by rw [List.length_map]; omega) (fun j hj => by have := hb j hj; omega))
    rw [List.length_map] at GS
    have hTl := shK_len hb _ (Nat.le_refl _)
    rw [List.length_map] at hTl
    have hTm : (wrdA s).1.length * (4000 + 3) ≤ 4000 * 4003 := Nat.mul_le_mul (by omega) (by omega)
    obtain ⟨T, hT⟩ : ∃ T, shK ((wrdA s).1.map zOf) (wrdA s).1.length = T := ⟨_, rfl⟩
    rw [hT] at GS hback hTl
    have hTs : T.length ≤ 20000000 := by omega
    have hsz := strT_size T
    have GA2 := hid (fun u => H.all T u (by omega))
    by_cases hT4 : 4000 < T.length
    · have hT4z : (4000 : Int) < (T.length : Int) := by omega
      have e9 : wrdA T = ([], 0, 3) := if_pos hT4
      rw [e9] at GA2
      dsimp only at GA2
      clear e9 hback f1 f2 f3 f4 f5 f6 f7 hb hTl hTm hT
      generalize wrdA s = R at *
      obtain ⟨l, n, er⟩ := R
      dsimp only at GA GS he
      subst he
      go_enter Try.func5, Try.ntmps5
      go_wp2_with (first
        | (go_at_call 8; refine GW.out.mono ?_; clear GW; rintro e w1 ⟨rfl, hc1⟩; have hc1 := hid hc1)
        | (go_at_call 9; refine (GL.out w1).mono ?_; clear GL; rintro e w2 ⟨rfl, hc2⟩; subst w2)
        | (go_at_call 10; refine (GA.out w1).mono ?_; clear GA; rintro e w2 ⟨v, rfl, hW, hc2⟩; have hW := hid hW; have k2 := hid (bl_step hc1.out hc2))
        | (go_at_call 13; refine (GS.out v w2 hW.out).mono ?_; clear GS; rintro e w3 ⟨rfl, hc3⟩; have k3 := hid (bl_step k2.out hc3); have hW3 := hid (hW.out.keep hc3))
        | (go_at_call 10; refine (GA2.out w3).mono ?_; clear GA2; rintro e w4 ⟨v4, rfl, hW4, hc4⟩; have hW4 := hid hW4; have k4 := hid (bl_step k3.out hc4); have hW5 := hid (hW3.out.keep hc4)))
      go_ret
      exact ⟨by simp, k4.out⟩
    · have hT4z : ¬ (4000 : Int) < (T.length : Int) := by omega
      obtain ⟨hb0, hb1⟩ := hback.out (by omega)
      have GE : Hid (∀ v v' u, Wds u v ((wrdA s).1.map zOf) → Wds u v' ((wrdA T).1.map zOf) → Calls Try.prog 15 #[v, v'] u fun e w' => e = .returned (.bool true) ∧ Below u.heap.size u w') := hid (fun v v' u h1 h2 => by
        have h9 := wdSame v v' _ _ u h1 h2 (by rw [List.length_map]; omega) (by rw [List.length_map]; have := (wrdA_few T).1; omega)
        rw [decide_eq_true hb1.symm] at h9
        exact h9)
      rw [hb0] at GA2
      clear hback f1 f2 f3 f4 f5 f6 f7 hb hTl hTm hT hb0 hb1
      generalize wrdA s = R at *
      obtain ⟨l, n, er⟩ := R
      generalize wrdA T = R2 at *
      obtain ⟨l2, n2, er2⟩ := R2
      dsimp only at GA GS he GE GA2
      subst he
      go_enter Try.func5, Try.ntmps5
      go_wp2_with (first
        | (go_at_call 8; refine GW.out.mono ?_; clear GW; rintro e w1 ⟨rfl, hc1⟩; have hc1 := hid hc1)
        | (go_at_call 9; refine (GL.out w1).mono ?_; clear GL; rintro e w2 ⟨rfl, hc2⟩; subst w2)
        | (go_at_call 10; refine (GA.out w1).mono ?_; clear GA; rintro e w2 ⟨v, rfl, hW, hc2⟩; have hW := hid hW; have k2 := hid (bl_step hc1.out hc2))
        | (go_at_call 13; refine (GS.out v w2 hW.out).mono ?_; clear GS; rintro e w3 ⟨rfl, hc3⟩; have k3 := hid (bl_step k2.out hc3); have hW3 := hid (hW.out.keep hc3))
        | (go_at_call 10; refine (GA2.out w3).mono ?_; clear GA2; rintro e w4 ⟨v4, rfl, hW4, hc4⟩; have hW4 := hid hW4; have k4 := hid (bl_step k3.out hc4); have hW5 := hid (hW3.out.keep hc4))
        | (go_at_call 15; refine (GE.out v v4 w4 hW5.out hW4.out).mono ?_; clear GE; rintro e w5 ⟨rfl, hc5⟩; have k5 := hid (bl_step k4.out hc5)))
      go_ret
      exact ⟨by simp, k5.out⟩
  · have hnil := f6 he
    clear f1 f2 f3 f6 f7 hback
    generalize wrdA s = R at *
    obtain ⟨l, n, er⟩ := R
    dsimp only at GA he hnil f4 f5
    subst hnil
    have hen : (er != 0) = true := bne_iff_ne.2 he
    go_enter Try.func5, Try.ntmps5
    go_wp2_with (first
      | (go_at_call 8; refine GW.out.mono ?_; clear GW; rintro e w1 ⟨rfl, hc1⟩; have hc1 := hid hc1)
      | (go_at_call 9; refine (GL.out w1).mono ?_; clear GL; rintro e w2 ⟨rfl, hc2⟩; subst w2)
      | (go_at_call 10; refine (GA.out w1).mono ?_; clear GA; rintro e w2 ⟨v, rfl, hW, hc2⟩; obtain ⟨a, c, rfl⟩ := hW.shape; have hW := hid hW; have k2 := hid (bl_step hc1.out hc2)))
    go_ret
    exact ⟨by simp, k2.out⟩

end Go.Proofs.Ytkpakpfjgeannaa
