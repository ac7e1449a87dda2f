/- WordPlaces' and WordBlanks' walks. -/
import Derived.Test.YtkpakpfjgeannaaWw
namespace Go.Proofs.Ytkpakpfjgeannaa
open Go.RowKit Go.Maps

theorem zget {l : List Wd} {j : Nat} (h : j < l.length) : (l.map zOf).getD j (0, 0, []) = zOf (l.getD j (0, 0, [])) := by
  rw [List.getD_eq_getElem?_getD, List.getElem?_map, List.getElem?_eq_getElem h, List.getD_eq_getElem?_getD, List.getElem?_eq_getElem h]
  rfl
theorem PlcW.step {T : Txt} {p k : Nat} {l : List Wd} (h : PlcW T p (l.drop k)) (hk : k < l.length) : p + skL false (T.drop p) = (l.getD k (0, 0, [])).2.1 ∧ (l.getD k (0, 0, [])).2.1 + (onK (l.getD k (0, 0, [])).1 (l.getD k (0, 0, [])).2.2).length ≤ T.length ∧ 0 < (onK (l.getD k (0, 0, [])).1 (l.getD k (0, 0, [])).2.2).length ∧ PlcW T ((l.getD k (0, 0, [])).2.1 + (onK (l.getD k (0, 0, [])).1 (l.getD k (0, 0, [])).2.2).length) (l.drop (k + 1)) := by
  rw [List.drop_eq_getElem_cons hk] at h
  rw [List.getD_eq_getElem?_getD, List.getElem?_eq_getElem hk]
  exact h

set_option maxRecDepth 20000 in
set_option maxHeartbeats 2000000 in
theorem wordPlacesWalk (H : WordOK) (s : Txt) (w : World) (hs : s.length ≤ 9223372036854775807) : Calls Try.prog 6 #[.string (strT s)] w fun e w' => e = .returned (.bool true) ∧ Below w.heap.size w w' := by
  have GW := hid (wakes11 H w)
  have GL := hid (fun u => longC s u (by omega))
  have hsz := strT_size s
  by_cases h : 8192 < s.length
  · rw [decide_eq_true h] at GL
    go_enter Try.func6, Try.ntmps6
    go_wp2_with (first
      | (go_at_call 8; refine GW.out.mono ?_; clear GW; rintro e w1 ⟨rfl, hc1⟩; have hc1 := hid hc1)
      | (go_at_call 9; refine (GL.out w1).mono ?_; clear GL; rintro e w2 ⟨rfl, hc2⟩; subst w2))
    go_ret
    exact ⟨rfl, hc1.out⟩
  rw [decide_eq_false h] at GL
  have GA := hid (fun u => H.all s u (by omega))
  obtain ⟨f1, f2, f3, f4, f5, f6, f7⟩ := wrdA_few s
  have hpl := hid (words_places (s := s))
  by_cases he : (wrdA s).2.2 = 0
  · have h4 := f7 he
    have hP := hid (hpl.out he)
    have GS := hid (fun (a : Nat) (ha : a ≤ s.length) (u : World) => skipC s a u ha (by omega))
    clear hpl f2 f3 f4 f5 f6 f7
    generalize wrdA s = R at *
    obtain ⟨l, n, er⟩ := R
    dsimp only at GA he hP f1
    subst he
    obtain ⟨Ln, hLn⟩ : ∃ x, Hid (l.length = x) := ⟨_, hid rfl⟩
    rw [hLn.out] at f1
    go_enter Try.func6, Try.ntmps6
    go_wp2_with (first
      | (go_at_call 8; refine GW.out.mono ?_; clear GW; rintro e w1 ⟨rfl, hc1⟩; have hc1 := hid hc1)
      | (go_at_call 9; refine (GL.out w1).mono ?_; clear GL; rintro e w2 ⟨rfl, hc2⟩; subst w2)
      | (go_at_call 10; refine (GA.out w1).mono ?_; clear GA; rintro e w2 ⟨v, rfl, hW, hc2⟩; have hsh := hW.shape; rw [List.length_map, hLn.out] at hsh; obtain ⟨va, vc, rfl⟩ := hsh; have hW := hid hW; have k2 := hid (bl_step hc1.out hc2)))
    go_loopw [6, 24] (fun x i wr => ∃ (j p : Nat), j ≤ Ln ∧ p ≤ s.length ∧ i = .int .i64 (j : Int) ∧ x = .int .i64 (p : Int) ∧ Hid (PlcW s p (l.drop j)) ∧ Hid (Below w2.heap.size w2 wr)) (fun _ i _ => Ln - (intOf i).toNat)
    case atStart => exact ⟨0, 0, by omega, by omega, rfl, rfl, hP, hid (Below.refl _ _)⟩
    case round =>
      obtain ⟨j, p, hj, hp, rfl, rfl, hC, hw⟩ := hrel
      have GS1 := hid (fun u => GS.out p hp u)
      by_cases hjt : j < Ln
      · have hjtz : (j : Int) < (Ln : Int) := by omega
        obtain ⟨b, o, hab, x0, x1, x2⟩ := (hW.out.keep hw.out).at (j := j) (by rw [List.length_map, hLn.out]; exact hjt)
        subst hab
        rw [zget (by rw [hLn.out]; exact hjt)] at x0 x1 x2
        obtain ⟨s1, s2, s3, s4⟩ := hC.out.step (k := j) (by rw [hLn.out]; exact hjt)
        have s4 := hid s4
        rw [s1] at GS1
        generalize l.getD j (0, 0, []) = t at *
        obtain ⟨t0, t1, T⟩ := t
        dsimp only [zOf] at x0 x1 x2 s2 s3 s4 GS1
        have hon : Hid ((onK t0 T).length = if t0 = 2 then T.length + 2 else T.length) := hid (by
          unfold onK
          split
          · rw [List.length_cons, List.length_append]; rfl
          · rfl)
        obtain ⟨Ln2, hL2⟩ : ∃ x, (onK t0 T).length = x := ⟨_, rfl⟩
        rw [hL2] at s2 s3 s4 hon
        have hTs := strT_size T
        obtain ⟨WK, hWK⟩ : ∃ x, wr.alloc (.cells #[.int .i64 (t0 : Int), .int .i64 (t1 : Int), .string (strT T)] 32) = x := ⟨_, rfl⟩
        have hkK : Hid (WK.heap[wr.heap.size]? = some (.cells #[.int .i64 (t0 : Int), .int .i64 (t1 : Int), .string (strT T)] 32)) := by rw [← hWK]; exact hid (heap_new wr _)
        have hbK : Hid (Below w2.heap.size w2 WK) := by rw [← hWK]; exact hid (bl_step hw.out (al' wr _))
        obtain ⟨⟨y0, -⟩, ⟨y1, -⟩, ⟨y2, -⟩⟩ := cells3m hkK.out
        obtain ⟨E, hE⟩ : ∃ E : Nat, t1 + Ln2 = E := ⟨_, rfl⟩
        rw [hE] at s2 s4
        have q1 : ¬ (s.length : Int) < (E : Int) := by omega
        have q2 : ¬ (E : Int) ≤ (t1 : Int) := by omega
        by_cases h2 : t0 = 2
        · have hl2 : Ln2 = T.length + 2 := by have := hon.out; rw [if_pos h2] at this; exact this
          have h2z : ((t0 : Int) == 2) = true := by rw [beq_iff_eq]; omega
          have hEz : (t1 : Int) + (T.length : Int) + 2 = (E : Int) := by omega
          have hTb : T.length ≤ 4000 := by omega
          clear hon hl2 hL2 s1 h2
          generalize T.length = Tn at *
          go_wp2_with (go_at_call 16; refine (GS1.out WK).mono ?_; clear GS1; rintro e w3 ⟨rfl, hc3⟩; subst w3)
          go_roundw
          case rel => exact ⟨j + 1, E, by omega, s2, by go_num, rfl, s4, hbK⟩
          case measure => simp [intOf]; omega
        · have hl2 : Ln2 = T.length := by have := hon.out; rw [if_neg h2] at this; exact this
          have h2z : ((t0 : Int) == 2) = false := by rw [beq_eq_false_iff_ne]; omega
          have hEz : (t1 : Int) + (T.length : Int) = (E : Int) := by omega
          have hTb : T.length ≤ 4000 := by omega
          clear hon hl2 hL2 s1
          generalize T.length = Tn at *
          go_wp2_with (go_at_call 16; refine (GS1.out WK).mono ?_; clear GS1; rintro e w3 ⟨rfl, hc3⟩; subst w3)
          go_roundw
          case rel => exact ⟨j + 1, E, by omega, s2, by go_num, rfl, s4, hbK⟩
          case measure => simp [intOf]; omega
      · have hjtz : ¬ (j : Int) < (Ln : Int) := by omega
        have hC2 := hC.out
        rw [List.drop_eq_nil_of_le (by rw [hLn.out]; omega)] at hC2
        have hC2 : p + skL false (s.drop p) = s.length := hC2
        rw [hC2] at GS1
        clear hC2
        go_wp2_with (go_at_call 16; refine (GS1.out wr).mono ?_; clear GS1; rintro e w3 ⟨rfl, hc3⟩; subst w3)
        go_ret
        exact ⟨by simp, bl_step k2.out hw.out⟩
  · clear f1 f2 f3 f4 f5 f6 f7 hpl
    generalize wrdA s = R at *
    obtain ⟨l, n, er⟩ := R
    dsimp only at GA he
    have hen : (er != 0) = true := bne_iff_ne.2 he
    go_enter Try.func6, Try.ntmps6
    go_wp2_with (first
      | (go_at_call 8; refine GW.out.mono ?_; clear GW; rintro e w1 ⟨rfl, hc1⟩; have hc1 := hid hc1)
      | (go_at_call 9; refine (GL.out w1).mono ?_; clear GL; rintro e w2 ⟨rfl, hc2⟩; subst w2)
      | (go_at_call 10; refine (GA.out w1).mono ?_; clear GA; rintro e w2 ⟨v, rfl, hW, hc2⟩; have k2 := hid (bl_step hc1.out hc2)))
    go_ret
    exact ⟨rfl, k2.out⟩

set_option maxRecDepth 20000 in
set_option maxHeartbeats 2000000 in
theorem wordBlanksWalk (H : WordOK) (s : Txt) (w : World) (hs : s.length ≤ 9223372036854775807) : Calls Try.prog 7 #[.string (strT s)] w fun e w' => e = .returned (.bool true) ∧ Below w.heap.size w w' := by
  have GW := hid (wakes11 H w)
  have hsz := strT_size s
  by_cases h : 3900 < s.length
  · have hz : (3900 : Int) < (s.length : Int) := by omega
    go_enter Try.func7, Try.ntmps7
    go_wp2_with (go_at_call 8; refine GW.out.mono ?_; clear GW; rintro e w1 ⟨rfl, hc1⟩; have hc1 := hid hc1)
    go_ret
    exact ⟨rfl, hc1.out⟩
  have hz : ¬ (3900 : Int) < (s.length : Int) := by omega
  have GA := hid (fun u => H.all s u (by omega))
  have hbl := blanks_of (s := s) (by omega)
  have GB := hid (fun u => H.all (preB ++ (s ++ sfxB)) u (by rw [List.length_append, List.length_append]; show 6 + (s.length + 2) ≤ _; omega))
  rw [hbl] at GB
  obtain ⟨U, hU⟩ : ∃ x, (⟨#[9, 35, 32, 120, 59, 10]⟩ : ByteArray) ++ strT s ++ ⟨#[32, 10]⟩ = x := ⟨_, rfl⟩
  have hUe : strT (preB ++ (s ++ sfxB)) = U := by
    rw [← hU, show (⟨#[9, 35, 32, 120, 59, 10]⟩ : ByteArray) = strT preB from rfl, show (⟨#[32, 10]⟩ : ByteArray) = strT sfxB from rfl, strT_app, strT_app, List.append_assoc]
  rw [hUe] at GB
  obtain ⟨f1, f2, f3, f4, f5, f6, f7⟩ := wrdA_few s
  clear hbl hUe
  by_cases he : (wrdA s).2.2 = 0
  · have e9 : mvR 6 (wrdA s) = ((wrdA s).1.map (mvW 6), 0, 0) := if_pos he
    rw [e9] at GB
    have hf2 := hid f2
    clear f2 f3 f4 f5 f6 f7 e9
    generalize wrdA s = R at *
    obtain ⟨l, n, er⟩ := R
    dsimp only at GA GB he f1 hf2
    subst he
    have GE : Hid (∀ v v' u, Wds u v (l.map zOf) → Wds u v' ((l.map (mvW 6)).map zOf) → Calls Try.prog 15 #[v, v'] u fun e w' => e = .returned (.bool true) ∧ Below u.heap.size u w') := hid (fun v v' u h1 h2 => by
      have h9 := wdSame v v' _ _ u h1 h2 (by rw [List.length_map]; omega) (by rw [List.length_map, List.length_map]; omega)
      have hk : kt (l.map zOf) = kt ((l.map (mvW 6)).map zOf) := by
        unfold kt
        rw [List.map_map, List.map_map, List.map_map]
        rfl
      rw [decide_eq_true hk] at h9
      exact h9)
    obtain ⟨Ln, hLn⟩ : ∃ x, Hid (l.length = x) := ⟨_, hid rfl⟩
    rw [hLn.out] at f1
    go_enter Try.func7, Try.ntmps7
    go_wp2_with (first
      | (go_at_call 8; refine GW.out.mono ?_; clear GW; rintro e w1 ⟨rfl, hc1⟩; have hc1 := hid hc1)
      | (go_at_call 10; refine (GA.out w1).mono ?_; clear GA; rintro e w2 ⟨v, rfl, hW, hc2⟩; have hsh := hW.shape; rw [List.length_map, hLn.out] at hsh; obtain ⟨va, vc, rfl⟩ := hsh; have hW := hid hW; have k2 := hid (bl_step hc1.out hc2))
      | (go_at_call 10; refine (GB.out w2).mono ?_; clear GB; rintro e w3 ⟨v3, rfl, hW3, hc3⟩; have hsh := hW3.shape; rw [List.length_map, List.length_map, hLn.out] at hsh; obtain ⟨va3, vc3, rfl⟩ := hsh; have hW3 := hid hW3; have hW2 := hid (hW.out.keep hc3); have k3 := hid (bl_step k2.out hc3))
      | (go_at_call 15; refine (GE.out _ _ w3 hW2.out hW3.out).mono ?_; clear GE; rintro e w4 ⟨rfl, hc4⟩; have hW5 := hid (hW2.out.keep hc4); have hW6 := hid (hW3.out.keep hc4); have k4 := hid (bl_step k3.out hc4)))
    go_loopw [50] (fun i wr => ∃ j : Nat, j ≤ Ln ∧ i = .int .i64 (j : Int) ∧ Hid (Below w4.heap.size w4 wr)) (fun i _ => Ln - (intOf i).toNat)
    case atStart => exact ⟨0, by omega, rfl, hid (Below.refl _ _)⟩
    case round =>
      obtain ⟨j, hj, rfl, hw⟩ := hrel
      by_cases hjt : j < Ln
      · have hjtz : (j : Int) < (Ln : Int) := by omega
        obtain ⟨b, o, hab, -, x1, -⟩ := (hW5.out.keep hw.out).at (j := j) (by rw [List.length_map, hLn.out]; exact hjt)
        obtain ⟨b', o', hab', -, y1, -⟩ := (hW6.out.keep hw.out).at (j := j) (by rw [List.length_map, List.length_map, hLn.out]; exact hjt)
        subst hab hab'
        have hjl : j < l.length := by rw [hLn.out]; exact hjt
        rw [zget hjl] at x1
        rw [zget (by rw [List.length_map]; exact hjl)] at y1
        have hmv : (l.map (mvW 6)).getD j (0, 0, []) = mvW 6 (l.getD j (0, 0, [])) := by
          rw [List.getD_eq_getElem?_getD, List.getElem?_map, List.getElem?_eq_getElem hjl, List.getD_eq_getElem?_getD, List.getElem?_eq_getElem hjl]
          rfl
        rw [hmv] at y1
        have hbd : (l.getD j (0, 0, [])).2.1 ≤ 3900 := by
          have h9 := (hf2.out _ (List.getElem_mem hjl)).2
          rw [List.getD_eq_getElem?_getD, List.getElem?_eq_getElem hjl]
          show (l[j]).2.1 ≤ 3900
          omega
        generalize l.getD j (0, 0, []) = t at *
        obtain ⟨t0, t1, T⟩ := t
        dsimp only [zOf, mvW] at x1 y1 hbd
        have h6 : ((t1 + 6 : Nat) : Int) = (t1 : Int) + 6 := by omega
        rw [h6] at y1
        have hwd := hid (hw.out.drew)
        clear hmv h6
        go_wp2_with fail
        go_region
        go_wp2
        first
          | (go_roundw
             case rel => exact ⟨j + 1, by omega, by go_num, by first | exact hwd | exact hw⟩
             case measure => simp [intOf]; omega)
          | (refine ⟨⟨j + 1, by omega, by go_num, by first | exact hwd | exact hw⟩, ?_⟩
             simp [intOf]; omega)
      · have hjtz : ¬ (j : Int) < (Ln : Int) := by omega
        go_wp2
        go_ret
        exact ⟨rfl, bl_step k4.out hw.out⟩
  · have e9 : mvR 6 (wrdA s) = ((wrdA s).1, (wrdA s).2.1 + 6, (wrdA s).2.2) := if_neg he
    rw [e9] at GB
    clear f1 f2 f4 f5 f6 f7 e9
    generalize wrdA s = R at *
    obtain ⟨l, n, er⟩ := R
    dsimp only at GA GB he f3
    have hen : (er != 0) = true := bne_iff_ne.2 he
    have hn6 : ((n + 6 : Nat) : Int) = (n : Int) + 6 := by omega
    rw [hn6] at GB
    clear hn6
    go_enter Try.func7, Try.ntmps7
    go_wp2_with (first
      | (go_at_call 8; refine GW.out.mono ?_; clear GW; rintro e w1 ⟨rfl, hc1⟩; have hc1 := hid hc1)
      | (go_at_call 10; refine (GA.out w1).mono ?_; clear GA; rintro e w2 ⟨v, rfl, hW, hc2⟩; have k2 := hid (bl_step hc1.out hc2))
      | (go_at_call 10; refine (GB.out w2).mono ?_; clear GB; rintro e w3 ⟨v3, rfl, hW3, hc3⟩; have k3 := hid (bl_step k2.out hc3)))
    go_ret
    exact ⟨by simp, k3.out⟩

end Go.Proofs.Ytkpakpfjgeannaa
