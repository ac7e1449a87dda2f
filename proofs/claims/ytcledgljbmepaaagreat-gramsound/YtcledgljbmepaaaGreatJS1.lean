/- GramSound's walk, of what is asked of package gram. -/
import Derived.Test.YtcledgljbmepaaaGreatJ15
namespace Go.Proofs.YtcledgljbmepaaaGreat
open Go.RowKit Go.Maps Go.Sort

set_option maxRecDepth 20000 in
set_option maxHeartbeats 8000000 in
theorem gramSoundWalk {prs : Txt → Option Gm} (L : LowN) (H : PrsOK prs) (HN : SndOK prs) (s : Txt) (w : World) (hs : s.length ≤ 9223372036854775807) : Calls Tryz.prog 4 #[.string (strT s)] w fun e w' => e = .returned (.bool true) ∧ Below w.heap.size w w' := by
  have GW := hid (wakes12 L H w)
  have hsz := strT_size s
  by_cases h4 : 4096 < s.length
  · have h4z : (4096 : Int) < (s.length : Int) := by omega
    go_enter Tryz.func4, Tryz.ntmps4
    go_wp2_with (go_at_call 5; refine GW.out.mono ?_; clear GW; rintro e w1 ⟨rfl, hc1⟩; have hc1 := hid hc1)
    go_ret
    exact ⟨rfl, hc1.out⟩
  have h4z : ¬ (4096 : Int) < (s.length : Int) := by omega
  cases hp : prs s with
  | none =>
    have GP := hid (fun u => H.no s u (by omega) hp)
    clear hp
    go_enter Tryz.func4, Tryz.ntmps4
    go_wp2_with (first
      | (go_at_call 5; refine GW.out.mono ?_; clear GW; rintro e w1 ⟨rfl, hc1⟩; have hc1 := hid hc1)
      | (go_at_call 12; refine (GP.out w1).mono ?_; clear GP; rintro e w2 ⟨ra, na, la, pa, rc, nc, lc, pc, st, n, er, rfl, her, hc2⟩; have herb : (er != 0) = true := bne_iff_ne.2 her; clear her; have hw3 := hid (bl_step (bl_step hc1.out hc2) (al' w2 (.cells #[.slice ra 0 rc, .slice na 0 nc, .slice la 0 lc, .slice pa 0 pc, .int .i64 st] 27))); clear hc2))
    go_ret
    exact ⟨by simp, hw3.out⟩
  | some g =>
    have GP := hid (fun u => H.yes s g u (by omega) hp)
    have hbn := hid (H.bnd s g hp)
    have hso := hid (HN.sound s g hp)
    have GR := hid (fun (k : Nat) (hk : k < g.rules.length) (v : Value) (u : World) (h : Cels u v g.rules[k].re) => HN.right s g hp g.rules[k] (List.getElem_mem hk) v u h)
    have hb1 := hbn.out.rules
    have hb2 := hbn.out.nonts
    have hb3 := hbn.out.levels
    have hb4 := hbn.out.prods
    have htm : g.terms ≤ 1000 := Nat.le_trans (trmK_le g.rules g.rules.length) hb1
    have GT := hid (fun rv nv lv pv u (h : GmV u rv nv lv pv g) => refTermsC rv nv lv pv g u h (by omega))
    have GN := hid (fun rv nv lv pv (j : Int) u (h : GmV u rv nv lv pv g) => refNameC rv nv lv pv g j u h (by omega) (by omega))
    have GY := hid (fun rv nv lv pv (k : Nat) (h1 : 1 ≤ k) (h2 : k ≤ g.terms + g.nonts.length) u (h : GmV u rv nv lv pv g) => by
      have h9 := refSymC rv nv lv pv g (g.name (k : Int)) u h (by omega) (by omega)
      rw [Gm.sym_of h1 h2 (fun j hj1 hj2 => hso.out.names j k hj1 hj2 h2)] at h9
      exact h9)
    have hlv := hid hso.out.levels
    have hst := hid hso.out.start
    have hpd := hid (fun k (hk : k < g.prods.length) => hso.out.prods g.prods[k] (List.getElem_mem hk))
    have hal : Hid (g.all = g.terms + g.nonts.length) := hid rfl
    rw [hal.out] at hst hpd
    clear hp hso hbn hal
    rw [hlv.out] at hb3
    generalize g.terms = tm at *
    generalize g.start = st at *
    obtain ⟨rn, hrn⟩ : ∃ n, Hid (g.rules.length = n) := ⟨_, hid rfl⟩
    obtain ⟨nn, hnn⟩ : ∃ n, Hid (g.nonts.length = n) := ⟨_, hid rfl⟩
    obtain ⟨pp, hpp⟩ : ∃ n, Hid (g.prods.length = n) := ⟨_, hid rfl⟩
    rw [hrn.out] at hb1
    rw [hnn.out] at hb2 hst hpd GY
    rw [hpp.out] at hb4
    have c0 : ((((tm + 1 : Nat) : Int)) != (tm : Int) + 1) = false := by rw [bne_eq_false_iff_eq]; omega
    have hstc : Hid (nn = 0 ∨ (0 < nn ∧ (tm : Int) < st ∧ st ≤ (tm : Int) + (nn : Int))) := hid (by
      rcases Nat.eq_zero_or_pos nn with h9 | h9
      · exact .inl h9
      · obtain ⟨h8, h7⟩ := hst.out h9
        exact .inr ⟨h9, h8, by omega⟩)
    clear hst
    have hpd2 : Hid (∀ k (hk : k < g.prods.length), (tm : Int) < g.prods[k].left ∧ g.prods[k].left ≤ (tm : Int) + (nn : Int) ∧ 0 ≤ g.prods[k].prec ∧ g.prods[k].prec ≤ (tm : Int) ∧ g.prods[k].right.length ≤ 8 ∧ ∀ j ∈ g.prods[k].right, 1 ≤ j ∧ j ≤ (tm : Int) + (nn : Int)) := hid (fun k hk => by
      obtain ⟨p1, p2, p3, p4, p5, p6⟩ := hpd.out k hk
      exact ⟨p1, by omega, p3, p4, p5, fun j hj => ⟨(p6 j hj).1, by have := (p6 j hj).2; omega⟩⟩)
    clear hpd
    have hcond : Hid (¬ (0 : Int) < (nn : Int)) ∨ Hid ((0 : Int) < (nn : Int) ∧ ¬ st ≤ (tm : Int) ∧ ¬ (tm : Int) + (nn : Int) < st) := by
      rcases hstc.out with h9 | ⟨h9, h8, h7⟩
      · exact .inl (hid (by omega))
      · exact .inr (hid ⟨by omega, by omega, by omega⟩)
    clear hstc
    rcases hcond with hcx | hcx
    all_goals
      have hcy := hcx.out
      clear hcx
      try (obtain ⟨hcy, hcy1, hcy2⟩ := hcy)
      go_enter Tryz.func4, Tryz.ntmps4
      go_wp2_with (first
        | (go_at_call 5; refine GW.out.mono ?_; clear GW; rintro e w1 ⟨rfl, hc1⟩; have hc1 := hid hc1)
        | (go_at_call 12; refine (GP.out w1).mono ?_; clear GP; rintro e w2 ⟨rv, nv, lv, pv, rfl, hV, hc2⟩; obtain ⟨ra, rc, hre⟩ := hV.rules.shape; obtain ⟨na, nc, hne⟩ := hV.nonts.shape; obtain ⟨la, lc, hle⟩ := hV.levels.shape; obtain ⟨pa, pc, hpe⟩ := hV.prods.shape; subst hre hne hle hpe; rw [hrn.out, hnn.out, hpp.out, hlv.out] at hV ⊢; obtain ⟨W3, hW3⟩ : ∃ x, w2.alloc (.cells #[.slice ra rn rc, .slice na nn nc, .slice la (tm + 1) lc, .slice pa pp pc, .int .i64 st] 27) = x := ⟨_, rfl⟩; have hB3 : Hid (Below w2.heap.size w2 W3) := (by rw [← hW3]; exact hid (al' w2 _)); have hk3 : Hid (W3.heap[w2.heap.size]? = some (.cells #[.slice ra rn rc, .slice na nn nc, .slice la (tm + 1) lc, .slice pa pp pc, .int .i64 st] 27 (0, 0))) := (by rw [← hW3]; exact hid (heap_new w2 _)); obtain ⟨y0, y1, y2, y3, y4⟩ := cells5m hk3.out; have hw3 := hid (bl_step (bl_step hc1.out hc2) hB3.out); have hV3 := hid (hV.keep hB3.out); clear hc2 hV)
        | (go_at_call 9; refine (GT.out _ _ _ _ W3 hV3.out).mono ?_; clear GT; rintro e w4 ⟨rfl, hc4⟩; have hc4 := hid hc4; have hw4 := hid (bl_step hw3.out hc4.out); have hk4 := hid (hs_keep hk3.out hc4.out); have hV4 := hid (hV3.out.keep hc4.out); clear y0 y1 y2 y3 y4; obtain ⟨y0, y1, y2, y3, y4⟩ := cells5m hk4.out; clear hk3 hV3 hc4))
      rename_i h9 K9 a9
      clear h9
      have hdec : decide ((4096 : Int) < (s.length : Int)) = false := decide_eq_false (by omega)
      try simp only [hdec]
      have hBx : Hid (∀ u, Below w4.heap.size w4 u → u.cell? ⟨w2.heap.size, 0, none⟩ = some (.slice ra rn rc) ∧ u.cell? ⟨w2.heap.size, 1, none⟩ = some (.slice na nn nc) ∧ u.cell? ⟨w2.heap.size, 2, none⟩ = some (.slice la (tm + 1) lc) ∧ u.cell? ⟨w2.heap.size, 3, none⟩ = some (.slice pa pp pc) ∧ u.cell? ⟨w2.heap.size, 4, none⟩ = some (.int .i64 st)) := hid (fun u hu => cells5m (hs_keep hk4.out hu))
      clear hk4 hW3 hdec h4z hcy y0 y1 y2 y3 y4
      try clear hcy1 hcy2
      go_loopw [61] (fun i wr => ∃ k : Nat, k ≤ rn ∧ i = .int .i64 (k : Int) ∧ Hid (Below w4.heap.size w4 wr)) (fun i _ => rn - (intOf i).toNat)
      case atStart => exact ⟨0, Nat.zero_le _, rfl, hid (Below.refl _ _)⟩
      case round =>
        obtain ⟨k, hk, rfl, hw⟩ := hrel
        obtain ⟨z0, z1, z2, z3, z4⟩ := hBx.out wr hw.out
        by_cases hlt : k < rn
        · have hltz : (k : Int) < (rn : Int) := by omega
          have hkl : k < g.rules.length := by rw [hrn.out]; exact hlt
          obtain ⟨b, o, he, -, v, x0, x1, x2, hC⟩ := (hV4.out.keep hw.out).rules.at hkl
          subst he
          have GR1 := hid (GR.out k hkl v wr hC)
          clear hC x0 x2
          go_wp2_with (go_at_call 13; refine GR1.out.mono ?_; clear GR1; rintro e w5 ⟨rfl, hc5⟩; have hw5 := hid (bl_step hw.out hc5))
          go_roundw
          case rel => exact ⟨k + 1, by omega, by go_num, hw5⟩
          case measure => simp [intOf]; omega
        · have hltz : ¬ (k : Int) < (rn : Int) := by omega
          have hwA := hw
          go_wp2
          clear hltz z0 z1 z2 z3 z4 hw GR
          go_loopw [9] (fun i wr => ∃ k : Nat, 1 ≤ k ∧ k ≤ tm + nn + 1 ∧ i = .int .i64 (k : Int) ∧ Hid (Below w4.heap.size w4 wr)) (fun i _ => tm + nn + 1 - (intOf i).toNat)
          case atStart => exact ⟨1, Nat.le_refl _, by omega, rfl, hwA⟩
          case round =>
            obtain ⟨k, hk1, hk, rfl, hw⟩ := hrel
            obtain ⟨z0, z1, z2, z3, z4⟩ := hBx.out wr hw.out
            by_cases hlt : k < tm + nn + 1
            · have hltz : (k : Int) ≤ (tm : Int) + (nn : Int) := by omega
              have cA : Hid (∀ d os, Calls Tryz.prog 11 #[gmA (.slice ra rn rc) (.slice na nn nc) (.slice la (tm + 1) lc) (.slice pa pp pc) st, .int .i64 (k : Int)] (grow (redrawn wr d) os) fun e w'' => e = .returned (.string (strT (g.name (k : Int)))) ∧ ∃ p : Regrown, w'' = grow (redrawn wr p.d) p.os) := hid (fun d os => Calls.regrown_of (GN.out _ _ _ _ (k : Int) _ ((hV4.out.keep hw.out).keep (below_regrown wr d os))))
              have cB : Hid (∀ d os, Calls Tryz.prog 14 #[gmA (.slice ra rn rc) (.slice na nn nc) (.slice la (tm + 1) lc) (.slice pa pp pc) st, .string (strT (g.name (k : Int)))] (grow (redrawn wr d) os) fun e w'' => e = .returned (.int .i64 (k : Int)) ∧ ∃ p : Regrown, w'' = grow (redrawn wr p.d) p.os) := hid (fun d os => Calls.regrown_of (GY.out _ _ _ _ k hk1 (by omega) _ ((hV4.out.keep hw.out).keep (below_regrown wr d os))))
              have y0 := cell_regrown z0
              have y1 := cell_regrown z1
              have y2 := cell_regrown z2
              have y3 := cell_regrown z3
              have y4 := cell_regrown z4
              clear z0 z1 z2 z3 z4
              generalize strT (g.name (k : Int)) = U at *
              go_wp2_with fail
              refine wp_region_quiet_below (by kernel_rfl) (by kernel_rfl) ?_
              repeat (first | go_big_quiet_step (first | exact cA.out _ _ | exact cB.out _ _) | quiet_step (first | exact cA.out _ _ | exact cB.out _ _))
              refine wpQuiet_nil ?_
              intro _ hw'
              obtain ⟨⟨dq, osq⟩, hw''⟩ := hw'
              subst hw''
              have hwq := hid (bl_step hw.out (below_regrown wr dq osq))
              go_wp2
              go_roundw
              case rel => exact ⟨k + 1, by omega, by omega, by go_num, hwq⟩
              case measure => simp [intOf]; omega
            · have hltz : ¬ (k : Int) ≤ (tm : Int) + (nn : Int) := by omega
              have hwB := hw
              go_wp2
              clear hltz z0 z1 z2 z3 z4 hw GN GY hwA hlt hk hk1
              go_loopw [88] (fun i wr => ∃ k : Nat, k ≤ pp ∧ i = .int .i64 (k : Int) ∧ Hid (Below w4.heap.size w4 wr)) (fun i _ => pp - (intOf i).toNat)
              case atStart => exact ⟨0, Nat.zero_le _, rfl, hwB⟩
              case round =>
                obtain ⟨k, hk, rfl, hw⟩ := hrel
                by_cases hlt : k < pp
                · have hltz : (k : Int) < (pp : Int) := by omega
                  have hkl : k < g.prods.length := by rw [hpp.out]; exact hlt
                  obtain ⟨b, o, he, -, v, x0, x1, x2, hC⟩ := (hV4.out.keep hw.out).prods.at hkl
                  subst he
                  obtain ⟨p1, p2, p3, p4, p5, p6⟩ := hpd2.out k hkl
                  have p6 := hid p6
                  generalize g.prods[k].left = lf at *
                  generalize g.prods[k].prec = pr at *
                  generalize g.prods[k].right = R at *
                  obtain ⟨m, hm⟩ : ∃ m, Hid (R.length = m) := ⟨_, hid rfl⟩
                  rw [hm.out] at p5
                  obtain ⟨va, vc, hve, hvn⟩ : ∃ va vc, v = .slice va m vc ∧ Hid (Nums wr v R) := by
                    have hC' := hid hC
                    obtain ⟨va, vc, e, _⟩ := hC
                    rw [hm.out] at e
                    exact ⟨va, vc, e, hC'⟩
                  subst hve
                  clear hC
                  obtain ⟨W5, hW5⟩ : ∃ x, wr.alloc (.cells #[.int .i64 lf, .slice va m vc, .int .i64 pr] 44) = x := ⟨_, rfl⟩
                  have hB5 : Hid (Below wr.heap.size wr W5) := by rw [← hW5]; exact hid (al' wr _)
                  have hk5 : W5.heap[wr.heap.size]? = some (.cells #[.int .i64 lf, .slice va m vc, .int .i64 pr] 44 (0, 0)) := by rw [← hW5]; exact heap_new wr _
                  obtain ⟨⟨u0, -⟩, ⟨u1, -⟩, ⟨u2, -⟩⟩ := cells3m hk5
                  have hN5 : Hid (∀ j, j < m → ∃ b o, va = some ⟨b, o, none⟩ ∧ W5.cell? ⟨b, o + j, none⟩ = some (.int .i64 (R.getD j 0)) ∧ 1 ≤ R.getD j 0 ∧ R.getD j 0 ≤ (tm : Int) + (nn : Int)) := hid (fun j hj => by
                    obtain ⟨a9, c9, e9, -, -, h9⟩ := hvn.out.keep hB5.out
                    injection e9 with e1 _ _
                    subst e1
                    have hj' : j < R.length := by rw [hm.out]; exact hj
                    obtain ⟨b9, o9, e8, -, h8⟩ := h9 j hj'
                    have hgd : R.getD j 0 = R[j] := by rw [List.getD_eq_getElem?_getD, List.getElem?_eq_getElem hj']; rfl
                    rw [hgd]
                    exact ⟨b9, o9, e8, h8, p6.out _ (List.getElem_mem hj')⟩)
                  have hw5 := hid (bl_step hw.out hB5.out)
                  have r1 : ¬ lf ≤ (tm : Int) := by omega
                  have r2 : ¬ (tm : Int) + (nn : Int) < lf := by omega
                  have r3 : ¬ pr < 0 := by omega
                  have r4 : ¬ (tm : Int) < pr := by omega
                  have r5 : ¬ (8 : Int) < (m : Int) := by omega
                  have rd1 : decide (lf ≤ (tm : Int)) = false := decide_eq_false r1
                  have rd2 : decide ((tm : Int) + (nn : Int) < lf) = false := decide_eq_false r2
                  have rd3 : decide (pr < 0) = false := decide_eq_false r3
                  have rd4 : decide ((tm : Int) < pr) = false := decide_eq_false r4
                  have rd5 : decide ((8 : Int) < (m : Int)) = false := decide_eq_false r5
                  clear p1 p2 p3 p4 p6 hk5 hvn
                  go_wp2
                  clear x0 x1 x2 u0 u1 u2 hW5 r1 r2 r3 r4 r5 rd1 rd2 rd3 rd4 rd5
                  go_loopw [122] (fun i w9 => ∃ j : Nat, j ≤ m ∧ i = .int .i64 (j : Int) ∧ w9 = W5) (fun i _ => m - (intOf i).toNat)
                  case atStart => exact ⟨0, Nat.zero_le _, rfl, rfl⟩
                  case round =>
                    obtain ⟨j, hj, rfl, hwj⟩ := hrel
                    subst hwj
                    by_cases hjt : j < m
                    · have hjz : (j : Int) < (m : Int) := by omega
                      obtain ⟨b9, o9, e9, h9, q1, q2⟩ := hN5.out j hjt
                      subst e9
                      generalize R.getD j 0 = kk at *
                      have s1 : ¬ kk < 1 := by omega
                      have s2 : ¬ (tm : Int) + (nn : Int) < kk := by omega
                      clear q1 q2
                      go_wp2
                      go_roundw
                      case rel => exact ⟨j + 1, by omega, by go_num, by first | rfl | trivial⟩
                      case measure => simp [intOf]; omega
                    · have hjz : ¬ (j : Int) < (m : Int) := by omega
                      go_wp2
                      go_roundw
                      case rel => exact ⟨k + 1, by omega, by go_num, hw5⟩
                      case measure => simp [intOf]; omega
                · have hltz : ¬ (k : Int) < (pp : Int) := by omega
                  go_wp2
                  go_ret
                  exact ⟨rfl, bl_step hw4.out hw.out⟩

end Go.Proofs.YtcledgljbmepaaaGreat
