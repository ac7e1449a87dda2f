/- The reference: topiaryref12.Same, of any two grammars. DiffSame: the walk. -/
import Derived.Test.YtloaikjealcbmaaGreatJA
namespace Go.Proofs.YtloaikjealcbmaaGreat
open Go.RowKit Go.Maps Go.Sort

noncomputable def samB (g h : Gm) : Bool := @decide (g = h) (Classical.propDecidable _)
theorem samB_yes {g h : Gm} (k : g = h) : samB g h = true := by unfold samB; exact @decide_eq_true _ (Classical.propDecidable _) k
theorem samB_no {g h : Gm} (k : g ≠ h) : samB g h = false := by unfold samB; exact @decide_eq_false _ (Classical.propDecidable _) k
theorem pd_ext {a b : Pd} (h1 : a.left = b.left) (h2 : a.prec = b.prec) (h3 : a.right = b.right) : a = b := by cases a; cases b; simp_all
theorem gm_ext {g h : Gm} (h1 : g.rules = h.rules) (h2 : g.nonts = h.nonts) (h3 : g.levels = h.levels) (h4 : g.prods = h.prods) (h5 : g.start = h.start) : g = h := by cases g; cases h; simp_all
set_option maxRecDepth 20000 in
set_option maxHeartbeats 32000000 in
theorem refSameG (rv nv lv pv rv' nv' lv' pv' : Value) (g h : Gm) (w : World) (hV : GmV w rv nv lv pv g) (hV' : GmV w rv' nv' lv' pv' h) (hb : BndG g) (hb' : BndG h) :
 Calls Tryz.prog 11 #[gmA rv nv lv pv g.start, gmA rv' nv' lv' pv' h.start] w fun e w' => e = .returned (.bool (samB g h)) ∧ Below w.heap.size w w' := by
 obtain ⟨ra, rc, rfl⟩ := hV.rules.shape
 obtain ⟨na, nc, rfl⟩ := hV.nonts.shape
 obtain ⟨la, lc, rfl⟩ := hV.levels.shape
 obtain ⟨pa, pc, rfl⟩ := hV.prods.shape
 obtain ⟨ra', rc', rfl⟩ := hV'.rules.shape
 obtain ⟨na', nc', rfl⟩ := hV'.nonts.shape
 obtain ⟨la', lc', rfl⟩ := hV'.levels.shape
 obtain ⟨pa', pc', rfl⟩ := hV'.prods.shape
 obtain ⟨W, hW, hB1, hBx9⟩ := boxes2 w (.slice ra g.rules.length rc) (.slice na g.nonts.length nc) (.slice la g.levels.length lc) (.slice pa g.prods.length pc) (.slice ra' h.rules.length rc') (.slice na' h.nonts.length nc') (.slice la' h.levels.length lc') (.slice pa' h.prods.length pc') g.start h.start
 have hB := hid hB1
 have hBx := hid hBx9
 have hKv := hid (fun u (hu : Below W.heap.size W u) => hV.keep (bl_step hB1 hu))
 have hKv' := hid (fun u (hu : Below W.heap.size W u) => hV'.keep (bl_step hB1 hu))
 have b1 := hb.rules
 have b2 := hb.nonts
 have b3 := hb.levels
 have b4 := hb.prods
 have d1 := hb'.rules
 have d2 := hb'.nonts
 have d3 := hb'.levels
 have d4 := hb'.prods
 have hre := hid hb.re
 have hrt := hid hb.right
 have hrt' := hid hb'.right
 have yes := hid (fun k1 k2 k3 k4 k5 => samB_yes (gm_ext (g := g) (h := h) k1 k2 k3 k4 k5))
 have no := hid (fun k => samB_no (g := g) (h := h) k)
 generalize samB g h = R at *
 obtain ⟨⟨z0, z1, z2, z3, z4⟩, ⟨q0, q1, q2, q3, q4⟩⟩ := hBx.out W (Below.refl _ _)
 obtain ⟨rn, hrn⟩ : ∃ n, Hid (g.rules.length = n) := ⟨_, hid rfl⟩
 obtain ⟨nn, hnn⟩ : ∃ n, Hid (g.nonts.length = n) := ⟨_, hid rfl⟩
 obtain ⟨ll, hll⟩ : ∃ n, Hid (g.levels.length = n) := ⟨_, hid rfl⟩
 obtain ⟨pp, hpp⟩ : ∃ n, Hid (g.prods.length = n) := ⟨_, hid rfl⟩
 obtain ⟨rm, hrm⟩ : ∃ n, Hid (h.rules.length = n) := ⟨_, hid rfl⟩
 obtain ⟨nm, hnm⟩ : ∃ n, Hid (h.nonts.length = n) := ⟨_, hid rfl⟩
 obtain ⟨lm, hlm⟩ : ∃ n, Hid (h.levels.length = n) := ⟨_, hid rfl⟩
 obtain ⟨pm, hpm⟩ : ∃ n, Hid (h.prods.length = n) := ⟨_, hid rfl⟩
 obtain ⟨st, hst⟩ : ∃ n, Hid (g.start = n) := ⟨_, hid rfl⟩
 obtain ⟨st', hst'⟩ : ∃ n, Hid (h.start = n) := ⟨_, hid rfl⟩
 clear hV hV' hB1 hBx9 hb hb'
 rw [hrn.out] at b1 hW hBx z0 hKv ⊢
 rw [hnn.out] at b2 hW hBx z1 hKv ⊢
 rw [hll.out] at b3 hW hBx z2 hKv ⊢
 rw [hpp.out] at b4 hW hBx z3 hKv ⊢
 rw [hrm.out] at d1 hW hBx q0 hKv' ⊢
 rw [hnm.out] at d2 hW hBx q1 hKv' ⊢
 rw [hlm.out] at d3 hW hBx q2 hKv' ⊢
 rw [hpm.out] at d4 hW hBx q3 hKv' ⊢
 rw [hst.out] at hW hBx z4 ⊢
 rw [hst'.out] at hW hBx q4 ⊢
 by_cases ts : st = st'
 · have tqs := hid ts
   subst ts
   by_cases tr : rn = rm
   · have tqr := hid tr
     subst tr
     by_cases tn : nn = nm
     · have tqn := hid tn
       subst tn
       by_cases tl : ll = lm
       · have tql := hid tl
         subst tl
         by_cases tp : pp = pm
         · have tqp := hid tp
           subst tp
           go_enter Tryz.func11, Tryz.ntmps11
           go_wp2
           clear hW z0 z1 z2 z3 z4 q0 q1 q2 q3 q4
           go_loopw [5] (fun i wr => ∃ k : Nat, k ≤ rn ∧ i = .int .i64 (k : Int) ∧ Hid (∀ j (h1 : j < g.rules.length) (h2 : j < h.rules.length), j < k → g.rules[j] = h.rules[j]) ∧ Hid (Below W.heap.size W wr)) (fun i _ => rn - (intOf i).toNat)
           case atStart => exact ⟨0, Nat.zero_le _, rfl, hid (fun _ _ _ h => absurd h (Nat.not_lt_zero _)), hid (Below.refl _ _)⟩
           case round =>
            obtain ⟨k, hk, rfl, hI, hbl⟩ := hrel
            obtain ⟨⟨z0, z1, z2, z3, -⟩, ⟨q0, q1, q2, q3, -⟩⟩ := hBx.out wr hbl.out
            by_cases hlt : k < rn
            · have hltz : (k : Int) < (rn : Int) := by omega
              have hk1 : k < g.rules.length := by rw [hrn.out]; exact hlt
              have hk2 : k < h.rules.length := by rw [hrm.out]; exact hlt
              have hne : Hid (g.rules[k] ≠ h.rules[k] → R = false) := hid (fun e9 => no.out (fun e => e9 (by simp only [e])))
              have hmore : Hid (g.rules[k] = h.rules[k] → ∀ j (h1 : j < g.rules.length) (h2 : j < h.rules.length), j < k + 1 → g.rules[j] = h.rules[j]) := hid (fun h9 j h1 h2 h3 => by
               rcases Nat.lt_or_ge j k with h8 | h8
               · exact hI.out j h1 h2 h8
               · obtain rfl : j = k := by omega
                 exact h9)
              obtain ⟨b, o, he, -, v, x0, x1, x2, hC⟩ := (hKv.out wr hbl.out).rules.at hk1
              obtain ⟨b', o', he', -, v', x0', x1', x2', hC'⟩ := (hKv'.out wr hbl.out).rules.at hk2
              subst he he'
              have hln := hre.out _ (List.getElem_mem hk1)
              have cA : Hid (∀ d os, Calls Tryz.prog 23 #[v, v'] (grow (redrawn wr d) os) fun e w'' => e = .returned (.bool (decide (g.rules[k].re = h.rules[k].re))) ∧ ∃ p : Regrown, w'' = grow (redrawn wr p.d) p.os) := hid (fun d os => Calls.regrown_of (sameQ _ _ _ _ _ (by omega) (hC.keep (below_regrown wr d os)) (hC'.keep (below_regrown wr d os))))
              have y0 := cell_regrown z0
              have y1 := cell_regrown q0
              have y2 := cell_regrown x0
              have y3 := cell_regrown x1
              have y4 := cell_regrown x2
              have y5 := cell_regrown x0'
              have y6 := cell_regrown x1'
              have y7 := cell_regrown x2'
              clear hC hC' hln x0 x1 x2 x0' x1' x2' hI q0
              by_cases e1 : g.rules[k].name = h.rules[k].name
              · by_cases e2 : g.rules[k].skip = h.rules[k].skip
                · by_cases e3 : g.rules[k].re = h.rules[k].re
                  · have hm9 := hid (hmore.out (rl_ext e1 e2 e3))
                    rw [decide_eq_true e3] at cA
                    rw [← e1] at y5
                    rw [← e2] at y7
                    clear e1 e2 e3 hne hmore
                    generalize strT g.rules[k].name = U at *
                    generalize g.rules[k].skip = sk at *
                    go_wp2_with fail
                    refine wp_region_quiet_below (by kernel_rfl) (by kernel_rfl) ?_
                    repeat (first | go_big_quiet_step (exact cA.out _ _) | quiet_step (exact cA.out _ _))
                    refine wpQuiet_nil ?_
                    intro _ hw'
                    obtain ⟨⟨dq, osq⟩, hw''⟩ := hw'
                    subst hw''
                    have hwq := hid (bl_step hbl.out (below_regrown wr dq osq))
                    go_wp2
                    go_roundw
                    case rel => exact ⟨k + 1, by omega, by go_num, hm9, hwq⟩
                    case measure => simp [intOf]; omega
                  · obtain rfl := hne.out (fun e => e3 (by rw [e]))
                    rw [decide_eq_false e3] at cA
                    rw [← e1] at y5
                    rw [← e2] at y7
                    clear e1 e2 e3 hmore
                    generalize strT g.rules[k].name = U at *
                    generalize g.rules[k].skip = sk at *
                    go_wp2_with fail
                    refine wp_region_quiet_below (by kernel_rfl) (by kernel_rfl) ?_
                    repeat (first | go_big_quiet_step (exact cA.out _ _) | quiet_step (exact cA.out _ _))
                    refine wpQuiet_nil ?_
                    intro _ hw'
                    obtain ⟨⟨dq, osq⟩, hw''⟩ := hw'
                    subst hw''
                    have hwq := hid (bl_step hbl.out (below_regrown wr dq osq))
                    go_wp2
                    go_ret
                    exact ⟨rfl, bl_step hB.out hwq.out⟩
                · obtain rfl := hne.out (fun e => e2 (by rw [e]))
                  have e2z : (g.rules[k].skip == h.rules[k].skip) = false := by rw [beq_eq_false_iff_ne]; exact e2
                  rw [← e1] at y5
                  clear e1 e2 hmore cA
                  generalize strT g.rules[k].name = U at *
                  generalize g.rules[k].skip = sk at *
                  generalize h.rules[k].skip = sk' at *
                  go_wp2_with fail
                  refine wp_region_quiet_below (by kernel_rfl) (by kernel_rfl) ?_
                  repeat (first | go_big_quiet_step (fail) | quiet_step (fail))
                  refine wpQuiet_nil ?_
                  intro _ hw'
                  obtain ⟨⟨dq, osq⟩, hw''⟩ := hw'
                  subst hw''
                  have hwq := hid (bl_step hbl.out (below_regrown wr dq osq))
                  go_wp2
                  go_ret
                  exact ⟨rfl, bl_step hB.out hwq.out⟩
              · obtain rfl := hne.out (fun e => e1 (by rw [e]))
                have e1z : ((strT g.rules[k].name).toList == (strT h.rules[k].name).toList) = false := by rw [strT_beqT]; exact decide_eq_false e1
                clear e1 hmore cA
                generalize strT g.rules[k].name = U at *
                generalize strT h.rules[k].name = U' at *
                generalize g.rules[k].skip = sk at *
                generalize h.rules[k].skip = sk' at *
                go_wp2_with fail
                refine wp_region_quiet_below (by kernel_rfl) (by kernel_rfl) ?_
                repeat (first | go_big_quiet_step (fail) | quiet_step (fail))
                refine wpQuiet_nil ?_
                intro _ hw'
                obtain ⟨⟨dq, osq⟩, hw''⟩ := hw'
                subst hw''
                have hwq := hid (bl_step hbl.out (below_regrown wr dq osq))
                go_wp2
                go_ret
                exact ⟨rfl, bl_step hB.out hwq.out⟩
            · have hltz : ¬ (k : Int) < (rn : Int) := by omega
              have er : Hid (g.rules = h.rules) := hid (list_ext (by rw [hrn.out, hrm.out]) (fun j h1 h2 => hI.out j h1 h2 (by rw [hrn.out] at h1; omega)))
              have hber := hbl
              clear hk hlt hI
              go_wp2
              clear hltz z0 z1 z2 z3 q0 q1 q2 q3 hbl
              go_loopw [6] (fun i wr => ∃ k : Nat, k ≤ nn ∧ i = .int .i64 (k : Int) ∧ Hid (∀ j (h1 : j < g.nonts.length) (h2 : j < h.nonts.length), j < k → g.nonts[j] = h.nonts[j]) ∧ Hid (Below W.heap.size W wr)) (fun i _ => nn - (intOf i).toNat)
              case atStart => exact ⟨0, Nat.zero_le _, rfl, hid (fun _ _ _ h => absurd h (Nat.not_lt_zero _)), hber⟩
              case round =>
               obtain ⟨k, hk, rfl, hI, hbl⟩ := hrel
               obtain ⟨⟨z0, z1, z2, z3, -⟩, ⟨q0, q1, q2, q3, -⟩⟩ := hBx.out wr hbl.out
               by_cases hlt : k < nn
               · have hltz : (k : Int) < (nn : Int) := by omega
                 have hk1 : k < g.nonts.length := by rw [hnn.out]; exact hlt
                 have hk2 : k < h.nonts.length := by rw [hnm.out]; exact hlt
                 have hne : Hid (g.nonts[k] ≠ h.nonts[k] → R = false) := hid (fun e9 => no.out (fun e => e9 (by simp only [e])))
                 have hmore : Hid (g.nonts[k] = h.nonts[k] → ∀ j (h1 : j < g.nonts.length) (h2 : j < h.nonts.length), j < k + 1 → g.nonts[j] = h.nonts[j]) := hid (fun h9 j h1 h2 h3 => by
                  rcases Nat.lt_or_ge j k with h8 | h8
                  · exact hI.out j h1 h2 h8
                  · obtain rfl : j = k := by omega
                    exact h9)
                 obtain ⟨b, o, he, -, x0⟩ := (hKv.out wr hbl.out).nonts.at hk1
                 obtain ⟨b', o', he', -, x0'⟩ := (hKv'.out wr hbl.out).nonts.at hk2
                 subst he he'
                 rw [Nat.mul_one] at x0 x0'
                 have x0 : wr.cell? ⟨b, o + k, none⟩ = some (.string (strT g.nonts[k])) := x0
                 have x0' : wr.cell? ⟨b', o' + k, none⟩ = some (.string (strT h.nonts[k])) := x0'
                 have y0 := cell_regrown z1
                 have y1 := cell_regrown q1
                 have y2 := cell_regrown x0
                 have y5 := cell_regrown x0'
                 clear x0 x0' hI q1
                 by_cases e1 : g.nonts[k] = h.nonts[k]
                 · have hm9 := hid (hmore.out e1)
                   rw [← e1] at y5
                   clear e1 hne hmore
                   generalize strT g.nonts[k] = U at *
                   go_wp2_with fail
                   refine wp_region_quiet_below (by kernel_rfl) (by kernel_rfl) ?_
                   repeat (first | go_big_quiet_step (fail) | quiet_step (fail))
                   refine wpQuiet_nil ?_
                   intro _ hw'
                   obtain ⟨⟨dq, osq⟩, hw''⟩ := hw'
                   subst hw''
                   have hwq := hid (bl_step hbl.out (below_regrown wr dq osq))
                   go_wp2
                   go_roundw
                   case rel => exact ⟨k + 1, by omega, by go_num, hm9, hwq⟩
                   case measure => simp [intOf]; omega
                 · obtain rfl := hne.out e1
                   have e1z : ((strT g.nonts[k]).toList == (strT h.nonts[k]).toList) = false := by rw [strT_beqT]; exact decide_eq_false e1
                   clear e1 hmore
                   generalize strT g.nonts[k] = U at *
                   generalize strT h.nonts[k] = U' at *
                   go_wp2_with fail
                   refine wp_region_quiet_below (by kernel_rfl) (by kernel_rfl) ?_
                   repeat (first | go_big_quiet_step (fail) | quiet_step (fail))
                   refine wpQuiet_nil ?_
                   intro _ hw'
                   obtain ⟨⟨dq, osq⟩, hw''⟩ := hw'
                   subst hw''
                   have hwq := hid (bl_step hbl.out (below_regrown wr dq osq))
                   go_wp2
                   go_ret
                   exact ⟨rfl, bl_step hB.out hwq.out⟩
               · have hltz : ¬ (k : Int) < (nn : Int) := by omega
                 have en : Hid (g.nonts = h.nonts) := hid (list_ext (by rw [hnn.out, hnm.out]) (fun j h1 h2 => hI.out j h1 h2 (by rw [hnn.out] at h1; omega)))
                 have hben := hbl
                 clear hk hlt hI
                 go_wp2
                 clear hltz z0 z1 z2 z3 q0 q1 q2 q3 hbl
                 go_loopw [7] (fun i wr => ∃ k : Nat, k ≤ ll ∧ i = .int .i64 (k : Int) ∧ Hid (∀ j (h1 : j < g.levels.length) (h2 : j < h.levels.length), j < k → g.levels[j] = h.levels[j]) ∧ Hid (Below W.heap.size W wr)) (fun i _ => ll - (intOf i).toNat)
                 case atStart => exact ⟨0, Nat.zero_le _, rfl, hid (fun _ _ _ h => absurd h (Nat.not_lt_zero _)), hben⟩
                 case round =>
                  obtain ⟨k, hk, rfl, hI, hbl⟩ := hrel
                  obtain ⟨⟨z0, z1, z2, z3, -⟩, ⟨q0, q1, q2, q3, -⟩⟩ := hBx.out wr hbl.out
                  by_cases hlt : k < ll
                  · have hltz : (k : Int) < (ll : Int) := by omega
                    have hk1 : k < g.levels.length := by rw [hll.out]; exact hlt
                    have hk2 : k < h.levels.length := by rw [hlm.out]; exact hlt
                    have hne : Hid (g.levels[k] ≠ h.levels[k] → R = false) := hid (fun e9 => no.out (fun e => e9 (by simp only [e])))
                    have hmore : Hid (g.levels[k] = h.levels[k] → ∀ j (h1 : j < g.levels.length) (h2 : j < h.levels.length), j < k + 1 → g.levels[j] = h.levels[j]) := hid (fun h9 j h1 h2 h3 => by
                     rcases Nat.lt_or_ge j k with h8 | h8
                     · exact hI.out j h1 h2 h8
                     · obtain rfl : j = k := by omega
                       exact h9)
                    obtain ⟨b, o, he, -, x0, x1⟩ := (hKv.out wr hbl.out).levels.at hk1
                    obtain ⟨b', o', he', -, x0', x1'⟩ := (hKv'.out wr hbl.out).levels.at hk2
                    subst he he'
                    have y0 := cell_regrown z2
                    have y1 := cell_regrown q2
                    have y2 := cell_regrown x0
                    have y3 := cell_regrown x1
                    have y5 := cell_regrown x0'
                    have y6 := cell_regrown x1'
                    clear x0 x0' x1 x1' hI q2
                    generalize g.levels[k] = A9 at *
                    generalize h.levels[k] = B9 at *
                    obtain ⟨l0, l1⟩ := A9
                    obtain ⟨m0, m1⟩ := B9
                    dsimp only at y2 y3 y5 y6
                    by_cases a0 : l0 = m0
                    · subst a0
                      by_cases a1 : l1 = m1
                      · subst a1
                        have hm9 := hid (hmore.out rfl)
                        clear hne hmore
                        go_wp2_with fail
                        refine wp_region_quiet_below (by kernel_rfl) (by kernel_rfl) ?_
                        repeat (first | go_big_quiet_step (fail) | quiet_step (fail))
                        refine wpQuiet_nil ?_
                        intro _ hw'
                        obtain ⟨⟨dq, osq⟩, hw''⟩ := hw'
                        subst hw''
                        have hwq := hid (bl_step hbl.out (below_regrown wr dq osq))
                        go_wp2
                        go_roundw
                        case rel => exact ⟨k + 1, by omega, by go_num, hm9, hwq⟩
                        case measure => simp [intOf]; omega
                      · obtain rfl := hne.out (fun e => a1 (by injection e))
                        have a1z : (l1 == m1) = false := by rw [beq_eq_false_iff_ne]; exact a1
                        clear hmore a1
                        go_wp2_with fail
                        refine wp_region_quiet_below (by kernel_rfl) (by kernel_rfl) ?_
                        repeat (first | go_big_quiet_step (fail) | quiet_step (fail))
                        refine wpQuiet_nil ?_
                        intro _ hw'
                        obtain ⟨⟨dq, osq⟩, hw''⟩ := hw'
                        subst hw''
                        have hwq := hid (bl_step hbl.out (below_regrown wr dq osq))
                        go_wp2
                        go_ret
                        exact ⟨rfl, bl_step hB.out hwq.out⟩
                    · obtain rfl := hne.out (fun e => a0 (by injection e))
                      have a0z : (l0 == m0) = false := by rw [beq_eq_false_iff_ne]; exact a0
                      clear hmore a0
                      go_wp2_with fail
                      refine wp_region_quiet_below (by kernel_rfl) (by kernel_rfl) ?_
                      repeat (first | go_big_quiet_step (fail) | quiet_step (fail))
                      refine wpQuiet_nil ?_
                      intro _ hw'
                      obtain ⟨⟨dq, osq⟩, hw''⟩ := hw'
                      subst hw''
                      have hwq := hid (bl_step hbl.out (below_regrown wr dq osq))
                      go_wp2
                      go_ret
                      exact ⟨rfl, bl_step hB.out hwq.out⟩
                  · have hltz : ¬ (k : Int) < (ll : Int) := by omega
                    have el : Hid (g.levels = h.levels) := hid (list_ext (by rw [hll.out, hlm.out]) (fun j h1 h2 => hI.out j h1 h2 (by rw [hll.out] at h1; omega)))
                    have hbel := hbl
                    clear hk hlt hI
                    go_wp2
                    clear hltz z0 z1 z2 z3 q0 q1 q2 q3 hbl
                    go_loopw [8] (fun i wr => ∃ k : Nat, k ≤ pp ∧ i = .int .i64 (k : Int) ∧ Hid (∀ j (h1 : j < g.prods.length) (h2 : j < h.prods.length), j < k → g.prods[j] = h.prods[j]) ∧ Hid (Below W.heap.size W wr)) (fun i _ => pp - (intOf i).toNat)
                    case atStart => exact ⟨0, Nat.zero_le _, rfl, hid (fun _ _ _ h => absurd h (Nat.not_lt_zero _)), hbel⟩
                    case round =>
                     obtain ⟨k, hk, rfl, hI, hbl⟩ := hrel
                     obtain ⟨⟨z0, z1, z2, z3, -⟩, ⟨q0, q1, q2, q3, -⟩⟩ := hBx.out wr hbl.out
                     by_cases hlt : k < pp
                     · have hltz : (k : Int) < (pp : Int) := by omega
                       have hk1 : k < g.prods.length := by rw [hpp.out]; exact hlt
                       have hk2 : k < h.prods.length := by rw [hpm.out]; exact hlt
                       have hne : Hid (g.prods[k] ≠ h.prods[k] → R = false) := hid (fun e9 => no.out (fun e => e9 (by simp only [e])))
                       have hmore : Hid (g.prods[k] = h.prods[k] → ∀ j (h1 : j < g.prods.length) (h2 : j < h.prods.length), j < k + 1 → g.prods[j] = h.prods[j]) := hid (fun h9 j h1 h2 h3 => by
                        rcases Nat.lt_or_ge j k with h8 | h8
                        · exact hI.out j h1 h2 h8
                        · obtain rfl : j = k := by omega
                          exact h9)
                       obtain ⟨b, o, he, -, v, x0, x1, x2, hC⟩ := (hKv.out wr hbl.out).prods.at hk1
                       obtain ⟨b', o', he', -, v', x0', x1', x2', hC'⟩ := (hKv'.out wr hbl.out).prods.at hk2
                       subst he he'
                       have hln := hrt.out _ (List.getElem_mem hk1)
                       have hln' := hrt'.out _ (List.getElem_mem hk2)
                       have cA : Hid (∀ d os, Calls Tryz.prog 24 #[v, v'] (grow (redrawn wr d) os) fun e w'' => e = .returned (.bool (decide (g.prods[k].right = h.prods[k].right))) ∧ ∃ p : Regrown, w'' = grow (redrawn wr p.d) p.os) := hid (fun d os => Calls.regrown_of (refSame _ _ _ _ _ (by omega) (by omega) (hC.keep (below_regrown wr d os)) (hC'.keep (below_regrown wr d os))))
                       have y0 := cell_regrown z3
                       have y1 := cell_regrown q3
                       have y2 := cell_regrown x0
                       have y3 := cell_regrown x1
                       have y4 := cell_regrown x2
                       have y5 := cell_regrown x0'
                       have y6 := cell_regrown x1'
                       have y7 := cell_regrown x2'
                       clear hC hC' hln hln' x0 x1 x2 x0' x1' x2' hI q3
                       by_cases e1 : g.prods[k].left = h.prods[k].left
                       · by_cases e2 : g.prods[k].prec = h.prods[k].prec
                         · by_cases e3 : g.prods[k].right = h.prods[k].right
                           · have hm9 := hid (hmore.out (pd_ext e1 e2 e3))
                             rw [decide_eq_true e3] at cA
                             rw [← e1] at y5
                             rw [← e2] at y7
                             clear e1 e2 e3 hne hmore
                             generalize g.prods[k].left = U at *
                             generalize g.prods[k].prec = sk at *
                             go_wp2_with fail
                             refine wp_region_quiet_below (by kernel_rfl) (by kernel_rfl) ?_
                             repeat (first | go_big_quiet_step (exact cA.out _ _) | quiet_step (exact cA.out _ _))
                             refine wpQuiet_nil ?_
                             intro _ hw'
                             obtain ⟨⟨dq, osq⟩, hw''⟩ := hw'
                             subst hw''
                             have hwq := hid (bl_step hbl.out (below_regrown wr dq osq))
                             go_wp2
                             go_roundw
                             case rel => exact ⟨k + 1, by omega, by go_num, hm9, hwq⟩
                             case measure => simp [intOf]; omega
                           · obtain rfl := hne.out (fun e => e3 (by rw [e]))
                             rw [decide_eq_false e3] at cA
                             rw [← e1] at y5
                             rw [← e2] at y7
                             clear e1 e2 e3 hmore
                             generalize g.prods[k].left = U at *
                             generalize g.prods[k].prec = sk at *
                             go_wp2_with fail
                             refine wp_region_quiet_below (by kernel_rfl) (by kernel_rfl) ?_
                             repeat (first | go_big_quiet_step (exact cA.out _ _) | quiet_step (exact cA.out _ _))
                             refine wpQuiet_nil ?_
                             intro _ hw'
                             obtain ⟨⟨dq, osq⟩, hw''⟩ := hw'
                             subst hw''
                             have hwq := hid (bl_step hbl.out (below_regrown wr dq osq))
                             go_wp2
                             go_ret
                             exact ⟨rfl, bl_step hB.out hwq.out⟩
                         · obtain rfl := hne.out (fun e => e2 (by rw [e]))
                           have e2z : (g.prods[k].prec != h.prods[k].prec) = true := bne_iff_ne.2 e2
                           rw [← e1] at y5
                           clear e1 e2 hmore cA
                           generalize g.prods[k].left = U at *
                           generalize g.prods[k].prec = sk at *
                           generalize h.prods[k].prec = sk' at *
                           go_wp2_with fail
                           refine wp_region_quiet_below (by kernel_rfl) (by kernel_rfl) ?_
                           repeat (first | go_big_quiet_step (fail) | quiet_step (fail))
                           refine wpQuiet_nil ?_
                           intro _ hw'
                           obtain ⟨⟨dq, osq⟩, hw''⟩ := hw'
                           subst hw''
                           have hwq := hid (bl_step hbl.out (below_regrown wr dq osq))
                           go_wp2
                           go_ret
                           exact ⟨rfl, bl_step hB.out hwq.out⟩
                       · obtain rfl := hne.out (fun e => e1 (by rw [e]))
                         have e1z : (g.prods[k].left != h.prods[k].left) = true := bne_iff_ne.2 e1
                         clear e1 hmore cA
                         generalize g.prods[k].left = U at *
                         generalize h.prods[k].left = U' at *
                         generalize g.prods[k].prec = sk at *
                         generalize h.prods[k].prec = sk' at *
                         go_wp2_with fail
                         refine wp_region_quiet_below (by kernel_rfl) (by kernel_rfl) ?_
                         repeat (first | go_big_quiet_step (fail) | quiet_step (fail))
                         refine wpQuiet_nil ?_
                         intro _ hw'
                         obtain ⟨⟨dq, osq⟩, hw''⟩ := hw'
                         subst hw''
                         have hwq := hid (bl_step hbl.out (below_regrown wr dq osq))
                         go_wp2
                         go_ret
                         exact ⟨rfl, bl_step hB.out hwq.out⟩
                     · have hltz : ¬ (k : Int) < (pp : Int) := by omega
                       have ep : Hid (g.prods = h.prods) := hid (list_ext (by rw [hpp.out, hpm.out]) (fun j h1 h2 => hI.out j h1 h2 (by rw [hpp.out] at h1; omega)))
                       have hbep := hbl
                       clear hk hlt hI
                       obtain rfl := yes.out er.out en.out el.out ep.out (by rw [hst.out, hst'.out])
                       go_wp2
                       go_ret
                       exact ⟨rfl, bl_step hB.out hbl.out⟩
         · obtain rfl := no.out (fun e => tp (by rw [← hpp.out, ← hpm.out, e]))
           have hz : ((pp : Int) != (pm : Int)) = true := bne_iff_ne.2 (by omega)
           go_enter Tryz.func11, Tryz.ntmps11
           go_wp2
           go_ret
           exact ⟨rfl, hB.out⟩
       · obtain rfl := no.out (fun e => tl (by rw [← hll.out, ← hlm.out, e]))
         have hz : ((ll : Int) != (lm : Int)) = true := bne_iff_ne.2 (by omega)
         go_enter Tryz.func11, Tryz.ntmps11
         go_wp2
         go_ret
         exact ⟨rfl, hB.out⟩
     · obtain rfl := no.out (fun e => tn (by rw [← hnn.out, ← hnm.out, e]))
       have hz : ((nn : Int) != (nm : Int)) = true := bne_iff_ne.2 (by omega)
       go_enter Tryz.func11, Tryz.ntmps11
       go_wp2
       go_ret
       exact ⟨rfl, hB.out⟩
   · obtain rfl := no.out (fun e => tr (by rw [← hrn.out, ← hrm.out, e]))
     have hz : ((rn : Int) != (rm : Int)) = true := bne_iff_ne.2 (by omega)
     go_enter Tryz.func11, Tryz.ntmps11
     go_wp2
     go_ret
     exact ⟨rfl, hB.out⟩
 · obtain rfl := no.out (fun e => ts (by rw [← hst.out, ← hst'.out, e]))
   have hz : ((st : Int) != (st' : Int)) = true := bne_iff_ne.2 (by omega)
   go_enter Tryz.func11, Tryz.ntmps11
   go_wp2
   go_ret
   exact ⟨rfl, hB.out⟩

end Go.Proofs.YtloaikjealcbmaaGreat
namespace Go.Proofs.YtloaikjealcbmaaGreat
open Go.RowKit Go.Maps Go.Sort

set_option maxRecDepth 20000 in
set_option maxHeartbeats 16000000 in
theorem diffSameWalk (HD : DfOK) (HW : WkOK14) (rv nv lv pv rv' nv' lv' pv' : Value) (g h : Gm) (w : World) (hV : GmV w rv nv lv pv g) (hV' : GmV w rv' nv' lv' pv' h) : Calls Tryz.prog 3 #[gmA rv nv lv pv g.start, gmA rv' nv' lv' pv' h.start] w fun e w' => e = .returned (.bool true) ∧ Below w.heap.size w w' := by
 obtain ⟨W, hW, hB1, hBx9⟩ := boxes2 w rv nv lv pv rv' nv' lv' pv' g.start h.start
 have hB := hid hB1
 have hBx := hid hBx9
 have hKp := hid (fun u (hu : Below W.heap.size W u) => hV.keep (bl_step hB1 hu))
 have hKq := hid (fun u (hu : Below W.heap.size W u) => hV'.keep (bl_step hB1 hu))
 have GW := hid (HW.wakes W)
 obtain ⟨⟨z0, z1, z2, z3, z4⟩, ⟨q0, q1, q2, q3, q4⟩⟩ := hBx.out W (Below.refl _ _)
 by_cases hf : Fits12 g
 · have GL := hid (fun u hu => longNo _ _ _ _ g u (hKp.out u hu) hf)
   by_cases hf' : Fits12 h
   · have GM := hid (fun u hu => longNo _ _ _ _ h u (hKq.out u hu) hf')
     have GS : Hid (∀ u, Below W.heap.size W u → Calls Tryz.prog 10 #[gmA rv nv lv pv g.start, gmA rv' nv' lv' pv' h.start] u fun e w' => e = .returned (.bool (samB g h)) ∧ Below u.heap.size u w') := hid (fun u hu => HD.same g h _ _ _ _ _ _ _ _ u hf.bd hf'.bd (hKp.out u hu) (hKq.out u hu))
     have GR : Hid (∀ u, Below W.heap.size W u → Calls Tryz.prog 11 #[gmA rv nv lv pv g.start, gmA rv' nv' lv' pv' h.start] u fun e w' => e = .returned (.bool (samB g h)) ∧ Below u.heap.size u w') := hid (fun u hu => refSameG _ _ _ _ _ _ _ _ g h u (hKp.out u hu) (hKq.out u hu) hf.bd.bnd hf'.bd.bnd)
     have GG : Hid (∀ u, Below W.heap.size W u → Calls Tryz.prog 10 #[gmA rv nv lv pv g.start, gmA rv nv lv pv g.start] u fun e w' => e = .returned (.bool true) ∧ Below u.heap.size u w') := hid (fun u hu => (HD.same g g _ _ _ _ _ _ _ _ u hf.bd hf.bd (hKp.out u hu) (hKp.out u hu)).mono (fun e w' k => ⟨by rw [k.1]; exact congrArg (fun b => Ending.returned (.bool b)) (samB_yes rfl), k.2⟩))
     clear hV hV' hB1 hBx9 hKp hKq hf hf' HD HW
     generalize g.start = st at *
     generalize h.start = st' at *
     generalize samB g h = R at *
     have hRR : (R == R) = true := by simp
     go_enter Tryz.func3, Tryz.ntmps3
     go_wp2_with (first
      | (go_at_call 8; refine GW.out.mono ?_; clear GW; rintro e w1 ⟨rfl, hc1⟩; have h1 := hid hc1; clear hc1 z0 z1 z2 z3 z4 q0 q1 q2 q3 q4 hW; obtain ⟨⟨z0, z1, z2, z3, z4⟩, ⟨q0, q1, q2, q3, q4⟩⟩ := hBx.out w1 h1.out)
      | (go_at_call 9; refine (GL.out w1 h1.out).mono ?_; clear GL; rintro e w2 ⟨rfl, hc2⟩; have h2 := hid (bl_step h1.out hc2); clear hc2 z0 z1 z2 z3 z4 q0 q1 q2 q3 q4; obtain ⟨⟨z0, z1, z2, z3, z4⟩, ⟨q0, q1, q2, q3, q4⟩⟩ := hBx.out w2 h2.out)
      | (go_at_call 9; refine (GM.out w2 h2.out).mono ?_; clear GM; rintro e w3 ⟨rfl, hc3⟩; have h3 := hid (bl_step h2.out hc3); clear hc3 z0 z1 z2 z3 z4 q0 q1 q2 q3 q4; obtain ⟨⟨z0, z1, z2, z3, z4⟩, ⟨q0, q1, q2, q3, q4⟩⟩ := hBx.out w3 h3.out))
     have cS : Hid (∀ d os, Calls Tryz.prog 10 #[gmA rv nv lv pv st, gmA rv' nv' lv' pv' st'] (grow (redrawn w3 d) os) fun e w'' => e = .returned (.bool R) ∧ ∃ p : Regrown, w'' = grow (redrawn w3 p.d) p.os) := hid (fun d os => Calls.regrown_of (GS.out _ (bl_step h3.out (below_regrown w3 d os))))
     have cR : Hid (∀ d os, Calls Tryz.prog 11 #[gmA rv nv lv pv st, gmA rv' nv' lv' pv' st'] (grow (redrawn w3 d) os) fun e w'' => e = .returned (.bool R) ∧ ∃ p : Regrown, w'' = grow (redrawn w3 p.d) p.os) := hid (fun d os => Calls.regrown_of (GR.out _ (bl_step h3.out (below_regrown w3 d os))))
     have cG : Hid (∀ d os, Calls Tryz.prog 10 #[gmA rv nv lv pv st, gmA rv nv lv pv st] (grow (redrawn w3 d) os) fun e w'' => e = .returned (.bool true) ∧ ∃ p : Regrown, w'' = grow (redrawn w3 p.d) p.os) := hid (fun d os => Calls.regrown_of (GG.out _ (bl_step h3.out (below_regrown w3 d os))))
     have y0 := cell_regrown z0
     have y1 := cell_regrown z1
     have y2 := cell_regrown z2
     have y3 := cell_regrown z3
     have y4 := cell_regrown z4
     have x0 := cell_regrown q0
     have x1 := cell_regrown q1
     have x2 := cell_regrown q2
     have x3 := cell_regrown q3
     have x4 := cell_regrown q4
     clear z0 z1 z2 z3 z4 q0 q1 q2 q3 q4 GS GR GG
     refine wp_region_quiet_below (by kernel_rfl) (by kernel_rfl) ?_
     repeat (first | go_big_quiet_step (first | with_reducible exact cS.out _ _ | with_reducible exact cR.out _ _ | with_reducible exact cG.out _ _) | quiet_step (first | with_reducible exact cS.out _ _ | with_reducible exact cR.out _ _ | with_reducible exact cG.out _ _))
     refine wpQuiet_nil ?_
     intro _ hw'
     obtain ⟨⟨dq, osq⟩, hw''⟩ := hw'
     subst hw''
     have hwq := hid (bl_step h3.out (below_regrown w3 dq osq))
     go_wp2
     go_ret
     exact ⟨by simp, bl_step hB.out hwq.out⟩
   · have GM := hid (fun u hu => longYes _ _ _ _ h u (hKq.out u hu) hf')
     clear hV hV' hB1 hBx9 hKp hKq hf hf' HD HW
     generalize g.start = st at *
     generalize h.start = st' at *
     go_enter Tryz.func3, Tryz.ntmps3
     go_wp2_with (first
      | (go_at_call 8; refine GW.out.mono ?_; clear GW; rintro e w1 ⟨rfl, hc1⟩; have h1 := hid hc1; clear hc1 z0 z1 z2 z3 z4 q0 q1 q2 q3 q4 hW; obtain ⟨⟨z0, z1, z2, z3, z4⟩, ⟨q0, q1, q2, q3, q4⟩⟩ := hBx.out w1 h1.out)
      | (go_at_call 9; refine (GL.out w1 h1.out).mono ?_; clear GL; rintro e w2 ⟨rfl, hc2⟩; have h2 := hid (bl_step h1.out hc2); clear hc2 z0 z1 z2 z3 z4 q0 q1 q2 q3 q4; obtain ⟨⟨z0, z1, z2, z3, z4⟩, ⟨q0, q1, q2, q3, q4⟩⟩ := hBx.out w2 h2.out)
      | (go_at_call 9; refine (GM.out w2 h2.out).mono ?_; clear GM; rintro e w3 ⟨rfl, hc3⟩; have h3 := hid (bl_step h2.out hc3); clear hc3 z0 z1 z2 z3 z4 q0 q1 q2 q3 q4))
     go_ret
     exact ⟨by simp, bl_step hB.out h3.out⟩
 · have GL := hid (fun u hu => longYes _ _ _ _ g u (hKp.out u hu) hf)
   clear hV hV' hB1 hBx9 hKp hKq hf HD HW
   generalize g.start = st at *
   generalize h.start = st' at *
   go_enter Tryz.func3, Tryz.ntmps3
   go_wp2_with (first
    | (go_at_call 8; refine GW.out.mono ?_; clear GW; rintro e w1 ⟨rfl, hc1⟩; have h1 := hid hc1; clear hc1 z0 z1 z2 z3 z4 q0 q1 q2 q3 q4 hW; obtain ⟨⟨z0, z1, z2, z3, z4⟩, ⟨q0, q1, q2, q3, q4⟩⟩ := hBx.out w1 h1.out)
    | (go_at_call 9; refine (GL.out w1 h1.out).mono ?_; clear GL; rintro e w2 ⟨rfl, hc2⟩; have h2 := hid (bl_step h1.out hc2); clear hc2 z0 z1 z2 z3 z4 q0 q1 q2 q3 q4))
   go_ret
   exact ⟨by simp, bl_step hB.out h2.out⟩

end Go.Proofs.YtloaikjealcbmaaGreat
