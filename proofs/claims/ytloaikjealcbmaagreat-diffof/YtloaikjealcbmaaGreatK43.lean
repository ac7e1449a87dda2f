/- The reference: topiaryref12.Same, of any two grammars. DiffSame: the walk. The reference: Same of two changes that are alike; DiffOf's walk over what Of of the reference answers. DiffOf: the walk, over what the reference's Of answers. -/
import Derived.Test.YtloaikjealcbmaaGreatK42
namespace Go.Proofs.YtloaikjealcbmaaGreat
open Go.RowKit Go.Maps Go.Sort

end Go.Proofs.YtloaikjealcbmaaGreat
namespace Go.Proofs.YtloaikjealcbmaaGreat
open Go.RowKit Go.Maps Go.Sort

end Go.Proofs.YtloaikjealcbmaaGreat
namespace Go.Proofs.YtloaikjealcbmaaGreat
open Go.RowKit Go.Maps Go.Sort

/-- what is asked of the reference's Of -/
structure RfOf : Prop where
 of : ∀ (g h : Gm) (rv nv lv pv rv' nv' lv' pv' : Value) (u : World), Bd14 g → Bd14 h → GmV u rv nv lv pv g → GmV u rv' nv' lv' pv' h → Calls Tryz.prog 13 #[gmA rv nv lv pv g.start, gmA rv' nv' lv' pv' h.start] u (OfA g h u)
theorem chg_len (g h : Gm) (hf : Fits12 g) (hf' : Fits12 h) : (chgG g h).prs.length ≤ 60 ∧ (chgG g h).gone.length ≤ 60 ∧ (chgG g h).new.length ≤ 60 := by
 by_cases hs : SndG g ∧ SndG h
 · rw [chgG_yes hs.1 hs.2]
   obtain ⟨a1, a2⟩ := dfK_lens (txtsG g) (txtsG h)
   rw [txtsG_len] at a1 a2
   have := hf.prods
   have := hf'.prods
   refine ⟨?_, ?_, ?_⟩
   · show (dfPrs _ _).length ≤ 60; omega
   · show (dfGone _ _).length ≤ 60; omega
   · show (dfNew _ _).length ≤ 60; omega
 · rw [chgG_no hs]
   exact ⟨by decide, by decide, by decide⟩
set_option maxRecDepth 20000 in
set_option maxHeartbeats 16000000 in
theorem refChSame (kv gv nv kv' gv' nv' : Value) (c : ChgD) (w : World) (hV : ChgV w kv gv nv c) (hV' : ChgV w kv' gv' nv' c) (l1 : c.prs.length ≤ 1000) (l2 : c.gone.length ≤ 1000) (l3 : c.new.length ≤ 1000) :
 Calls Tryz.prog 14 #[chA kv gv nv c, chA kv' gv' nv' c] w fun e w' => e = .returned (.bool true) ∧ Below w.heap.size w w' := by
 obtain ⟨ka, kc, ga, gc, na, nc, rfl, rfl, rfl⟩ := hV.shape
 obtain ⟨ka', kc', ga', gc', na', nc', rfl, rfl, rfl⟩ := hV'.shape
 obtain ⟨h1, h2⟩ := two_blocks w (.cells #[.slice ka c.prs.length kc, .slice ga c.gone.length gc, .slice na c.new.length nc, .bool c.rules, .bool c.levels, .bool c.start] 34) (.cells #[.slice ka' c.prs.length kc', .slice ga' c.gone.length gc', .slice na' c.new.length nc', .bool c.rules, .bool c.levels, .bool c.start] 34)
 have hB1 := bl_step (al' w (.cells #[.slice ka c.prs.length kc, .slice ga c.gone.length gc, .slice na c.new.length nc, .bool c.rules, .bool c.levels, .bool c.start] 34)) (al' _ (.cells #[.slice ka' c.prs.length kc', .slice ga' c.gone.length gc', .slice na' c.new.length nc', .bool c.rules, .bool c.levels, .bool c.start] 34))
 obtain ⟨W, hW⟩ : ∃ x, (w.alloc (.cells #[.slice ka c.prs.length kc, .slice ga c.gone.length gc, .slice na c.new.length nc, .bool c.rules, .bool c.levels, .bool c.start] 34)).alloc (.cells #[.slice ka' c.prs.length kc', .slice ga' c.gone.length gc', .slice na' c.new.length nc', .bool c.rules, .bool c.levels, .bool c.start] 34) = x := ⟨_, rfl⟩
 rw [hW] at h1 h2 hB1
 have hB := hid hB1
 have hBx : Hid (∀ u, Below W.heap.size W u → (u.cell? ⟨w.heap.size, 0, none⟩ = some (.slice ka c.prs.length kc) ∧ u.cell? ⟨w.heap.size, 1, none⟩ = some (.slice ga c.gone.length gc) ∧ u.cell? ⟨w.heap.size, 2, none⟩ = some (.slice na c.new.length nc) ∧ u.cell? ⟨w.heap.size, 3, none⟩ = some (.bool c.rules) ∧ u.cell? ⟨w.heap.size, 4, none⟩ = some (.bool c.levels) ∧ u.cell? ⟨w.heap.size, 5, none⟩ = some (.bool c.start)) ∧ (u.cell? ⟨w.heap.size + 1, 0, none⟩ = some (.slice ka' c.prs.length kc') ∧ u.cell? ⟨w.heap.size + 1, 1, none⟩ = some (.slice ga' c.gone.length gc') ∧ u.cell? ⟨w.heap.size + 1, 2, none⟩ = some (.slice na' c.new.length nc') ∧ u.cell? ⟨w.heap.size + 1, 3, none⟩ = some (.bool c.rules) ∧ u.cell? ⟨w.heap.size + 1, 4, none⟩ = some (.bool c.levels) ∧ u.cell? ⟨w.heap.size + 1, 5, none⟩ = some (.bool c.start))) := hid (fun u hu => by
  have e1 := hs_keep h1 hu
  have e2 := hs_keep h2 hu
  exact ⟨⟨blk_cell e1 rfl, blk_cell e1 rfl, blk_cell e1 rfl, blk_cell e1 rfl, blk_cell e1 rfl, blk_cell e1 rfl⟩, ⟨blk_cell e2 rfl, blk_cell e2 rfl, blk_cell e2 rfl, blk_cell e2 rfl, blk_cell e2 rfl, blk_cell e2 rfl⟩⟩)
 have G1 := hid (refSame _ _ c.gone c.gone W (by omega) (by omega) (hV.keep hB1).gone (hV'.keep hB1).gone)
 have G2 := hid (fun u (hu : Below W.heap.size W u) => refSame _ _ c.new c.new u (by omega) (by omega) ((hV.keep hB1).keep hu).new ((hV'.keep hB1).keep hu).new)
 rw [decide_eq_true rfl] at G1
 rw [decide_eq_true rfl] at G2
 have hP : Hid (∀ u, Below W.heap.size W u → ∀ k (hk : k < c.prs.length), ∃ b o b' o', ka = some ⟨b, o, none⟩ ∧ ka' = some ⟨b', o', none⟩ ∧ u.cell? ⟨b, o + k * 2, none⟩ = some (.int .i64 c.prs[k].1) ∧ u.cell? ⟨b, o + k * 2 + 1, none⟩ = some (.int .i64 c.prs[k].2) ∧ u.cell? ⟨b', o' + k * 2, none⟩ = some (.int .i64 c.prs[k].1) ∧ u.cell? ⟨b', o' + k * 2 + 1, none⟩ = some (.int .i64 c.prs[k].2)) := hid (fun u hu k hk => by
  obtain ⟨b, o, e, -, x0, x1⟩ := ((hV.keep hB1).keep hu).prs.at hk
  obtain ⟨b', o', e', -, x0', x1'⟩ := ((hV'.keep hB1).keep hu).prs.at hk
  exact ⟨b, o, b', o', e, e', x0, x1, x0', x1'⟩)
 obtain ⟨⟨z0, z1, z2, z3, z4, z5⟩, ⟨q0, q1, q2, q3, q4, q5⟩⟩ := hBx.out W (Below.refl _ _)
 clear hV hV' h1 h2 hB1
 unfold chA
 generalize c.gone.length = gn at *
 generalize c.new.length = nn at *
 generalize c.rules = r1 at *
 generalize c.levels = r2 at *
 generalize c.start = r3 at *
 obtain ⟨kn, hkn⟩ : ∃ n, Hid (c.prs.length = n) := ⟨_, hid rfl⟩
 rw [hkn.out] at l1 hW hBx z0 q0 ⊢
 go_enter Tryz.func14, Tryz.ntmps14
 go_wp2_with (first
  | (go_at_call 24; refine G1.out.mono ?_; clear G1; rintro e w1 ⟨rfl, hc1⟩; have h1 := hid hc1; clear hc1 z0 z1 z2 z3 z4 z5 q0 q1 q2 q3 q4 q5 hW; obtain ⟨⟨z0, z1, z2, z3, z4, z5⟩, ⟨q0, q1, q2, q3, q4, q5⟩⟩ := hBx.out w1 h1.out)
  | (go_at_call 24; refine (G2.out w1 h1.out).mono ?_; clear G2; rintro e w2 ⟨rfl, hc2⟩; have h2 := hid (bl_step h1.out hc2); clear hc2 z0 z1 z2 z3 z4 z5 q0 q1 q2 q3 q4 q5; obtain ⟨⟨z0, z1, z2, z3, z4, z5⟩, ⟨q0, q1, q2, q3, q4, q5⟩⟩ := hBx.out w2 h2.out))
 clear z0 z1 z2 z3 z4 z5 q0 q1 q2 q3 q4 q5
 go_loopw [5] (fun i wr => ∃ k : Nat, k ≤ kn ∧ i = .int .i64 (k : Int) ∧ Hid (Below W.heap.size W wr)) (fun i _ => kn - (intOf i).toNat)
 case atStart => exact ⟨0, Nat.zero_le _, rfl, h2⟩
 case round =>
  obtain ⟨k, hk, rfl, hbl⟩ := hrel
  obtain ⟨⟨z0, -⟩, ⟨q0, -⟩⟩ := hBx.out wr hbl.out
  by_cases hlt : k < kn
  · have hltz : (k : Int) < (kn : Int) := by omega
    have hkl : k < c.prs.length := by rw [hkn.out]; exact hlt
    obtain ⟨b, o, b', o', rfl, rfl, x0, x1, x0', x1'⟩ := hP.out wr hbl.out k hkl
    have heq : ∀ u, (Op.equalIn 10000 41 (.agg #[.int .i64 c.prs[k].1, .int .i64 c.prs[k].2]) (.agg #[.int .i64 c.prs[k].1, .int .i64 c.prs[k].2])).run Tryz.prog u = .ok true u := fun u => by
     rw [equal2 9998]
     simp
    generalize c.prs[k].1 = u0 at *
    generalize c.prs[k].2 = u1 at *
    go_wp2_with fail
    go_region
    go_wp2
    go_roundw
    case rel => exact ⟨k + 1, by omega, by go_num, by first | exact hbl | exact hid hbl.out.drew⟩
    case measure => simp [intOf]; omega
  · have hltz : ¬ (k : Int) < (kn : Int) := by omega
    go_wp2
    go_ret
    exact ⟨rfl, bl_step hB.out hbl.out⟩

end Go.Proofs.YtloaikjealcbmaaGreat
namespace Go.Proofs.YtloaikjealcbmaaGreat
open Go.RowKit Go.Maps Go.Sort

set_option maxRecDepth 20000 in
set_option maxHeartbeats 16000000 in
theorem diffOfWalk (HD : DfOK) (HR : RfOf) (HW : WkOK14) (rv nv lv pv rv' nv' lv' pv' : Value) (g h : Gm) (w : World) (hV : GmV w rv nv lv pv g) (hV' : GmV w rv' nv' lv' pv' h) : Calls Tryz.prog 4 #[gmA rv nv lv pv g.start, gmA rv' nv' lv' pv' h.start] w fun e w' => e = .returned (.bool true) ∧ Below w.heap.size w w' := by
 obtain ⟨W, hW, hB1, hBx9⟩ := boxes2 w rv nv lv pv rv' nv' lv' pv' g.start h.start
 have hB := hid hB1
 have hBx := hid hBx9
 have hKp := hid (fun u (hu : Below W.heap.size W u) => hV.keep (bl_step hB1 hu))
 have hKq := hid (fun u (hu : Below W.heap.size W u) => hV'.keep (bl_step hB1 hu))
 have GW := hid (HW.wakes W)
 obtain ⟨⟨z0, z1, z2, z3, z4⟩, ⟨q0, q1, q2, q3, q4⟩⟩ := hBx.out W (Below.refl _ _)
 by_cases hf : Fits12 g
 · have GL := hid (fun u hu => longNo _ _ _ _ g u (hKp.out u hu) hf)
   by_cases hf' : Fits12 h
   · have GM := hid (fun u hu => longNo _ _ _ _ h u (hKq.out u hu) hf')
     have GO : Hid (∀ u, Below W.heap.size W u → Calls Tryz.prog 12 #[gmA rv nv lv pv g.start, gmA rv' nv' lv' pv' h.start] u fun e w' => ∃ ka kc ga gc na nc, e = .returned (.tuple #[.agg #[.slice ka (chgG g h).prs.length kc, .slice ga (chgG g h).gone.length gc, .slice na (chgG g h).new.length nc, .bool (chgG g h).rules, .bool (chgG g h).levels, .bool (chgG g h).start], .int .i64 (chgE g h)]) ∧ ChgV w' (.slice ka (chgG g h).prs.length kc) (.slice ga (chgG g h).gone.length gc) (.slice na (chgG g h).new.length nc) (chgG g h) ∧ Below u.heap.size u w') := hid (fun u hu => (HD.of g h _ _ _ _ _ _ _ _ u hf.bd hf'.bd (hKp.out u hu) (hKq.out u hu)).mono (fun e w' => by
      rintro ⟨kv, gv, nv2, rfl, hv, hb⟩
      obtain ⟨ka, kc, ga, gc, na, nc, rfl, rfl, rfl⟩ := hv.shape
      exact ⟨ka, kc, ga, gc, na, nc, rfl, hv, hb⟩))
     have GR : Hid (∀ u, Below W.heap.size W u → Calls Tryz.prog 13 #[gmA rv nv lv pv g.start, gmA rv' nv' lv' pv' h.start] u fun e w' => ∃ ka kc ga gc na nc, e = .returned (.tuple #[.agg #[.slice ka (chgG g h).prs.length kc, .slice ga (chgG g h).gone.length gc, .slice na (chgG g h).new.length nc, .bool (chgG g h).rules, .bool (chgG g h).levels, .bool (chgG g h).start], .int .i64 (chgE g h)]) ∧ ChgV w' (.slice ka (chgG g h).prs.length kc) (.slice ga (chgG g h).gone.length gc) (.slice na (chgG g h).new.length nc) (chgG g h) ∧ Below u.heap.size u w') := hid (fun u hu => (HR.of g h _ _ _ _ _ _ _ _ u hf.bd hf'.bd (hKp.out u hu) (hKq.out u hu)).mono (fun e w' => by
      rintro ⟨kv, gv, nv2, rfl, hv, hb⟩
      obtain ⟨ka, kc, ga, gc, na, nc, rfl, rfl, rfl⟩ := hv.shape
      exact ⟨ka, kc, ga, gc, na, nc, rfl, hv, hb⟩))
     obtain ⟨l1, l2, l3⟩ := chg_len g h hf hf'
     have GS := hid (fun kv gv nv kv' gv' nv' u h1 h2 => refChSame kv gv nv kv' gv' nv' (chgG g h) u h1 h2 (by omega) (by omega) (by omega))
     unfold chA at GS
     clear hV hV' hB1 hBx9 hKp hKq hf hf' HD HR HW
     generalize g.start = st at *
     generalize h.start = st' at *
     generalize chgG g h = c at *
     generalize chgE g h = er at *
     go_enter Tryz.func4, Tryz.ntmps4
     go_wp2_with (first
      | (go_at_call 8; refine GW.out.mono ?_; clear GW; rintro e w1 ⟨rfl, hc1⟩; have h1 := hid hc1; clear hc1 z0 z1 z2 z3 z4 q0 q1 q2 q3 q4 hW; obtain ⟨⟨z0, z1, z2, z3, z4⟩, ⟨q0, q1, q2, q3, q4⟩⟩ := hBx.out w1 h1.out)
      | (go_at_call 9; refine (GL.out w1 h1.out).mono ?_; clear GL; rintro e w2 ⟨rfl, hc2⟩; have h2 := hid (bl_step h1.out hc2); clear hc2 z0 z1 z2 z3 z4 q0 q1 q2 q3 q4; obtain ⟨⟨z0, z1, z2, z3, z4⟩, ⟨q0, q1, q2, q3, q4⟩⟩ := hBx.out w2 h2.out)
      | (go_at_call 9; refine (GM.out w2 h2.out).mono ?_; clear GM; rintro e w3 ⟨rfl, hc3⟩; have h3 := hid (bl_step h2.out hc3); clear hc3 z0 z1 z2 z3 z4 q0 q1 q2 q3 q4; obtain ⟨⟨z0, z1, z2, z3, z4⟩, ⟨q0, q1, q2, q3, q4⟩⟩ := hBx.out w3 h3.out)
      | (go_at_call 12; refine (GO.out w3 h3.out).mono ?_; clear GO; rintro e w4 ⟨ka, kc, ga, gc, na, nc, rfl, hv4, hc4⟩; have hal := al' w4 (.cells #[.slice ka c.prs.length kc, .slice ga c.gone.length gc, .slice na c.new.length nc, .bool c.rules, .bool c.levels, .bool c.start] 34); have h4 := hid (bl_step (bl_step h3.out hc4) hal); have hv5 := hid (hv4.keep hal); have hk4 := hid (heap_new w4 (.cells #[.slice ka c.prs.length kc, .slice ga c.gone.length gc, .slice na c.new.length nc, .bool c.rules, .bool c.levels, .bool c.start] 34)); clear hc4 hal hv4 z0 z1 z2 z3 z4 q0 q1 q2 q3 q4; obtain ⟨⟨z0, z1, z2, z3, z4⟩, ⟨q0, q1, q2, q3, q4⟩⟩ := hBx.out _ h4.out)
      | (go_at_call 13; refine (GR.out _ h4.out).mono ?_; clear GR; rintro e w5 ⟨ka2, kc2, ga2, gc2, na2, nc2, rfl, hv6, hc5⟩; have hal := al' w5 (.cells #[.slice ka2 c.prs.length kc2, .slice ga2 c.gone.length gc2, .slice na2 c.new.length nc2, .bool c.rules, .bool c.levels, .bool c.start] 34); have h5 := hid (bl_step (bl_step h4.out hc5) hal); have hv7 := hid ((hv5.out.keep hc5).keep hal); have hv8 := hid (hv6.keep hal); have hk5 := hs_keep (hs_keep hk4.out hc5) hal; have b0 := blk_cell (o := 0) hk5 rfl; have b1 := blk_cell (o := 1) hk5 rfl; have b2 := blk_cell (o := 2) hk5 rfl; have b3 := blk_cell (o := 3) hk5 rfl; have b4 := blk_cell (o := 4) hk5 rfl; have b5 := blk_cell (o := 5) hk5 rfl; clear hc5 hal hk5 hv6 z0 z1 z2 z3 z4 q0 q1 q2 q3 q4)
      | (go_at_call 14; refine (GS.out _ _ _ _ _ _ _ hv7.out hv8.out).mono ?_; clear GS; rintro e w6 ⟨rfl, hc6⟩; have h6 := hid (bl_step h5.out hc6); clear hc6))
     go_ret
     exact ⟨by simp, bl_step hB.out h6.out⟩
   · have GM := hid (fun u hu => longYes _ _ _ _ h u (hKq.out u hu) hf')
     clear hV hV' hB1 hBx9 hKp hKq hf hf' HD HR HW
     generalize g.start = st at *
     generalize h.start = st' at *
     go_enter Tryz.func4, Tryz.ntmps4
     go_wp2_with (first
      | (go_at_call 8; refine GW.out.mono ?_; clear GW; rintro e w1 ⟨rfl, hc1⟩; have h1 := hid hc1; clear hc1 z0 z1 z2 z3 z4 q0 q1 q2 q3 q4 hW; obtain ⟨⟨z0, z1, z2, z3, z4⟩, ⟨q0, q1, q2, q3, q4⟩⟩ := hBx.out w1 h1.out)
      | (go_at_call 9; refine (GL.out w1 h1.out).mono ?_; clear GL; rintro e w2 ⟨rfl, hc2⟩; have h2 := hid (bl_step h1.out hc2); clear hc2 z0 z1 z2 z3 z4 q0 q1 q2 q3 q4; obtain ⟨⟨z0, z1, z2, z3, z4⟩, ⟨q0, q1, q2, q3, q4⟩⟩ := hBx.out w2 h2.out)
      | (go_at_call 9; refine (GM.out w2 h2.out).mono ?_; clear GM; rintro e w3 ⟨rfl, hc3⟩; have h3 := hid (bl_step h2.out hc3); clear hc3 z0 z1 z2 z3 z4 q0 q1 q2 q3 q4; obtain ⟨⟨z0, z1, z2, z3, z4⟩, ⟨q0, q1, q2, q3, q4⟩⟩ := hBx.out w3 h3.out))
     go_ret
     exact ⟨by simp, bl_step hB.out h3.out⟩
 · have GL := hid (fun u hu => longYes _ _ _ _ g u (hKp.out u hu) hf)
   clear hV hV' hB1 hBx9 hKp hKq hf HD HR HW
   generalize g.start = st at *
   generalize h.start = st' at *
   go_enter Tryz.func4, Tryz.ntmps4
   go_wp2_with (first
    | (go_at_call 8; refine GW.out.mono ?_; clear GW; rintro e w1 ⟨rfl, hc1⟩; have h1 := hid hc1; clear hc1 z0 z1 z2 z3 z4 q0 q1 q2 q3 q4 hW; obtain ⟨⟨z0, z1, z2, z3, z4⟩, ⟨q0, q1, q2, q3, q4⟩⟩ := hBx.out w1 h1.out)
    | (go_at_call 9; refine (GL.out w1 h1.out).mono ?_; clear GL; rintro e w2 ⟨rfl, hc2⟩; have h2 := hid (bl_step h1.out hc2); clear hc2 z0 z1 z2 z3 z4 q0 q1 q2 q3 q4; obtain ⟨⟨z0, z1, z2, z3, z4⟩, ⟨q0, q1, q2, q3, q4⟩⟩ := hBx.out w2 h2.out))
   go_ret
   exact ⟨by simp, bl_step hB.out h2.out⟩

end Go.Proofs.YtloaikjealcbmaaGreat
