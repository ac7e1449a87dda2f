/- DiffTurned: the walk. -/
import Derived.Test.YtloaikjealcbmaaGreatJ19
namespace Go.Proofs.YtloaikjealcbmaaGreat
open Go.RowKit Go.Maps Go.Sort

set_option maxRecDepth 20000 in
set_option maxHeartbeats 16000000 in
theorem diffTurnedWalk (HD : DfOK) (HW : WkOK14) (rv nv lv pv rv' nv' lv' pv' : Value) (g h : Gm) (w : World) (hV : GmV w rv nv lv pv g) (hV' : GmV w rv' nv' lv' pv' h) : Calls Tryz.prog 7 #[gmA rv nv lv pv g.start, gmA rv' nv' lv' pv' h.start] w fun e w' => e = .returned (.bool true) ∧ Below w.heap.size w w' := by
 obtain ⟨W, hW, hB1, hBx9⟩ := boxes2 w rv nv lv pv rv' nv' lv' pv' g.start h.start
 have hB := hid hB1
 have hBx := hid hBx9
 have hKp := hid (fun u (hu : Below W.heap.size W u) => hV.keep (bl_step hB1 hu))
 have hKq := hid (fun u (hu : Below W.heap.size W u) => hV'.keep (bl_step hB1 hu))
 have GW := hid (HW.wakes W)
 obtain ⟨⟨z0, z1, z2, z3, z4⟩, ⟨q0, q1, q2, q3, q4⟩⟩ := hBx.out W (Below.refl _ _)
 by_cases hf : Fits12 g
 · have GL := hid (fun u hu => longNo _ _ _ _ g u (hKp.out u hu) hf)
   by_cases hf' : Fits12 h
   · have GM := hid (fun u hu => longNo _ _ _ _ h u (hKq.out u hu) hf')
     obtain ⟨c1, c2, c3, c4, c5, c6, c7⟩ := chg_turned g h
     have GO : Hid (∀ u, Below W.heap.size W u → Calls Tryz.prog 12 #[gmA rv nv lv pv g.start, gmA rv' nv' lv' pv' h.start] u fun e w' => ∃ ka kc ga gc na nc, e = .returned (.tuple #[.agg #[.slice ka (chgG g h).prs.length kc, .slice ga (chgG g h).gone.length gc, .slice na (chgG g h).new.length nc, .bool (chgG g h).rules, .bool (chgG g h).levels, .bool (chgG g h).start], .int .i64 (chgE g h)]) ∧ Below u.heap.size u w') := hid (fun u hu => (HD.of g h _ _ _ _ _ _ _ _ u hf.bd hf'.bd (hKp.out u hu) (hKq.out u hu)).mono (fun e w' => by
      rintro ⟨kv, gv, nv2, rfl, hv, hb⟩
      obtain ⟨ka, kc, ga, gc, na, nc, rfl, rfl, rfl⟩ := hv.shape
      exact ⟨ka, kc, ga, gc, na, nc, rfl, hb⟩))
     have GT : Hid (∀ u, Below W.heap.size W u → Calls Tryz.prog 12 #[gmA rv' nv' lv' pv' h.start, gmA rv nv lv pv g.start] u fun e w' => ∃ ka kc ga gc na nc, e = .returned (.tuple #[.agg #[.slice ka (chgG g h).prs.length kc, .slice ga (chgG g h).new.length gc, .slice na (chgG g h).gone.length nc, .bool (chgG g h).rules, .bool (chgG g h).levels, .bool (chgG g h).start], .int .i64 (chgE g h)]) ∧ Below u.heap.size u w') := hid (fun u hu => (HD.of h g _ _ _ _ _ _ _ _ u hf'.bd hf.bd (hKq.out u hu) (hKp.out u hu)).mono (fun e w' => by
      rintro ⟨kv, gv, nv2, rfl, hv, hb⟩
      obtain ⟨ka, kc, ga, gc, na, nc, rfl, rfl, rfl⟩ := hv.shape
      rw [c1, c2, c3, c4, c5, c6, c7]
      exact ⟨ka, kc, ga, gc, na, nc, rfl, hb⟩))
     clear hV hV' hB1 hBx9 hKp hKq hf hf' HD HW c1 c2 c3 c4 c5 c6 c7
     generalize g.start = st at *
     generalize h.start = st' at *
     generalize (chgG g h).prs.length = n1 at *
     generalize (chgG g h).gone.length = n2 at *
     generalize (chgG g h).new.length = n3 at *
     generalize (chgG g h).rules = r1 at *
     generalize (chgG g h).levels = r2 at *
     generalize (chgG g h).start = r3 at *
     generalize chgE g h = er at *
     go_enter Tryz.func7, Tryz.ntmps7
     go_wp2_with (first
      | (go_at_call 8; refine GW.out.mono ?_; clear GW; rintro e w1 ⟨rfl, hc1⟩; have h1 := hid hc1; clear hc1 z0 z1 z2 z3 z4 q0 q1 q2 q3 q4 hW; obtain ⟨⟨z0, z1, z2, z3, z4⟩, ⟨q0, q1, q2, q3, q4⟩⟩ := hBx.out w1 h1.out)
      | (go_at_call 9; refine (GL.out w1 h1.out).mono ?_; clear GL; rintro e w2 ⟨rfl, hc2⟩; have h2 := hid (bl_step h1.out hc2); clear hc2 z0 z1 z2 z3 z4 q0 q1 q2 q3 q4; obtain ⟨⟨z0, z1, z2, z3, z4⟩, ⟨q0, q1, q2, q3, q4⟩⟩ := hBx.out w2 h2.out)
      | (go_at_call 9; refine (GM.out w2 h2.out).mono ?_; clear GM; rintro e w3 ⟨rfl, hc3⟩; have h3 := hid (bl_step h2.out hc3); clear hc3 z0 z1 z2 z3 z4 q0 q1 q2 q3 q4; obtain ⟨⟨z0, z1, z2, z3, z4⟩, ⟨q0, q1, q2, q3, q4⟩⟩ := hBx.out w3 h3.out)
      | (go_at_call 12; refine (GO.out w3 h3.out).mono ?_; clear GO; rintro e w4 ⟨ka, kc, ga, gc, na, nc, rfl, hc4⟩; have hal := al' w4 (.cells #[.slice ka n1 kc, .slice ga n2 gc, .slice na n3 nc, .bool r1, .bool r2, .bool r3] 34); have h4 := hid (bl_step (bl_step h3.out hc4) hal); have hk4 := hid (heap_new w4 (.cells #[.slice ka n1 kc, .slice ga n2 gc, .slice na n3 nc, .bool r1, .bool r2, .bool r3] 34)); clear hc4 hal z0 z1 z2 z3 z4 q0 q1 q2 q3 q4; obtain ⟨⟨z0, z1, z2, z3, z4⟩, ⟨q0, q1, q2, q3, q4⟩⟩ := hBx.out _ h4.out)
      | (go_at_call 12; refine (GT.out _ h4.out).mono ?_; clear GT; rintro e w5 ⟨ka2, kc2, ga2, gc2, na2, nc2, rfl, hc5⟩; have hal := al' w5 (.cells #[.slice ka2 n1 kc2, .slice ga2 n3 gc2, .slice na2 n2 nc2, .bool r1, .bool r2, .bool r3] 34); have h5 := hid (bl_step (bl_step h4.out hc5) hal); have hk5 := hs_keep (hs_keep hk4.out hc5) hal; have b0 := blk_cell (o := 0) hk5 rfl; have b1 := blk_cell (o := 1) hk5 rfl; have b2 := blk_cell (o := 2) hk5 rfl; have b3 := blk_cell (o := 3) hk5 rfl; have b4 := blk_cell (o := 4) hk5 rfl; have b5 := blk_cell (o := 5) hk5 rfl; clear hc5 hal hk5 z0 z1 z2 z3 z4 q0 q1 q2 q3 q4))
     go_ret
     exact ⟨by simp, bl_step hB.out h5.out⟩
   · have GM := hid (fun u hu => longYes _ _ _ _ h u (hKq.out u hu) hf')
     clear hV hV' hB1 hBx9 hKp hKq hf hf' HD HW
     generalize g.start = st at *
     generalize h.start = st' at *
     go_enter Tryz.func7, Tryz.ntmps7
     go_wp2_with (first
      | (go_at_call 8; refine GW.out.mono ?_; clear GW; rintro e w1 ⟨rfl, hc1⟩; have h1 := hid hc1; clear hc1 z0 z1 z2 z3 z4 q0 q1 q2 q3 q4 hW; obtain ⟨⟨z0, z1, z2, z3, z4⟩, ⟨q0, q1, q2, q3, q4⟩⟩ := hBx.out w1 h1.out)
      | (go_at_call 9; refine (GL.out w1 h1.out).mono ?_; clear GL; rintro e w2 ⟨rfl, hc2⟩; have h2 := hid (bl_step h1.out hc2); clear hc2 z0 z1 z2 z3 z4 q0 q1 q2 q3 q4; obtain ⟨⟨z0, z1, z2, z3, z4⟩, ⟨q0, q1, q2, q3, q4⟩⟩ := hBx.out w2 h2.out)
      | (go_at_call 9; refine (GM.out w2 h2.out).mono ?_; clear GM; rintro e w3 ⟨rfl, hc3⟩; have h3 := hid (bl_step h2.out hc3); clear hc3 z0 z1 z2 z3 z4 q0 q1 q2 q3 q4))
     go_ret
     exact ⟨by simp, bl_step hB.out h3.out⟩
 · have GL := hid (fun u hu => longYes _ _ _ _ g u (hKp.out u hu) hf)
   clear hV hV' hB1 hBx9 hKp hKq hf HD HW
   generalize g.start = st at *
   generalize h.start = st' at *
   go_enter Tryz.func7, Tryz.ntmps7
   go_wp2_with (first
    | (go_at_call 8; refine GW.out.mono ?_; clear GW; rintro e w1 ⟨rfl, hc1⟩; have h1 := hid hc1; clear hc1 z0 z1 z2 z3 z4 q0 q1 q2 q3 q4 hW; obtain ⟨⟨z0, z1, z2, z3, z4⟩, ⟨q0, q1, q2, q3, q4⟩⟩ := hBx.out w1 h1.out)
    | (go_at_call 9; refine (GL.out w1 h1.out).mono ?_; clear GL; rintro e w2 ⟨rfl, hc2⟩; have h2 := hid (bl_step h1.out hc2); clear hc2 z0 z1 z2 z3 z4 q0 q1 q2 q3 q4))
   go_ret
   exact ⟨by simp, bl_step hB.out h2.out⟩

end Go.Proofs.YtloaikjealcbmaaGreat
