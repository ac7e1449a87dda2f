/- CheckLists' walk. -/
import Derived.Test.YthgbjhnknepefaaGreatJ29
namespace Go.Proofs.YthgbjhnknepefaaGreat
open Go.RowKit Go.Maps Go.Sort

theorem shapeN13 {w : World} {v : Value} {l : List Int} (h : Nums w v l) : ∃ a c, v = .slice a l.length c := by obtain ⟨a, c, e, _⟩ := h; exact ⟨a, c, e⟩
theorem lists_len {g : Gm} (hg : SndG g) : (ofL (rcN g (g.nonts.length + 1))).length ≤ 1000 ∧ (ofL (enN g (g.nonts.length + 1))).length ≤ 1000 := by
  have h1 := ofL_len (rcN g (g.nonts.length + 1))
  have h2 := ofL_len (enN g (g.nonts.length + 1))
  have h3 := (rcN_good g (g.nonts.length + 1)).len hg
  have h4 := (enN_good g (g.nonts.length + 1)).len hg
  omega
set_option maxRecDepth 20000 in
set_option maxHeartbeats 16000000 in
theorem checkListsWalk (HC : CkOK) (HW : WkOK) (rv nv lv pv : Value) (g : Gm) (w : World) (h : GmV w rv nv lv pv g) : Calls Tryz.prog 5 #[gmA rv nv lv pv g.start] w fun e w' => e = .returned (.bool true) ∧ Below w.heap.size w w' := by
  have hKp := hid (fun u (hu : Below w.heap.size w u) => h.keep hu)
  obtain ⟨ra, rc, rfl⟩ := h.rules.shape
  obtain ⟨na, nc, rfl⟩ := h.nonts.shape
  obtain ⟨la, lc, rfl⟩ := h.levels.shape
  obtain ⟨pa, pc, rfl⟩ := h.prods.shape
  have hB1 := al' w (.cells #[.slice ra g.rules.length rc, .slice na g.nonts.length nc, .slice la g.levels.length lc, .slice pa g.prods.length pc, .int .i64 g.start] 27)
  have k1 := heap_new w (.cells #[.slice ra g.rules.length rc, .slice na g.nonts.length nc, .slice la g.levels.length lc, .slice pa g.prods.length pc, .int .i64 g.start] 27)
  obtain ⟨W, hW⟩ : ∃ x, w.alloc (.cells #[.slice ra g.rules.length rc, .slice na g.nonts.length nc, .slice la g.levels.length lc, .slice pa g.prods.length pc, .int .i64 g.start] 27) = x := ⟨_, rfl⟩
  rw [hW] at hB1 k1
  have hk1 := hid (fun u (hu : Below W.heap.size W u) => cells5m (hs_keep k1 hu))
  have hB := hid hB1
  have GW := hid (HW.wakes W)
  by_cases hf : Fits12 g
  · have GL := hid (fun u (hu : Below w.heap.size w u) => longNo _ _ _ _ g u (hKp.out u hu) hf)
    have GA := hid (fun u (hu : Below w.heap.size w u) => HC.reached g _ _ _ _ u hf.bnd hf.names (hKp.out u hu))
    have GB := hid (fun u (hu : Below w.heap.size w u) => HC.ends g _ _ _ _ u hf.bnd hf.names (hKp.out u hu))
    have GS := hid (fun u (hu : Below w.heap.size w u) => refSound g _ _ _ _ u (hKp.out u hu) hf.bnd hf.names)
    by_cases hg : SndG g
    · obtain ⟨l1, l2⟩ := lists_len hg
      have eA : rchA g = ofL (rcN g (g.nonts.length + 1)) := by unfold rchA; exact @if_pos _ (Classical.propDecidable _) hg _ _ _
      have eB : endA g = ofL (enN g (g.nonts.length + 1)) := by unfold endA; exact @if_pos _ (Classical.propDecidable _) hg _ _ _
      have GR := hid (fun u (hu : Below w.heap.size w u) => refReached g _ _ _ _ u (hKp.out u hu) hf.bnd hg)
      have GE := hid (fun u (hu : Below w.heap.size w u) => refEnds g _ _ _ _ u (hKp.out u hu) hf.bnd hg)
      rw [eA] at GA
      rw [eB] at GB
      rw [soundB_yes hg] at GS
      have GX := hid (fun u v v' (h1 : Nums u v (ofL (rcN g (g.nonts.length + 1)))) (h2 : Nums u v' (ofL (rcN g (g.nonts.length + 1)))) => refSame v v' _ _ u (by omega) (by omega) h1 h2)
      have GY := hid (fun u v v' (h1 : Nums u v (ofL (enN g (g.nonts.length + 1)))) (h2 : Nums u v' (ofL (enN g (g.nonts.length + 1)))) => refSame v v' _ _ u (by omega) (by omega) h1 h2)
      rw [decide_eq_true rfl] at GX
      rw [decide_eq_true rfl] at GY
      clear h hB1 k1 hf hg HC HW eA eB l1 l2
      generalize ofL (rcN g (g.nonts.length + 1)) = LR at *
      generalize ofL (enN g (g.nonts.length + 1)) = LE at *
      generalize g.rules.length = rn at *
      generalize g.nonts.length = nn at *
      generalize g.levels.length = ll at *
      generalize g.prods.length = pp at *
      generalize g.start = st at *
      clear hKp
      go_enter Tryz.func5, Tryz.ntmps5
      go_wp2_with (first
        | (go_at_call 8; refine GW.out.mono ?_; clear GW; rintro e w1 ⟨rfl, hc1⟩; have h1 := hid hc1; obtain ⟨x0, x1, x2, x3, x4⟩ := hk1.out w1 h1.out; clear hc1)
        | (go_at_call 9; refine (GL.out _ (bl_step hB.out h1.out)).mono ?_; clear GL; rintro e w2 ⟨rfl, hc2⟩; have h2 := hid (bl_step h1.out hc2); clear hc2 x0 x1 x2 x3 x4))
      clear hW h1
      have hcur := hid (show Below W.heap.size W w2.drew from h2.out.drew)
      obtain ⟨z0, z1, z2, z3, z4⟩ := hk1.out _ hcur.out
      clear h2
      go_region_held3 (fun w' => w'.cell? ⟨w.heap.size, 0, none⟩ = some (.slice ra rn rc) ∧ w'.cell? ⟨w.heap.size, 1, none⟩ = some (.slice na nn nc) ∧ w'.cell? ⟨w.heap.size, 2, none⟩ = some (.slice la ll lc) ∧ w'.cell? ⟨w.heap.size, 3, none⟩ = some (.slice pa pp pc) ∧ w'.cell? ⟨w.heap.size, 4, none⟩ = some (.int .i64 st)) (go_keep) ((first
        | (go_at_call 15; refine (GA.out _ (bl_step hB.out hcur.out)).mono ?_; rintro e w3 ⟨v3, rfl, hN3, hc⟩; obtain ⟨a3, c3, e3⟩ := shapeN13 hN3; subst e3; have hNa := hid hN3; have hNc := hid (hNb.out.keep hc); clear hNb; have hNb := hNc; clear hNc hN3; have hn := hid (bl_step hcur.out hc); clear hcur z0 z1 z2 z3 z4; have hcur := hn; clear hn hc; obtain ⟨z0, z1, z2, z3, z4⟩ := hk1.out _ hcur.out)
        | (go_at_call 15; refine (GA.out _ (bl_step hB.out hcur.out)).mono ?_; rintro e w3 ⟨v3, rfl, hN3, hc⟩; obtain ⟨a3, c3, e3⟩ := shapeN13 hN3; subst e3; have hNa := hid hN3; clear hN3; have hn := hid (bl_step hcur.out hc); clear hcur z0 z1 z2 z3 z4; have hcur := hn; clear hn hc; obtain ⟨z0, z1, z2, z3, z4⟩ := hk1.out _ hcur.out)
        | (go_at_call 16; refine (GB.out _ (bl_step hB.out hcur.out)).mono ?_; rintro e w4 ⟨v4, rfl, hN4, hc⟩; obtain ⟨a4, c4, e4⟩ := shapeN13 hN4; subst e4; have hNb := hid hN4; have hNc := hid (hNa.out.keep hc); clear hNa; have hNa := hNc; clear hNc hN4; have hn := hid (bl_step hcur.out hc); clear hcur z0 z1 z2 z3 z4; have hcur := hn; clear hn hc; obtain ⟨z0, z1, z2, z3, z4⟩ := hk1.out _ hcur.out)
        | (go_at_call 16; refine (GB.out _ (bl_step hB.out hcur.out)).mono ?_; rintro e w4 ⟨v4, rfl, hN4, hc⟩; obtain ⟨a4, c4, e4⟩ := shapeN13 hN4; subst e4; have hNb := hid hN4; clear hN4; have hn := hid (bl_step hcur.out hc); clear hcur z0 z1 z2 z3 z4; have hcur := hn; clear hn hc; obtain ⟨z0, z1, z2, z3, z4⟩ := hk1.out _ hcur.out)))
      all_goals
        go_wp2_with (first
          | (go_at_call 12; refine (GS.out _ (bl_step hB.out hcur.out)).mono ?_; clear GS; rintro e w5 ⟨rfl, hc5⟩; have h5 := hid (bl_step hcur.out hc5); have hN5 := hid (hNa.out.keep hc5); have hM5 := hid (hNb.out.keep hc5); obtain ⟨x0, x1, x2, x3, x4⟩ := hk1.out _ h5.out; clear hc5)
          | (go_at_call 18; refine (GR.out _ (bl_step hB.out h5.out)).mono ?_; clear GR; rintro e w6 ⟨v6, rfl, ⟨B6, hO6⟩, hc6⟩; have h6 := hid (bl_step h5.out hc6); have hN6 := hid (hN5.out.keep hc6); have hM6 := hid (hM5.out.keep hc6); have hR6 := hid (Nums.of_row hO6); clear hO6 hc6)
          | (go_at_call 17; refine (GX.out _ _ _ hN6.out hR6.out).mono ?_; clear GX; rintro e w7 ⟨rfl, hc7⟩; have h7 := hid (bl_step h6.out hc7); have hM7 := hid (hM6.out.keep hc7); obtain ⟨y0, y1, y2, y3, y4⟩ := hk1.out _ h7.out; clear hc7)
          | (go_at_call 19; refine (GE.out _ (bl_step hB.out h7.out)).mono ?_; clear GE; rintro e w8 ⟨v8, rfl, ⟨B8, hO8⟩, hc8⟩; have h8 := hid (bl_step h7.out hc8); have hM8 := hid (hM7.out.keep hc8); have hR8 := hid (Nums.of_row hO8); clear hO8 hc8)
          | (go_at_call 17; refine (GY.out _ _ _ hM8.out hR8.out).mono ?_; clear GY; rintro e w9 ⟨rfl, hc9⟩; have h9 := hid (bl_step h8.out hc9); clear hc9))
        go_ret
        exact ⟨by simp, bl_step hB.out h9.out⟩
    · have eA : rchA g = [] := by unfold rchA; exact @if_neg _ (Classical.propDecidable _) hg _ _ _
      have eB : endA g = [] := by unfold endA; exact @if_neg _ (Classical.propDecidable _) hg _ _ _
      rw [eA] at GA
      rw [eB] at GB
      rw [soundB_no hg] at GS
      clear h hB1 k1 hf hg HC HW eA eB
      generalize g.rules.length = rn at *
      generalize g.nonts.length = nn at *
      generalize g.levels.length = ll at *
      generalize g.prods.length = pp at *
      generalize g.start = st at *
      clear hKp
      go_enter Tryz.func5, Tryz.ntmps5
      go_wp2_with (first
        | (go_at_call 8; refine GW.out.mono ?_; clear GW; rintro e w1 ⟨rfl, hc1⟩; have h1 := hid hc1; obtain ⟨x0, x1, x2, x3, x4⟩ := hk1.out w1 h1.out; clear hc1)
        | (go_at_call 9; refine (GL.out _ (bl_step hB.out h1.out)).mono ?_; clear GL; rintro e w2 ⟨rfl, hc2⟩; have h2 := hid (bl_step h1.out hc2); clear hc2 x0 x1 x2 x3 x4))
      clear hW h1
      have hcur := hid (show Below W.heap.size W w2.drew from h2.out.drew)
      obtain ⟨z0, z1, z2, z3, z4⟩ := hk1.out _ hcur.out
      clear h2
      go_region_held3 (fun w' => w'.cell? ⟨w.heap.size, 0, none⟩ = some (.slice ra rn rc) ∧ w'.cell? ⟨w.heap.size, 1, none⟩ = some (.slice na nn nc) ∧ w'.cell? ⟨w.heap.size, 2, none⟩ = some (.slice la ll lc) ∧ w'.cell? ⟨w.heap.size, 3, none⟩ = some (.slice pa pp pc) ∧ w'.cell? ⟨w.heap.size, 4, none⟩ = some (.int .i64 st)) (go_keep) ((first
        | (go_at_call 15; refine (GA.out _ (bl_step hB.out hcur.out)).mono ?_; rintro e w3 ⟨v3, rfl, hN3, hc⟩; obtain ⟨a3, c3, e3⟩ := shapeN13 hN3; subst e3; clear hN3; have hn := hid (bl_step hcur.out hc); clear hcur z0 z1 z2 z3 z4; have hcur := hn; clear hn hc; obtain ⟨z0, z1, z2, z3, z4⟩ := hk1.out _ hcur.out)
        | (go_at_call 16; refine (GB.out _ (bl_step hB.out hcur.out)).mono ?_; rintro e w4 ⟨v4, rfl, hN4, hc⟩; obtain ⟨a4, c4, e4⟩ := shapeN13 hN4; subst e4; clear hN4; have hn := hid (bl_step hcur.out hc); clear hcur z0 z1 z2 z3 z4; have hcur := hn; clear hn hc; obtain ⟨z0, z1, z2, z3, z4⟩ := hk1.out _ hcur.out)))
      all_goals
        go_wp2_with (go_at_call 12; refine (GS.out _ (bl_step hB.out hcur.out)).mono ?_; clear GS; rintro e w5 ⟨rfl, hc5⟩; have h5 := hid (bl_step hcur.out hc5); clear hc5)
        go_ret
        exact ⟨by simp, bl_step hB.out h5.out⟩
  · have GL := hid (fun u (hu : Below w.heap.size w u) => longYes _ _ _ _ g u (hKp.out u hu) hf)
    clear h hB1 k1 hf HC HW
    generalize g.rules.length = rn at *
    generalize g.nonts.length = nn at *
    generalize g.levels.length = ll at *
    generalize g.prods.length = pp at *
    generalize g.start = st at *
    go_enter Tryz.func5, Tryz.ntmps5
    go_wp2_with (first
      | (go_at_call 8; refine GW.out.mono ?_; clear GW; rintro e w1 ⟨rfl, hc1⟩; have h1 := hid hc1; obtain ⟨x0, x1, x2, x3, x4⟩ := hk1.out w1 h1.out; clear hc1)
      | (go_at_call 9; refine (GL.out _ (bl_step hB.out h1.out)).mono ?_; clear GL; rintro e w2 ⟨rfl, hc2⟩; have h2 := hid (bl_step h1.out hc2); clear hc2))
    go_ret
    exact ⟨rfl, bl_step hB.out h2.out⟩

end Go.Proofs.YthgbjhnknepefaaGreat
