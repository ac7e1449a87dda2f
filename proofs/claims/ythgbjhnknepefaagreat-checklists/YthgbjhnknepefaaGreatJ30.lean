/- Package check: Reached, Ends; all that is asked of it. CheckLists' walk. CheckSound's walk. The reader: then, addRule, addNont. -/
import Derived.Test.YthgbjhnknepefaaGreatJ29
import Derived.Test.YthgbjhnknepefaaGreatJ18
import Derived.Lib.QuietBelow
namespace Go.Proofs.YthgbjhnknepefaaGreat
open Go.RowKit Go.Maps Go.Sort

set_option maxRecDepth 20000 in
set_option maxHeartbeats 16000000 in
theorem reachedP (g : Gm) (rv nv lv pv : Value) (w : World) (hV : GmV w rv nv lv pv g) (hb : BndG g) (hnl : ∀ t ∈ g.allN, t.length ≤ 1000000) :
    Calls Tryz.prog 15 #[gmA rv nv lv pv g.start] w fun e w' => ∃ v, e = .returned v ∧ Nums w' v (rchA g) ∧ Below w.heap.size w w' := by
  have hB1 := al' w (.cells #[rv, nv, lv, pv, .int .i64 g.start] 27)
  have k1 := heap_new w (.cells #[rv, nv, lv, pv, .int .i64 g.start] 27)
  obtain ⟨W, hW⟩ : ∃ x, w.alloc (.cells #[rv, nv, lv, pv, .int .i64 g.start] 27) = x := ⟨_, rfl⟩
  rw [hW] at hB1 k1
  have hk1 := hid (fun u (hu : Below W.heap.size W u) => cells5m (hs_keep k1 hu))
  have hB := hid hB1
  have G0 := hid (soundP g _ _ _ _ W (hV.keep hB1) hb hnl)
  obtain ⟨y0, y1, y2, y3, y4⟩ := hk1.out W (Below.refl _ _)
  by_cases hg : SndG g
  · rw [soundB_yes hg] at G0
    have b1 := hg.rules
    have b2 := hg.nonts
    have eA : rchA g = ofL (rcN g (g.nonts.length + 1)) := by unfold rchA; exact @if_pos _ (Classical.propDecidable _) hg _ _ _
    have GR := hid (fun u (hu : Below W.heap.size W u) => markR g hg _ _ _ _ u (hV.keep (bl_step hB1 hu)))
    have GM : Hid (∀ v (L : List Bool) u, Below W.heap.size W u → MkV u v L → L.length = g.nonts.length → (∀ n, Mrk g.terms L n ↔ Rch g n) → Calls Tryz.prog 39 #[gmA rv nv lv pv g.start, v] u fun e w' => ∃ v', e = .returned v' ∧ Nums w' v' (rchA g) ∧ Below u.heap.size u w') := hid (fun v L u hu h hl hL => by
      refine (markedC g rv nv lv pv g.start v L u (hV.keep (bl_step hB1 hu)) (by omega) h (by omega)).mono ?_
      rintro e w' ⟨v', rfl, hO, hbl⟩
      refine ⟨v', rfl, ?_, hbl⟩
      rw [eA, ← mksL_is (fun n => (hL n).trans (rcN_all hg n).symm)]
      exact Nums.of_row hO)
    clear hV hB1 k1 hb hg hnl eA b1 b2
    generalize rchA g = R at *
    generalize g.start = st at *
    go_enter Tryz.func15, Tryz.ntmps15
    go_wp2_with (go_at_call 11; refine G0.out.mono ?_; clear G0; rintro e w1 ⟨rfl, hc1⟩; have h1 := hid hc1; clear hc1)
    clear hW y0 y1 y2 y3 y4
    have hcur := hid (show Below W.heap.size W w1.drew from h1.out.drew)
    obtain ⟨z0, z1, z2, z3, z4⟩ := hk1.out _ hcur.out
    clear h1
    go_region_held3 (fun w' => w'.cell? ⟨w.heap.size, 0, none⟩ = some rv ∧ w'.cell? ⟨w.heap.size, 1, none⟩ = some nv ∧ w'.cell? ⟨w.heap.size, 2, none⟩ = some lv ∧ w'.cell? ⟨w.heap.size, 3, none⟩ = some pv ∧ w'.cell? ⟨w.heap.size, 4, none⟩ = some (.int .i64 st)) (go_keep) ((first
      | (go_at_call 35; refine (GR.out _ hcur.out).mono ?_; rintro e w3 ⟨v3, L3, rfl, hv3, hl3, hr3, hc⟩; have hn := hid (bl_step hcur.out hc); clear hcur z0 z1 z2 z3 z4; have hcur := hn; clear hn; have GN := hid (GM.out v3 L3 w3 hcur.out hv3 hl3 hr3); clear hr3 hl3 hc; obtain ⟨m3, rfl, -⟩ := id hv3; clear hv3; obtain ⟨z0, z1, z2, z3, z4⟩ := hk1.out _ hcur.out)
      | (go_at_call 39; refine GN.out.mono ?_; rintro e w4 ⟨v4, rfl, hN4, hc⟩; have hN9 := hid hN4; clear hN4; have hn := hid (bl_step hcur.out hc); clear hcur z0 z1 z2 z3 z4; have hcur := hn; clear hn hc; obtain ⟨z0, z1, z2, z3, z4⟩ := hk1.out _ hcur.out)))
    all_goals
      go_wp2
      go_ret
      exact ⟨_, rfl, hN9.out, bl_step hB.out hcur.out⟩
  · rw [soundB_no hg] at G0
    have eA : rchA g = [] := by unfold rchA; exact @if_neg _ (Classical.propDecidable _) hg _ _ _
    rw [eA]
    clear hV hB1 k1 hb hg hnl hk1 eA
    generalize g.start = st at *
    go_enter Tryz.func15, Tryz.ntmps15
    go_wp2_with (go_at_call 11; refine G0.out.mono ?_; clear G0; rintro e w1 ⟨rfl, hc1⟩; have h1 := hid hc1; clear hc1)
    go_ret
    exact ⟨_, rfl, Nums.nil _, bl_step hB.out h1.out⟩
set_option maxRecDepth 20000 in
set_option maxHeartbeats 16000000 in
theorem endsP (g : Gm) (rv nv lv pv : Value) (w : World) (hV : GmV w rv nv lv pv g) (hb : BndG g) (hnl : ∀ t ∈ g.allN, t.length ≤ 1000000) :
    Calls Tryz.prog 16 #[gmA rv nv lv pv g.start] w fun e w' => ∃ v, e = .returned v ∧ Nums w' v (endA g) ∧ Below w.heap.size w w' := by
  have hB1 := al' w (.cells #[rv, nv, lv, pv, .int .i64 g.start] 27)
  have k1 := heap_new w (.cells #[rv, nv, lv, pv, .int .i64 g.start] 27)
  obtain ⟨W, hW⟩ : ∃ x, w.alloc (.cells #[rv, nv, lv, pv, .int .i64 g.start] 27) = x := ⟨_, rfl⟩
  rw [hW] at hB1 k1
  have hk1 := hid (fun u (hu : Below W.heap.size W u) => cells5m (hs_keep k1 hu))
  have hB := hid hB1
  have G0 := hid (soundP g _ _ _ _ W (hV.keep hB1) hb hnl)
  obtain ⟨y0, y1, y2, y3, y4⟩ := hk1.out W (Below.refl _ _)
  by_cases hg : SndG g
  · rw [soundB_yes hg] at G0
    have b1 := hg.rules
    have b2 := hg.nonts
    have eA : endA g = ofL (enN g (g.nonts.length + 1)) := by unfold endA; exact @if_pos _ (Classical.propDecidable _) hg _ _ _
    have GR := hid (fun u (hu : Below W.heap.size W u) => markE g hg _ _ _ _ u (hV.keep (bl_step hB1 hu)))
    have GM : Hid (∀ v (L : List Bool) u, Below W.heap.size W u → MkV u v L → L.length = g.nonts.length → (∀ n, Mrk g.terms L n ↔ Ends g n) → Calls Tryz.prog 39 #[gmA rv nv lv pv g.start, v] u fun e w' => ∃ v', e = .returned v' ∧ Nums w' v' (endA g) ∧ Below u.heap.size u w') := hid (fun v L u hu h hl hL => by
      refine (markedC g rv nv lv pv g.start v L u (hV.keep (bl_step hB1 hu)) (by omega) h (by omega)).mono ?_
      rintro e w' ⟨v', rfl, hO, hbl⟩
      refine ⟨v', rfl, ?_, hbl⟩
      rw [eA, ← mksL_is (fun n => (hL n).trans (enN_all hg n).symm)]
      exact Nums.of_row hO)
    clear hV hB1 k1 hb hg hnl eA b1 b2
    generalize endA g = R at *
    generalize g.start = st at *
    go_enter Tryz.func16, Tryz.ntmps16
    go_wp2_with (go_at_call 11; refine G0.out.mono ?_; clear G0; rintro e w1 ⟨rfl, hc1⟩; have h1 := hid hc1; clear hc1)
    clear hW y0 y1 y2 y3 y4
    have hcur := hid (show Below W.heap.size W w1.drew from h1.out.drew)
    obtain ⟨z0, z1, z2, z3, z4⟩ := hk1.out _ hcur.out
    clear h1
    go_region_held3 (fun w' => w'.cell? ⟨w.heap.size, 0, none⟩ = some rv ∧ w'.cell? ⟨w.heap.size, 1, none⟩ = some nv ∧ w'.cell? ⟨w.heap.size, 2, none⟩ = some lv ∧ w'.cell? ⟨w.heap.size, 3, none⟩ = some pv ∧ w'.cell? ⟨w.heap.size, 4, none⟩ = some (.int .i64 st)) (go_keep) ((first
      | (go_at_call 37; refine (GR.out _ hcur.out).mono ?_; rintro e w3 ⟨v3, L3, rfl, hv3, hl3, hr3, hc⟩; have hn := hid (bl_step hcur.out hc); clear hcur z0 z1 z2 z3 z4; have hcur := hn; clear hn; have GN := hid (GM.out v3 L3 w3 hcur.out hv3 hl3 hr3); clear hr3 hl3 hc; obtain ⟨m3, rfl, -⟩ := id hv3; clear hv3; obtain ⟨z0, z1, z2, z3, z4⟩ := hk1.out _ hcur.out)
      | (go_at_call 39; refine GN.out.mono ?_; rintro e w4 ⟨v4, rfl, hN4, hc⟩; have hN9 := hid hN4; clear hN4; have hn := hid (bl_step hcur.out hc); clear hcur z0 z1 z2 z3 z4; have hcur := hn; clear hn hc; obtain ⟨z0, z1, z2, z3, z4⟩ := hk1.out _ hcur.out)))
    all_goals
      go_wp2
      go_ret
      exact ⟨_, rfl, hN9.out, bl_step hB.out hcur.out⟩
  · rw [soundB_no hg] at G0
    have eA : endA g = [] := by unfold endA; exact @if_neg _ (Classical.propDecidable _) hg _ _ _
    rw [eA]
    clear hV hB1 k1 hb hg hnl hk1 eA
    generalize g.start = st at *
    go_enter Tryz.func16, Tryz.ntmps16
    go_wp2_with (go_at_call 11; refine G0.out.mono ?_; clear G0; rintro e w1 ⟨rfl, hc1⟩; have h1 := hid hc1; clear hc1)
    go_ret
    exact ⟨_, rfl, Nums.nil _, bl_step hB.out h1.out⟩
theorem ckOK : CkOK where
  sound g rv nv lv pv u hb hnl hV := soundP g rv nv lv pv u hV hb hnl
  check g rv nv lv pv u hb hnl hV := checkP g rv nv lv pv u hV hb hnl
  reached g rv nv lv pv u hb hnl hV := reachedP g rv nv lv pv u hV hb hnl
  ends g rv nv lv pv u hb hnl hV := endsP g rv nv lv pv u hV hb hnl

end Go.Proofs.YthgbjhnknepefaaGreat
namespace Go.Proofs.YthgbjhnknepefaaGreat
open Go.RowKit Go.Maps Go.Sort

theorem shapeN13 {w : World} {v : Value} {l : List Int} (h : Nums w v l) : ∃ a c, v = .slice a l.length c := by obtain ⟨a, c, e, _⟩ := h; exact ⟨a, c, e⟩
theorem lists_len {g : Gm} (hg : SndG g) : (ofL (rcN g (g.nonts.length + 1))).length ≤ 1000 ∧ (ofL (enN g (g.nonts.length + 1))).length ≤ 1000 := by
  have h1 := ofL_len (rcN g (g.nonts.length + 1))
  have h2 := ofL_len (enN g (g.nonts.length + 1))
  have h3 := (rcN_good g (g.nonts.length + 1)).len hg
  have h4 := (enN_good g (g.nonts.length + 1)).len hg
  omega
set_option maxRecDepth 20000 in
set_option maxHeartbeats 16000000 in
theorem checkListsWalk (HC : CkOK) (HW : WkOK) (rv nv lv pv : Value) (g : Gm) (w : World) (h : GmV w rv nv lv pv g) : Calls Tryz.prog 5 #[gmA rv nv lv pv g.start] w fun e w' => e = .returned (.bool true) ∧ Below w.heap.size w w' := by
  have hKp := hid (fun u (hu : Below w.heap.size w u) => h.keep hu)
  obtain ⟨ra, rc, rfl⟩ := h.rules.shape
  obtain ⟨na, nc, rfl⟩ := h.nonts.shape
  obtain ⟨la, lc, rfl⟩ := h.levels.shape
  obtain ⟨pa, pc, rfl⟩ := h.prods.shape
  have hB1 := al' w (.cells #[.slice ra g.rules.length rc, .slice na g.nonts.length nc, .slice la g.levels.length lc, .slice pa g.prods.length pc, .int .i64 g.start] 27)
  have k1 := heap_new w (.cells #[.slice ra g.rules.length rc, .slice na g.nonts.length nc, .slice la g.levels.length lc, .slice pa g.prods.length pc, .int .i64 g.start] 27)
  obtain ⟨W, hW⟩ : ∃ x, w.alloc (.cells #[.slice ra g.rules.length rc, .slice na g.nonts.length nc, .slice la g.levels.length lc, .slice pa g.prods.length pc, .int .i64 g.start] 27) = x := ⟨_, rfl⟩
  rw [hW] at hB1 k1
  have hk1 := hid (fun u (hu : Below W.heap.size W u) => cells5m (hs_keep k1 hu))
  have hB := hid hB1
  have GW := hid (HW.wakes W)
  by_cases hf : Fits12 g
  · have GL := hid (fun u (hu : Below w.heap.size w u) => longNo _ _ _ _ g u (hKp.out u hu) hf)
    have GA := hid (fun u (hu : Below w.heap.size w u) => HC.reached g _ _ _ _ u hf.bnd hf.names (hKp.out u hu))
    have GB := hid (fun u (hu : Below w.heap.size w u) => HC.ends g _ _ _ _ u hf.bnd hf.names (hKp.out u hu))
    have GS := hid (fun u (hu : Below w.heap.size w u) => refSound g _ _ _ _ u (hKp.out u hu) hf.bnd hf.names)
    by_cases hg : SndG g
    · obtain ⟨l1, l2⟩ := lists_len hg
      have eA : rchA g = ofL (rcN g (g.nonts.length + 1)) := by unfold rchA; exact @if_pos _ (Classical.propDecidable _) hg _ _ _
      have eB : endA g = ofL (enN g (g.nonts.length + 1)) := by unfold endA; exact @if_pos _ (Classical.propDecidable _) hg _ _ _
      have GR := hid (fun u (hu : Below w.heap.size w u) => refReached g _ _ _ _ u (hKp.out u hu) hf.bnd hg)
      have GE := hid (fun u (hu : Below w.heap.size w u) => refEnds g _ _ _ _ u (hKp.out u hu) hf.bnd hg)
      rw [eA] at GA
      rw [eB] at GB
      rw [soundB_yes hg] at GS
      have GX := hid (fun u v v' (h1 : Nums u v (ofL (rcN g (g.nonts.length + 1)))) (h2 : Nums u v' (ofL (rcN g (g.nonts.length + 1)))) => refSame v v' _ _ u (by omega) (by omega) h1 h2)
      have GY := hid (fun u v v' (h1 : Nums u v (ofL (enN g (g.nonts.length + 1)))) (h2 : Nums u v' (ofL (enN g (g.nonts.length + 1)))) => refSame v v' _ _ u (by omega) (by omega) h1 h2)
      rw [decide_eq_true rfl] at GX
      rw [decide_eq_true rfl] at GY
      clear h hB1 k1 hf hg HC HW eA eB l1 l2
      generalize ofL (rcN g (g.nonts.length + 1)) = LR at *
      generalize ofL (enN g (g.nonts.length + 1)) = LE at *
      generalize g.rules.length = rn at *
      generalize g.nonts.length = nn at *
      generalize g.levels.length = ll at *
      generalize g.prods.length = pp at *
      generalize g.start = st at *
      clear hKp
      go_enter Tryz.func5, Tryz.ntmps5
      go_wp2_with (first
        | (go_at_call 8; refine GW.out.mono ?_; clear GW; rintro e w1 ⟨rfl, hc1⟩; have h1 := hid hc1; obtain ⟨x0, x1, x2, x3, x4⟩ := hk1.out w1 h1.out; clear hc1)
        | (go_at_call 9; refine (GL.out _ (bl_step hB.out h1.out)).mono ?_; clear GL; rintro e w2 ⟨rfl, hc2⟩; have h2 := hid (bl_step h1.out hc2); clear hc2 x0 x1 x2 x3 x4))
      clear hW h1
      have hcur := hid (show Below W.heap.size W w2.drew from h2.out.drew)
      obtain ⟨z0, z1, z2, z3, z4⟩ := hk1.out _ hcur.out
      clear h2
      go_region_held3 (fun w' => w'.cell? ⟨w.heap.size, 0, none⟩ = some (.slice ra rn rc) ∧ w'.cell? ⟨w.heap.size, 1, none⟩ = some (.slice na nn nc) ∧ w'.cell? ⟨w.heap.size, 2, none⟩ = some (.slice la ll lc) ∧ w'.cell? ⟨w.heap.size, 3, none⟩ = some (.slice pa pp pc) ∧ w'.cell? ⟨w.heap.size, 4, none⟩ = some (.int .i64 st)) (go_keep) ((first
        | (go_at_call 15; refine (GA.out _ (bl_step hB.out hcur.out)).mono ?_; rintro e w3 ⟨v3, rfl, hN3, hc⟩; obtain ⟨a3, c3, e3⟩ := shapeN13 hN3; subst e3; have hNa := hid hN3; have hNc := hid (hNb.out.keep hc); clear hNb; have hNb := hNc; clear hNc hN3; have hn := hid (bl_step hcur.out hc); clear hcur z0 z1 z2 z3 z4; have hcur := hn; clear hn hc; obtain ⟨z0, z1, z2, z3, z4⟩ := hk1.out _ hcur.out)
        | (go_at_call 15; refine (GA.out _ (bl_step hB.out hcur.out)).mono ?_; rintro e w3 ⟨v3, rfl, hN3, hc⟩; obtain ⟨a3, c3, e3⟩ := shapeN13 hN3; subst e3; have hNa := hid hN3; clear hN3; have hn := hid (bl_step hcur.out hc); clear hcur z0 z1 z2 z3 z4; have hcur := hn; clear hn hc; obtain ⟨z0, z1, z2, z3, z4⟩ := hk1.out _ hcur.out)
        | (go_at_call 16; refine (GB.out _ (bl_step hB.out hcur.out)).mono ?_; rintro e w4 ⟨v4, rfl, hN4, hc⟩; obtain ⟨a4, c4, e4⟩ := shapeN13 hN4; subst e4; have hNb := hid hN4; have hNc := hid (hNa.out.keep hc); clear hNa; have hNa := hNc; clear hNc hN4; have hn := hid (bl_step hcur.out hc); clear hcur z0 z1 z2 z3 z4; have hcur := hn; clear hn hc; obtain ⟨z0, z1, z2, z3, z4⟩ := hk1.out _ hcur.out)
        | (go_at_call 16; refine (GB.out _ (bl_step hB.out hcur.out)).mono ?_; rintro e w4 ⟨v4, rfl, hN4, hc⟩; obtain ⟨a4, c4, e4⟩ := shapeN13 hN4; subst e4; have hNb := hid hN4; clear hN4; have hn := hid (bl_step hcur.out hc); clear hcur z0 z1 z2 z3 z4; have hcur := hn; clear hn hc; obtain ⟨z0, z1, z2, z3, z4⟩ := hk1.out _ hcur.out)))
      all_goals
        go_wp2_with (first
          | (go_at_call 12; refine (GS.out _ (bl_step hB.out hcur.out)).mono ?_; clear GS; rintro e w5 ⟨rfl, hc5⟩; have h5 := hid (bl_step hcur.out hc5); have hN5 := hid (hNa.out.keep hc5); have hM5 := hid (hNb.out.keep hc5); obtain ⟨x0, x1, x2, x3, x4⟩ := hk1.out _ h5.out; clear hc5)
          | (go_at_call 18; refine (GR.out _ (bl_step hB.out h5.out)).mono ?_; clear GR; rintro e w6 ⟨v6, rfl, ⟨B6, hO6⟩, hc6⟩; have h6 := hid (bl_step h5.out hc6); have hN6 := hid (hN5.out.keep hc6); have hM6 := hid (hM5.out.keep hc6); have hR6 := hid (Nums.of_row hO6); clear hO6 hc6)
          | (go_at_call 17; refine (GX.out _ _ _ hN6.out hR6.out).mono ?_; clear GX; rintro e w7 ⟨rfl, hc7⟩; have h7 := hid (bl_step h6.out hc7); have hM7 := hid (hM6.out.keep hc7); obtain ⟨y0, y1, y2, y3, y4⟩ := hk1.out _ h7.out; clear hc7)
          | (go_at_call 19; refine (GE.out _ (bl_step hB.out h7.out)).mono ?_; clear GE; rintro e w8 ⟨v8, rfl, ⟨B8, hO8⟩, hc8⟩; have h8 := hid (bl_step h7.out hc8); have hM8 := hid (hM7.out.keep hc8); have hR8 := hid (Nums.of_row hO8); clear hO8 hc8)
          | (go_at_call 17; refine (GY.out _ _ _ hM8.out hR8.out).mono ?_; clear GY; rintro e w9 ⟨rfl, hc9⟩; have h9 := hid (bl_step h8.out hc9); clear hc9))
        go_ret
        exact ⟨by simp, bl_step hB.out h9.out⟩
    · have eA : rchA g = [] := by unfold rchA; exact @if_neg _ (Classical.propDecidable _) hg _ _ _
      have eB : endA g = [] := by unfold endA; exact @if_neg _ (Classical.propDecidable _) hg _ _ _
      rw [eA] at GA
      rw [eB] at GB
      rw [soundB_no hg] at GS
      clear h hB1 k1 hf hg HC HW eA eB
      generalize g.rules.length = rn at *
      generalize g.nonts.length = nn at *
      generalize g.levels.length = ll at *
      generalize g.prods.length = pp at *
      generalize g.start = st at *
      clear hKp
      go_enter Tryz.func5, Tryz.ntmps5
      go_wp2_with (first
        | (go_at_call 8; refine GW.out.mono ?_; clear GW; rintro e w1 ⟨rfl, hc1⟩; have h1 := hid hc1; obtain ⟨x0, x1, x2, x3, x4⟩ := hk1.out w1 h1.out; clear hc1)
        | (go_at_call 9; refine (GL.out _ (bl_step hB.out h1.out)).mono ?_; clear GL; rintro e w2 ⟨rfl, hc2⟩; have h2 := hid (bl_step h1.out hc2); clear hc2 x0 x1 x2 x3 x4))
      clear hW h1
      have hcur := hid (show Below W.heap.size W w2.drew from h2.out.drew)
      obtain ⟨z0, z1, z2, z3, z4⟩ := hk1.out _ hcur.out
      clear h2
      go_region_held3 (fun w' => w'.cell? ⟨w.heap.size, 0, none⟩ = some (.slice ra rn rc) ∧ w'.cell? ⟨w.heap.size, 1, none⟩ = some (.slice na nn nc) ∧ w'.cell? ⟨w.heap.size, 2, none⟩ = some (.slice la ll lc) ∧ w'.cell? ⟨w.heap.size, 3, none⟩ = some (.slice pa pp pc) ∧ w'.cell? ⟨w.heap.size, 4, none⟩ = some (.int .i64 st)) (go_keep) ((first
        | (go_at_call 15; refine (GA.out _ (bl_step hB.out hcur.out)).mono ?_; rintro e w3 ⟨v3, rfl, hN3, hc⟩; obtain ⟨a3, c3, e3⟩ := shapeN13 hN3; subst e3; clear hN3; have hn := hid (bl_step hcur.out hc); clear hcur z0 z1 z2 z3 z4; have hcur := hn; clear hn hc; obtain ⟨z0, z1, z2, z3, z4⟩ := hk1.out _ hcur.out)
        | (go_at_call 16; refine (GB.out _ (bl_step hB.out hcur.out)).mono ?_; rintro e w4 ⟨v4, rfl, hN4, hc⟩; obtain ⟨a4, c4, e4⟩ := shapeN13 hN4; subst e4; clear hN4; have hn := hid (bl_step hcur.out hc); clear hcur z0 z1 z2 z3 z4; have hcur := hn; clear hn hc; obtain ⟨z0, z1, z2, z3, z4⟩ := hk1.out _ hcur.out)))
      all_goals
        go_wp2_with (go_at_call 12; refine (GS.out _ (bl_step hB.out hcur.out)).mono ?_; clear GS; rintro e w5 ⟨rfl, hc5⟩; have h5 := hid (bl_step hcur.out hc5); clear hc5)
        go_ret
        exact ⟨by simp, bl_step hB.out h5.out⟩
  · have GL := hid (fun u (hu : Below w.heap.size w u) => longYes _ _ _ _ g u (hKp.out u hu) hf)
    clear h hB1 k1 hf HC HW
    generalize g.rules.length = rn at *
    generalize g.nonts.length = nn at *
    generalize g.levels.length = ll at *
    generalize g.prods.length = pp at *
    generalize g.start = st at *
    go_enter Tryz.func5, Tryz.ntmps5
    go_wp2_with (first
      | (go_at_call 8; refine GW.out.mono ?_; clear GW; rintro e w1 ⟨rfl, hc1⟩; have h1 := hid hc1; obtain ⟨x0, x1, x2, x3, x4⟩ := hk1.out w1 h1.out; clear hc1)
      | (go_at_call 9; refine (GL.out _ (bl_step hB.out h1.out)).mono ?_; clear GL; rintro e w2 ⟨rfl, hc2⟩; have h2 := hid (bl_step h1.out hc2); clear hc2))
    go_ret
    exact ⟨rfl, bl_step hB.out h2.out⟩

end Go.Proofs.YthgbjhnknepefaaGreat
namespace Go.Proofs.YthgbjhnknepefaaGreat
open Go.RowKit Go.Maps Go.Sort

/-- what is asked of a grammar that was read -/
structure RdOK (prs : Txt → Option Gm) : Prop where
  sound : ∀ s g, prs s = some g → SndG g
theorem SndG.names {g : Gm} (h : SndG g) : ∀ t ∈ g.allN, t.length ≤ 1000000 := fun t ht => by
  have := h.named t ht
  unfold namB at this
  simp only [Bool.and_eq_true, decide_eq_true_eq] at this
  have := this.1.1.1
  omega
set_option maxRecDepth 20000 in
set_option maxHeartbeats 16000000 in
theorem checkSoundWalk {prs : Txt → Option Gm} (HP : PrsOK prs) (HR : RdOK prs) (HC : CkOK) (HW : WkOK) (rv nv lv pv : Value) (g : Gm) (s : Txt) (w : World) (h : GmV w rv nv lv pv g) (hs : s.length ≤ 9223372036854775807) : Calls Tryz.prog 3 #[gmA rv nv lv pv g.start, .string (strT s)] w fun e w' => e = .returned (.bool true) ∧ Below w.heap.size w w' := by
  have hsz := strT_size s
  have hKp := hid (fun u (hu : Below w.heap.size w u) => h.keep hu)
  obtain ⟨ra, rc, rfl⟩ := h.rules.shape
  obtain ⟨na, nc, rfl⟩ := h.nonts.shape
  obtain ⟨la, lc, rfl⟩ := h.levels.shape
  obtain ⟨pa, pc, rfl⟩ := h.prods.shape
  have hB1 := al' w (.cells #[.slice ra g.rules.length rc, .slice na g.nonts.length nc, .slice la g.levels.length lc, .slice pa g.prods.length pc, .int .i64 g.start] 27)
  have k1 := heap_new w (.cells #[.slice ra g.rules.length rc, .slice na g.nonts.length nc, .slice la g.levels.length lc, .slice pa g.prods.length pc, .int .i64 g.start] 27)
  obtain ⟨W, hW⟩ : ∃ x, w.alloc (.cells #[.slice ra g.rules.length rc, .slice na g.nonts.length nc, .slice la g.levels.length lc, .slice pa g.prods.length pc, .int .i64 g.start] 27) = x := ⟨_, rfl⟩
  rw [hW] at hB1 k1
  have hk1 := hid (fun u (hu : Below W.heap.size W u) => cells5m (hs_keep k1 hu))
  have hB := hid hB1
  have GW := hid (HW.wakes W)
  by_cases hf : Fits12 g
  · have GL := hid (fun u (hu : Below w.heap.size w u) => longNo _ _ _ _ g u (hKp.out u hu) hf)
    by_cases h4 : (4096 : Int) < ((strT s).size : Int)
    · clear h hB1 k1 hf HC HW HP HR hsz
      generalize g.rules.length = rn at *
      generalize g.nonts.length = nn at *
      generalize g.levels.length = ll at *
      generalize g.prods.length = pp at *
      generalize g.start = st at *
      go_enter Tryz.func3, Tryz.ntmps3
      go_wp2_with (first
        | (go_at_call 8; refine GW.out.mono ?_; clear GW; rintro e w1 ⟨rfl, hc1⟩; have h1 := hid hc1; obtain ⟨x0, x1, x2, x3, x4⟩ := hk1.out w1 h1.out; clear hc1)
        | (go_at_call 9; refine (GL.out _ (bl_step hB.out h1.out)).mono ?_; clear GL; rintro e w2 ⟨rfl, hc2⟩; have h2 := hid (bl_step h1.out hc2); clear hc2))
      go_ret
      exact ⟨rfl, bl_step hB.out h2.out⟩
    · have GS := hid (fun u (hu : Below w.heap.size w u) => HC.sound g _ _ _ _ u hf.bnd hf.names (hKp.out u hu))
      have GF := hid (fun u (hu : Below w.heap.size w u) => refSound g _ _ _ _ u (hKp.out u hu) hf.bnd hf.names)
      cases hp : prs s with
      | none =>
        have GP := hid (fun u => HP.no s u (by omega) hp)
        clear h hB1 k1 hf HC HW HP HR hsz hp
        generalize soundB g = R at *
        generalize g.rules.length = rn at *
        generalize g.nonts.length = nn at *
        generalize g.levels.length = ll at *
        generalize g.prods.length = pp at *
        generalize g.start = st at *
        clear hKp
        generalize strT s = S at *
        go_enter Tryz.func3, Tryz.ntmps3
        go_wp2_with (first
          | (go_at_call 8; refine GW.out.mono ?_; clear GW; rintro e w1 ⟨rfl, hc1⟩; have h1 := hid hc1; obtain ⟨x0, x1, x2, x3, x4⟩ := hk1.out w1 h1.out; clear hc1)
          | (go_at_call 9; refine (GL.out _ (bl_step hB.out h1.out)).mono ?_; clear GL; rintro e w2 ⟨rfl, hc2⟩; have h2 := hid (bl_step h1.out hc2); clear hc2)
          | (go_at_call 10; refine (GP.out _).mono ?_; clear GP; rintro e w3 ⟨ra', na', la', pa', rc', nc', lc', pc', st', n3, er, rfl, her, hc3⟩; have herz : (er != 0) = true := bne_iff_ne.2 her; clear her; have h3 := hid (bl_step (bl_step h2.out hc3) (al' w3 (.cells #[.slice ra' 0 rc', .slice na' 0 nc', .slice la' 0 lc', .slice pa' 0 pc', .int .i64 st'] 27))); clear hc3))
        obtain ⟨W4, hW4⟩ : ∃ x, w3.alloc (.cells #[.slice ra' 0 rc', .slice na' 0 nc', .slice la' 0 lc', .slice pa' 0 pc', .int .i64 st'] 27) = x := ⟨_, rfl⟩
        rw [hW4] at h3 ⊢
        obtain ⟨z0, z1, z2, z3, z4⟩ := hk1.out W4 h3.out
        have cA : Hid (∀ d os, Calls Tryz.prog 11 #[gmA (.slice ra rn rc) (.slice na nn nc) (.slice la ll lc) (.slice pa pp pc) st] (grow (redrawn W4 d) os) fun e w'' => e = .returned (.bool R) ∧ ∃ p : Regrown, w'' = grow (redrawn W4 p.d) p.os) := hid (fun d os => Calls.regrown_of (GS.out _ (bl_step hB.out (bl_step h3.out (below_regrown W4 d os)))))
        have cB : Hid (∀ d os, Calls Tryz.prog 12 #[gmA (.slice ra rn rc) (.slice na nn nc) (.slice la ll lc) (.slice pa pp pc) st] (grow (redrawn W4 d) os) fun e w'' => e = .returned (.bool R) ∧ ∃ p : Regrown, w'' = grow (redrawn W4 p.d) p.os) := hid (fun d os => Calls.regrown_of (GF.out _ (bl_step hB.out (bl_step h3.out (below_regrown W4 d os)))))
        have y0 := cell_regrown z0
        have y1 := cell_regrown z1
        have y2 := cell_regrown z2
        have y3 := cell_regrown z3
        have y4 := cell_regrown z4
        have hRR : (R == R) = true := by simp
        clear z0 z1 z2 z3 z4 x0 x1 x2 x3 x4 hW hW4 h4
        refine wp_region_quiet_below (by kernel_rfl) (by kernel_rfl) ?_
        repeat (first | go_big_quiet_step (first | exact cA.out _ _ | exact cB.out _ _) | quiet_step (first | exact cA.out _ _ | exact cB.out _ _))
        refine wpQuiet_nil ?_
        intro _ hw'
        obtain ⟨⟨dq, osq⟩, hw''⟩ := hw'
        subst hw''
        go_wp2
        go_ret
        exact ⟨by simp, bl_step hB.out (bl_step h3.out (below_regrown W4 dq osq))⟩
      | some g2 =>
        have GP := hid (fun u => HP.yes s g2 u (by omega) hp)
        have hs2 := HR.sound s g2 hp
        have GZ := hid (fun rv nv lv pv u (hv : GmV u rv nv lv pv g2) => HC.sound g2 rv nv lv pv u (HP.bnd s g2 hp) hs2.names hv)
        rw [soundB_yes hs2] at GZ
        clear h hB1 k1 hf HC HW HP HR hsz hp hs2
        generalize soundB g = R at *
        generalize g.rules.length = rn at *
        generalize g.nonts.length = nn at *
        generalize g.levels.length = ll at *
        generalize g.prods.length = pp at *
        generalize g.start = st at *
        clear hKp
        generalize strT s = S at *
        go_enter Tryz.func3, Tryz.ntmps3
        go_wp2_with (first
          | (go_at_call 8; refine GW.out.mono ?_; clear GW; rintro e w1 ⟨rfl, hc1⟩; have h1 := hid hc1; obtain ⟨x0, x1, x2, x3, x4⟩ := hk1.out w1 h1.out; clear hc1)
          | (go_at_call 9; refine (GL.out _ (bl_step hB.out h1.out)).mono ?_; clear GL; rintro e w2 ⟨rfl, hc2⟩; have h2 := hid (bl_step h1.out hc2); clear hc2)
          | (go_at_call 10; refine (GP.out _).mono ?_; clear GP; rintro e w3 ⟨rv', nv', lv', pv', rfl, hV', hc3⟩; obtain ⟨ra', rc', hre⟩ := hV'.rules.shape; obtain ⟨na', nc', hne⟩ := hV'.nonts.shape; obtain ⟨la', lc', hle⟩ := hV'.levels.shape; obtain ⟨pa', pc', hpe⟩ := hV'.prods.shape; subst hre hne hle hpe; have hal := al' w3 (.cells #[.slice ra' g2.rules.length rc', .slice na' g2.nonts.length nc', .slice la' g2.levels.length lc', .slice pa' g2.prods.length pc', .int .i64 g2.start] 27); have h3 := hid (bl_step (bl_step h2.out hc3) hal); have hV4 := hid (hV'.keep hal); have hb4 := hid (heap_new w3 (.cells #[.slice ra' g2.rules.length rc', .slice na' g2.nonts.length nc', .slice la' g2.levels.length lc', .slice pa' g2.prods.length pc', .int .i64 g2.start] 27)); clear hc3 hal hV'))
        obtain ⟨W4, hW4⟩ : ∃ x, w3.alloc (.cells #[.slice ra' g2.rules.length rc', .slice na' g2.nonts.length nc', .slice la' g2.levels.length lc', .slice pa' g2.prods.length pc', .int .i64 g2.start] 27) = x := ⟨_, rfl⟩
        rw [hW4] at h3 hV4 hb4 ⊢
        obtain ⟨z0, z1, z2, z3, z4⟩ := hk1.out W4 h3.out
        obtain ⟨u0, u1, u2, u3, u4⟩ := cells5m hb4.out
        have cA : Hid (∀ d os, Calls Tryz.prog 11 #[gmA (.slice ra rn rc) (.slice na nn nc) (.slice la ll lc) (.slice pa pp pc) st] (grow (redrawn W4 d) os) fun e w'' => e = .returned (.bool R) ∧ ∃ p : Regrown, w'' = grow (redrawn W4 p.d) p.os) := hid (fun d os => Calls.regrown_of (GS.out _ (bl_step hB.out (bl_step h3.out (below_regrown W4 d os)))))
        have cB : Hid (∀ d os, Calls Tryz.prog 12 #[gmA (.slice ra rn rc) (.slice na nn nc) (.slice la ll lc) (.slice pa pp pc) st] (grow (redrawn W4 d) os) fun e w'' => e = .returned (.bool R) ∧ ∃ p : Regrown, w'' = grow (redrawn W4 p.d) p.os) := hid (fun d os => Calls.regrown_of (GF.out _ (bl_step hB.out (bl_step h3.out (below_regrown W4 d os)))))
        have cC : Hid (∀ d os, Calls Tryz.prog 11 #[gmA (.slice ra' g2.rules.length rc') (.slice na' g2.nonts.length nc') (.slice la' g2.levels.length lc') (.slice pa' g2.prods.length pc') g2.start] (grow (redrawn W4 d) os) fun e w'' => e = .returned (.bool true) ∧ ∃ p : Regrown, w'' = grow (redrawn W4 p.d) p.os) := hid (fun d os => Calls.regrown_of (GZ.out _ _ _ _ _ (hV4.out.keep (below_regrown W4 d os))))
        have y0 := cell_regrown z0
        have y1 := cell_regrown z1
        have y2 := cell_regrown z2
        have y3 := cell_regrown z3
        have y4 := cell_regrown z4
        have s0 := cell_regrown u0
        have s1 := cell_regrown u1
        have s2 := cell_regrown u2
        have s3 := cell_regrown u3
        have s4 := cell_regrown u4
        have hRR : (R == R) = true := by simp
        clear z0 z1 z2 z3 z4 x0 x1 x2 x3 x4 hW hW4 h4 u0 u1 u2 u3 u4
        refine wp_region_quiet_below (by kernel_rfl) (by kernel_rfl) ?_
        repeat (first | go_big_quiet_step (first | with_reducible exact cA.out _ _ | with_reducible exact cB.out _ _ | with_reducible exact cC.out _ _) | quiet_step (first | with_reducible exact cA.out _ _ | with_reducible exact cB.out _ _ | with_reducible exact cC.out _ _))
        refine wpQuiet_nil ?_
        intro _ hw'
        obtain ⟨⟨dq, osq⟩, hw''⟩ := hw'
        subst hw''
        go_wp2
        go_ret
        exact ⟨by simp, bl_step hB.out (bl_step h3.out (below_regrown W4 dq osq))⟩
  · have GL := hid (fun u (hu : Below w.heap.size w u) => longYes _ _ _ _ g u (hKp.out u hu) hf)
    clear h hB1 k1 hf HC HW HP HR hsz
    generalize g.rules.length = rn at *
    generalize g.nonts.length = nn at *
    generalize g.levels.length = ll at *
    generalize g.prods.length = pp at *
    generalize g.start = st at *
    go_enter Tryz.func3, Tryz.ntmps3
    go_wp2_with (first
      | (go_at_call 8; refine GW.out.mono ?_; clear GW; rintro e w1 ⟨rfl, hc1⟩; have h1 := hid hc1; obtain ⟨x0, x1, x2, x3, x4⟩ := hk1.out w1 h1.out; clear hc1)
      | (go_at_call 9; refine (GL.out _ (bl_step hB.out h1.out)).mono ?_; clear GL; rintro e w2 ⟨rfl, hc2⟩; have h2 := hid (bl_step h1.out hc2); clear hc2))
    go_ret
    exact ⟨rfl, bl_step hB.out h2.out⟩

end Go.Proofs.YthgbjhnknepefaaGreat
namespace Go.Proofs.YthgbjhnknepefaaGreat
open Go.RowKit Go.Maps Go.Sort

theorem StpV.shape {T : Nat → Nat} {w : World} {rb : Nat} {v : Value} {s : Stp} (h : StpV T w rb v s) : ∃ fn cp, v = .func fn #[] cp := by
  rcases h with ⟨_, p, q, rfl, _⟩ | ⟨_, p, q, l, rfl, _⟩ | ⟨_, l, rfl, _⟩ | ⟨_, p, q, rfl, _⟩ | ⟨_, p, l, q, rfl, _⟩ | ⟨_, p, q, l, rfl, _⟩ <;> exact ⟨_, _, rfl⟩
set_option maxRecDepth 20000 in
set_option maxHeartbeats 4000000 in
theorem thnC {B rb : Nat} {T : Nat → Nat} {w : World} {X : RX} {st : RS} (h : RdV B T w rb X st) (s : Stp) (fv : Value) (hs : StpV T w rb fv s) (hn : st.later.length ≤ 100000) :
    Calls Tryz.prog 89 #[ptr0 rb, wdA s.w, fv] w fun r w' => r = .returned (.tuple #[]) ∧ RdP B T w rb (st.thn s) w' := by
  obtain ⟨fn, cp, rfl⟩ := hs.shape
  have hB1 := al' w (boxW s.w)
  have hv1 : (w.alloc (boxW s.w)).heap[w.heap.size]? = some (boxW s.w) := heap_new w _
  obtain ⟨W, hW⟩ : ∃ x, w.alloc (boxW s.w) = x := ⟨_, rfl⟩
  rw [hW] at hB1 hv1
  have h1 := h.keep hB1
  have hs1 := hs.keep (Chg.of_below hB1)
  have hbd : Below W.heap.size W W.drew := (Below.refl _ W).drew
  obtain ⟨a, c, w5, hrun, hbk, T', X', hR, hC⟩ := (h1.keep hbd).app_later s (.func fn #[] cp) (hs1.keep (Chg.of_below hbd)) hn
  have hP : Hid (RdP B T w rb (st.thn s) (w5.setCell ⟨rb, 15, none⟩ (.slice a (st.later.length + 1) c))) := hid ⟨T', X', hR, (Chg.of_below (bl_step hB1 hbd)).trans hC⟩
  have hbl : W.drew.heap[rb]? = some (rdO X st.levels st.starts st.pl st.err) := hs_keep h1.blk hbd
  have hb5 := hbk.trans hbl
  have c5 : w5.cell? ⟨rb, 15, none⟩ = some X.la := blk_cell hb5 rfl
  have f5 : w5.frozen? ⟨rb, 15, none⟩ = false := blk_frozen hb5 15
  have cd : W.drew.cell? ⟨rb, 15, none⟩ = some X.la := blk_cell hbl rfl
  have vd := (rd3 (hs_keep hv1 hbd)).2.1
  have hsd : W.drew.heap.size = W.heap.size := rfl
  rw [hsd] at hrun
  have hwa : W.drew.alloc (.cells #[.int .i64 (s.w.2.1 : Int), .func fn #[] cp] 88) = (W.alloc (.cells #[.int .i64 (s.w.2.1 : Int), .func fn #[] cp] 88)).drew := rfl
  rw [hwa] at hrun
  have hba : Below W.drew.heap.size W.drew (W.alloc (.cells #[.int .i64 (s.w.2.1 : Int), .func fn #[] cp] 88)).drew := al' W.drew _
  have ca := keep_cell hba cd
  have va := keep_cell hba vd
  clear hba hwa hsd hb5 hbl hR hC hbk hbd hs1 h1 hB1 hs h hv1
  generalize st.later.length = n at *
  generalize st.thn s = st2 at *
  generalize X.la = la at *
  generalize s.w = H at *
  obtain ⟨hk, hp, ht⟩ := H
  dsimp only at *
  go_enter Tryz.func89, Tryz.ntmps89
  go_wp2_with fail
  apply collapse
  case h =>
    intro rest
    go_region_law ((first
      | (refine step_run (by rfl) (.tmp 10) (.tmp 15) 69 (by rfl) _ _ (by rfl) (by rfl) hrun ?_)
      | fail))
    all_goals exact rest.out
  case pf =>
    go_wp2
    go_end0
    exact ⟨rfl, hP.out⟩
set_option maxRecDepth 20000 in
set_option maxHeartbeats 4000000 in
theorem addRT {B rb : Nat} {T : Nat → Nat} {w : World} {X : RX} {st : RS} (h : RdV B T w rb X st) (x : Wd) (hn : st.skips.length ≤ 100000) :
    Calls Tryz.prog 87 #[.pointer (some ⟨rb, 8, none⟩), wdA x, .bool true] w fun r w' => r = .returned (.tuple #[]) ∧ RdP B T w rb (st.addW x true) w' := by
  have hB1 := al' w (boxW x)
  have hv1 : (w.alloc (boxW x)).heap[w.heap.size]? = some (boxW x) := heap_new w _
  obtain ⟨W, hW⟩ : ∃ y, w.alloc (boxW x) = y := ⟨_, rfl⟩
  rw [hW] at hB1 hv1
  have h1 := h.keep hB1
  have hbd : Below W.heap.size W W.drew := (Below.refl _ W).drew
  obtain ⟨a, c, w5, hrun, hbk, T', X', hR, hC⟩ := (h1.keep hbd).app_skips x hn
  have hP : Hid (RdP B T w rb (st.addW x true) (w5.setCell ⟨rb, 8, none⟩ (.slice a (st.skips.length + 1) c))) := hid ⟨T', X', hR, (Chg.of_below (bl_step hB1 hbd)).trans hC⟩
  have hbl : W.drew.heap[rb]? = some (rdO X st.levels st.starts st.pl st.err) := hs_keep h1.blk hbd
  have hb5 := hbk.trans hbl
  have c5 : w5.cell? ⟨rb, 8, none⟩ = some X.sk := blk_cell hb5 rfl
  have f5 : w5.frozen? ⟨rb, 8, none⟩ = false := blk_frozen hb5 8
  have cd : W.drew.cell? ⟨rb, 8, none⟩ = some X.sk := blk_cell hbl rfl
  obtain ⟨v0, v1, v2, -, -⟩ := rd3 (hs_keep hv1 hbd)
  have hsd : W.drew.heap.size = W.heap.size := rfl
  rw [hsd] at hrun
  have hwa : W.drew.alloc (boxW x) = (W.alloc (boxW x)).drew := rfl
  rw [hwa] at hrun
  have hba : Below W.drew.heap.size W.drew (W.alloc (boxW x)).drew := al' W.drew _
  have ca := keep_cell hba cd
  have a0 := keep_cell hba v0
  have a1 := keep_cell hba v1
  have a2 := keep_cell hba v2
  clear hba hwa hsd hb5 hbl hR hC hbk hbd h1 hB1 h hv1
  generalize st.skips.length = n at *
  generalize st.addW x true = st2 at *
  generalize X.sk = la at *
  obtain ⟨hk, hp, ht⟩ := x
  dsimp only at *
  go_enter Tryz.func87, Tryz.ntmps87
  go_wp2_with fail
  apply collapse
  case h =>
    intro rest
    go_region_law ((first
      | (refine step_run (by rfl) (.tmp 11) (.tmp 13) 49 (by rfl) _ _ (by rfl) (by rfl) hrun ?_)
      | fail))
    all_goals exact rest.out
  case pf =>
    go_wp2
    go_end0
    exact ⟨rfl, hP.out⟩
set_option maxRecDepth 20000 in
set_option maxHeartbeats 4000000 in
theorem addRF {B rb : Nat} {T : Nat → Nat} {w : World} {X : RX} {st : RS} (h : RdV B T w rb X st) (x : Wd) (hn : st.terms.length ≤ 100000) :
    Calls Tryz.prog 87 #[.pointer (some ⟨rb, 8, none⟩), wdA x, .bool false] w fun r w' => r = .returned (.tuple #[]) ∧ RdP B T w rb (st.addW x false) w' := by
  have hB1 := al' w (boxW x)
  have hv1 : (w.alloc (boxW x)).heap[w.heap.size]? = some (boxW x) := heap_new w _
  obtain ⟨W, hW⟩ : ∃ y, w.alloc (boxW x) = y := ⟨_, rfl⟩
  rw [hW] at hB1 hv1
  have h1 := h.keep hB1
  have hbd : Below W.heap.size W W.drew := (Below.refl _ W).drew
  obtain ⟨a, c, w5, hrun, hbk, T', X', hR, hC⟩ := (h1.keep hbd).app_terms x hn
  have hP : Hid (RdP B T w rb (st.addW x false) (w5.setCell ⟨rb, 9, none⟩ (.slice a (st.terms.length + 1) c))) := hid ⟨T', X', hR, (Chg.of_below (bl_step hB1 hbd)).trans hC⟩
  have hbl : W.drew.heap[rb]? = some (rdO X st.levels st.starts st.pl st.err) := hs_keep h1.blk hbd
  have hb5 := hbk.trans hbl
  have c5 : w5.cell? ⟨rb, 9, none⟩ = some X.te := blk_cell hb5 rfl
  have f5 : w5.frozen? ⟨rb, 9, none⟩ = false := blk_frozen hb5 9
  have cd : W.drew.cell? ⟨rb, 9, none⟩ = some X.te := blk_cell hbl rfl
  obtain ⟨v0, v1, v2, -, -⟩ := rd3 (hs_keep hv1 hbd)
  have hsd : W.drew.heap.size = W.heap.size := rfl
  rw [hsd] at hrun
  have hwa : W.drew.alloc (boxW x) = (W.alloc (boxW x)).drew := rfl
  rw [hwa] at hrun
  have hba : Below W.drew.heap.size W.drew (W.alloc (boxW x)).drew := al' W.drew _
  have ca := keep_cell hba cd
  have a0 := keep_cell hba v0
  have a1 := keep_cell hba v1
  have a2 := keep_cell hba v2
  clear hba hwa hsd hb5 hbl hR hC hbk hbd h1 hB1 h hv1
  generalize st.terms.length = n at *
  generalize st.addW x false = st2 at *
  generalize X.te = la at *
  obtain ⟨hk, hp, ht⟩ := x
  dsimp only at *
  go_enter Tryz.func87, Tryz.ntmps87
  go_wp2_with fail
  apply collapse
  case h =>
    intro rest
    go_region_law ((first
      | (refine step_run (by rfl) (.tmp 21) (.tmp 23) 49 (by rfl) _ _ (by rfl) (by rfl) hrun ?_)
      | fail))
    all_goals exact rest.out
  case pf =>
    go_wp2
    go_end0
    exact ⟨rfl, hP.out⟩
set_option maxRecDepth 20000 in
set_option maxHeartbeats 4000000 in
theorem addNC {B rb : Nat} {T : Nat → Nat} {w : World} {X : RX} {st : RS} (h : RdV B T w rb X st) (x : Wd) (hn : st.nons.length ≤ 100000) :
    Calls Tryz.prog 96 #[.pointer (some ⟨rb, 8, none⟩), wdA x] w fun r w' => r = .returned (.tuple #[]) ∧ RdP B T w rb (st.addO x) w' := by
  have hB1 := al' w (boxW x)
  have hv1 : (w.alloc (boxW x)).heap[w.heap.size]? = some (boxW x) := heap_new w _
  obtain ⟨W, hW⟩ : ∃ y, w.alloc (boxW x) = y := ⟨_, rfl⟩
  rw [hW] at hB1 hv1
  have h1 := h.keep hB1
  have hbd : Below W.heap.size W W.drew := (Below.refl _ W).drew
  obtain ⟨a, c, w5, hrun, hbk, T', X', hR, hC⟩ := (h1.keep hbd).app_nons x hn
  have hP : Hid (RdP B T w rb (st.addO x) (w5.setCell ⟨rb, 10, none⟩ (.slice a (st.nons.length + 1) c))) := hid ⟨T', X', hR, (Chg.of_below (bl_step hB1 hbd)).trans hC⟩
  have hbl : W.drew.heap[rb]? = some (rdO X st.levels st.starts st.pl st.err) := hs_keep h1.blk hbd
  have hb5 := hbk.trans hbl
  have c5 : w5.cell? ⟨rb, 10, none⟩ = some X.no := blk_cell hb5 rfl
  have f5 : w5.frozen? ⟨rb, 10, none⟩ = false := blk_frozen hb5 10
  have cd : W.drew.cell? ⟨rb, 10, none⟩ = some X.no := blk_cell hbl rfl
  obtain ⟨v0, v1, v2, -, -⟩ := rd3 (hs_keep hv1 hbd)
  have hsd : W.drew.heap.size = W.heap.size := rfl
  rw [hsd] at hrun
  have hwa : W.drew.alloc (boxW x) = (W.alloc (boxW x)).drew := rfl
  rw [hwa] at hrun
  have hba : Below W.drew.heap.size W.drew (W.alloc (boxW x)).drew := al' W.drew _
  have ca := keep_cell hba cd
  have a0 := keep_cell hba v0
  have a1 := keep_cell hba v1
  have a2 := keep_cell hba v2
  clear hba hwa hsd hb5 hbl hR hC hbk hbd h1 hB1 h hv1
  generalize st.nons.length = n at *
  generalize st.addO x = st2 at *
  generalize X.no = la at *
  obtain ⟨hk, hp, ht⟩ := x
  dsimp only at *
  go_enter Tryz.func96, Tryz.ntmps96
  go_wp2_with fail
  apply collapse
  case h =>
    intro rest
    go_region_law ((first
      | (refine step_run (by rfl) (.tmp 8) (.tmp 10) 49 (by rfl) _ _ (by rfl) (by rfl) hrun ?_)
      | fail))
    all_goals exact rest.out
  case pf =>
    go_wp2
    go_end0
    exact ⟨rfl, hP.out⟩
set_option maxRecDepth 20000 in
theorem addRC {B rb : Nat} {T : Nat → Nat} {w : World} {X : RX} {st : RS} (h : RdV B T w rb X st) (x : Wd) (sk : Bool) (h1 : st.skips.length ≤ 100000) (h2 : st.terms.length ≤ 100000) :
    Calls Tryz.prog 87 #[.pointer (some ⟨rb, 8, none⟩), wdA x, .bool sk] w fun r w' => r = .returned (.tuple #[]) ∧ RdP B T w rb (st.addW x sk) w' := by
  cases sk
  · exact addRF h x h2
  · exact addRT h x h1

end Go.Proofs.YthgbjhnknepefaaGreat
