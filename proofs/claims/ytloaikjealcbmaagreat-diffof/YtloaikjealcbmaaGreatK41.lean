/- Package check: Sound. Package diff: Of; what is asked of package diff stands. What was read is within the limits: its names too. Layer 13: what is sound; what was read is. -/
import Derived.Test.YtloaikjealcbmaaGreatK40
import Derived.Test.YtloaikjealcbmaaGreatK36
import Derived.Test.YtloaikjealcbmaaGreatK37
import Derived.Test.YtloaikjealcbmaaGreatK35
import Derived.Test.YtloaikjealcbmaaGreatK15
import Derived.Deep.RegionHeld3
namespace Go.Proofs.YtloaikjealcbmaaGreat
open Go.RowKit Go.Maps Go.Sort

theorem sound_parts (g : Gm) : SndG g ↔ sizeB g = true ∧ (g.rules.all fun r => rightB r.re) = true ∧ nms2B g = true ∧ levsB g = true ∧ startB g = true ∧ g.prods.all (pdB g) = true := by
 have hlv : levsB g = true ↔ LevOK g := ⟨fun h => Classical.byContradiction fun hn => (by rw [levsB_no hn] at h; cases h), levsB_yes⟩
 rw [hlv]
 unfold sizeB nms2B
 simp only [Bool.and_eq_true, decide_eq_true_eq, List.all_eq_true]
 constructor
 · intro h
   refine ⟨⟨⟨h.rules, h.nonts⟩, h.prods⟩, h.right, ⟨h.named, h.once⟩, ⟨h.levels, h.lev⟩, ?_, h.prod⟩
   unfold startB
   split
   · rename_i h0
     exact decide_eq_true (h.none h0)
   · rename_i h0
     have := h.start (by omega)
     unfold ntmB
     rw [decide_eq_true this.1, decide_eq_true this.2]
     rfl
 · rintro ⟨⟨⟨h1, h2⟩, h3⟩, h4, ⟨h5, h6⟩, h7, h8, h9⟩
   unfold startB at h8
   refine ⟨h1, h2, h3, h4, h5, h6, h7.len, h7.lev, fun h0 => ?_, fun h0 => ?_, h9⟩
   · rw [if_pos h0] at h8
     exact of_decide_eq_true h8
   · rw [if_neg (by omega)] at h8
     unfold ntmB at h8
     rw [Bool.and_eq_true] at h8
     exact ⟨of_decide_eq_true h8.1, of_decide_eq_true h8.2⟩
theorem soundB_is (g : Gm) : soundB g = (sizeB g && (g.rules.all fun r => rightB r.re) && nms2B g && levsB g && startB g && g.prods.all (pdB g)) := by
 by_cases h : SndG g
 · rw [soundB_yes h]
   obtain ⟨h1, h2, h3, h4, h5, h6⟩ := (sound_parts g).1 h
   rw [h1, h2, h3, h4, h5, h6]
   rfl
 · rw [soundB_no h]
   symm
   refine Bool.eq_false_iff.2 fun h9 => h ((sound_parts g).2 ?_)
   simp only [Bool.and_eq_true] at h9
   exact ⟨h9.1.1.1.1.1, h9.1.1.1.1.2, h9.1.1.1.2, h9.1.1.2, h9.1.2, h9.2⟩
set_option maxRecDepth 20000 in
set_option maxHeartbeats 16000000 in
theorem soundP (g : Gm) (rv nv lv pv : Value) (w : World) (hV : GmV w rv nv lv pv g) (hb : BndG g) (hnl : ∀ t ∈ g.allN, t.length ≤ 1000000) :
 Calls Tryz.prog 25 #[gmA rv nv lv pv g.start] w fun e w' => e = .returned (.bool (soundB g)) ∧ Below w.heap.size w w' := by
 have hB1 := al' w (.cells #[rv, nv, lv, pv, .int .i64 g.start] 27)
 have k1 := heap_new w (.cells #[rv, nv, lv, pv, .int .i64 g.start] 27)
 obtain ⟨W, hW⟩ : ∃ x, w.alloc (.cells #[rv, nv, lv, pv, .int .i64 g.start] 27) = x := ⟨_, rfl⟩
 rw [hW] at hB1 k1
 have hB := hid hB1
 have hk1 := hid (fun u (hu : Below W.heap.size W u) => cells5m (hs_keep k1 hu))
 have hr := hb.rules
 have hn := hb.nonts
 have hlv := hb.levels
 have hpr := hb.prods
 have G0 := hid (fun u (hu : Below W.heap.size W u) => sizeC rv nv lv pv g g.start u (hV.keep (bl_step hB1 hu)))
 have G1 := hid (fun u (hu : Below W.heap.size W u) => rulesC rv nv lv pv g g.start u (hV.keep (bl_step hB1 hu)) hr)
 have G2 : Hid (sizeB g = true → ∀ u (_ : Below W.heap.size W u), Calls Tryz.prog 45 #[gmA rv nv lv pv g.start] u fun e w' => e = .returned (.bool (nms2B g)) ∧ Below u.heap.size u w') := hid (fun hs u hu => by
  unfold sizeB at hs
  simp only [Bool.and_eq_true, decide_eq_true_eq] at hs
  exact namesP rv nv lv pv g g.start u (hV.keep (bl_step hB1 hu)) (by omega) (by omega) hnl)
 have G3 := hid (fun u (hu : Below W.heap.size W u) => levelsC rv nv lv pv g g.start u (hV.keep (bl_step hB1 hu)) hr hlv)
 have G4 := hid (fun u (hu : Below W.heap.size W u) => startK3 rv nv lv pv g u (hV.keep (bl_step hB1 hu)) hr hn)
 have G5 := hid (fun u (hu : Below W.heap.size W u) => prodsC rv nv lv pv g g.start u (hV.keep (bl_step hB1 hu)) hb hr hn hpr)
 obtain ⟨x0, x1, x2, x3, x4⟩ := hk1.out W (Below.refl _ _)
 rw [soundB_is]
 have hcells : Hid (Below W.heap.size W W) := hid (Below.refl _ _)
 clear hV hB1 k1 hb hnl hr hn hlv hpr
 generalize g.start = st at *
 generalize sizeB g = B0 at *
 generalize (g.rules.all fun r => rightB r.re) = B1 at *
 generalize nms2B g = B2 at *
 generalize levsB g = B3 at *
 generalize startB g = B4 at *
 generalize g.prods.all (pdB g) = B5 at *
 cases B0 with
 | false =>
  go_enter Tryz.func25, Tryz.ntmps25
  go_wp2_with (first
   | (go_at_call 43; refine (G0.out _ hcells.out).mono ?_; clear G0; rintro e w1 ⟨rfl, hc1⟩; have h1 := hid (bl_step hcells.out hc1); obtain ⟨y0a, y0b, y0c, y0d, y0e⟩ := hk1.out w1 h1.out; clear hc1))
  go_ret
  exact ⟨by simp, bl_step hB.out h1.out⟩
 | true =>
  have GX := hid (fun u (hu : Below W.heap.size W u) => G2.out rfl u hu)
  clear G2
  cases B1 with
  | false =>
   go_enter Tryz.func25, Tryz.ntmps25
   go_wp2_with (first
    | (go_at_call 43; refine (G0.out _ hcells.out).mono ?_; clear G0; rintro e w1 ⟨rfl, hc1⟩; have h1 := hid (bl_step hcells.out hc1); obtain ⟨y0a, y0b, y0c, y0d, y0e⟩ := hk1.out w1 h1.out; clear hc1)
    | (go_at_call 44; refine (G1.out _ h1.out).mono ?_; clear G1; rintro e w2 ⟨rfl, hc2⟩; have h2 := hid (bl_step h1.out hc2); obtain ⟨y1a, y1b, y1c, y1d, y1e⟩ := hk1.out w2 h2.out; clear hc2))
   go_ret
   exact ⟨by simp, bl_step hB.out h2.out⟩
  | true =>
   cases B2 with
   | false =>
    go_enter Tryz.func25, Tryz.ntmps25
    go_wp2_with (first
     | (go_at_call 43; refine (G0.out _ hcells.out).mono ?_; clear G0; rintro e w1 ⟨rfl, hc1⟩; have h1 := hid (bl_step hcells.out hc1); obtain ⟨y0a, y0b, y0c, y0d, y0e⟩ := hk1.out w1 h1.out; clear hc1)
     | (go_at_call 44; refine (G1.out _ h1.out).mono ?_; clear G1; rintro e w2 ⟨rfl, hc2⟩; have h2 := hid (bl_step h1.out hc2); obtain ⟨y1a, y1b, y1c, y1d, y1e⟩ := hk1.out w2 h2.out; clear hc2)
     | (go_at_call 45; refine (GX.out _ h2.out).mono ?_; clear GX; rintro e w3 ⟨rfl, hc3⟩; have h3 := hid (bl_step h2.out hc3); obtain ⟨y2a, y2b, y2c, y2d, y2e⟩ := hk1.out w3 h3.out; clear hc3))
    go_ret
    exact ⟨by simp, bl_step hB.out h3.out⟩
   | true =>
    cases B3 with
    | false =>
     go_enter Tryz.func25, Tryz.ntmps25
     go_wp2_with (first
      | (go_at_call 43; refine (G0.out _ hcells.out).mono ?_; clear G0; rintro e w1 ⟨rfl, hc1⟩; have h1 := hid (bl_step hcells.out hc1); obtain ⟨y0a, y0b, y0c, y0d, y0e⟩ := hk1.out w1 h1.out; clear hc1)
      | (go_at_call 44; refine (G1.out _ h1.out).mono ?_; clear G1; rintro e w2 ⟨rfl, hc2⟩; have h2 := hid (bl_step h1.out hc2); obtain ⟨y1a, y1b, y1c, y1d, y1e⟩ := hk1.out w2 h2.out; clear hc2)
      | (go_at_call 45; refine (GX.out _ h2.out).mono ?_; clear GX; rintro e w3 ⟨rfl, hc3⟩; have h3 := hid (bl_step h2.out hc3); obtain ⟨y2a, y2b, y2c, y2d, y2e⟩ := hk1.out w3 h3.out; clear hc3)
      | (go_at_call 46; refine (G3.out _ h3.out).mono ?_; clear G3; rintro e w4 ⟨rfl, hc4⟩; have h4 := hid (bl_step h3.out hc4); obtain ⟨y3a, y3b, y3c, y3d, y3e⟩ := hk1.out w4 h4.out; clear hc4))
     go_ret
     exact ⟨by simp, bl_step hB.out h4.out⟩
    | true =>
     cases B4 with
     | false =>
      go_enter Tryz.func25, Tryz.ntmps25
      go_wp2_with (first
       | (go_at_call 43; refine (G0.out _ hcells.out).mono ?_; clear G0; rintro e w1 ⟨rfl, hc1⟩; have h1 := hid (bl_step hcells.out hc1); obtain ⟨y0a, y0b, y0c, y0d, y0e⟩ := hk1.out w1 h1.out; clear hc1)
       | (go_at_call 44; refine (G1.out _ h1.out).mono ?_; clear G1; rintro e w2 ⟨rfl, hc2⟩; have h2 := hid (bl_step h1.out hc2); obtain ⟨y1a, y1b, y1c, y1d, y1e⟩ := hk1.out w2 h2.out; clear hc2)
       | (go_at_call 45; refine (GX.out _ h2.out).mono ?_; clear GX; rintro e w3 ⟨rfl, hc3⟩; have h3 := hid (bl_step h2.out hc3); obtain ⟨y2a, y2b, y2c, y2d, y2e⟩ := hk1.out w3 h3.out; clear hc3)
       | (go_at_call 46; refine (G3.out _ h3.out).mono ?_; clear G3; rintro e w4 ⟨rfl, hc4⟩; have h4 := hid (bl_step h3.out hc4); obtain ⟨y3a, y3b, y3c, y3d, y3e⟩ := hk1.out w4 h4.out; clear hc4)
       | (go_at_call 47; refine (G4.out _ h4.out).mono ?_; clear G4; rintro e w5 ⟨rfl, hc5⟩; have h5 := hid (bl_step h4.out hc5); obtain ⟨y4a, y4b, y4c, y4d, y4e⟩ := hk1.out w5 h5.out; clear hc5))
      go_ret
      exact ⟨by simp, bl_step hB.out h5.out⟩
     | true =>
      cases B5 with
      | false =>
       go_enter Tryz.func25, Tryz.ntmps25
       go_wp2_with (first
        | (go_at_call 43; refine (G0.out _ hcells.out).mono ?_; clear G0; rintro e w1 ⟨rfl, hc1⟩; have h1 := hid (bl_step hcells.out hc1); obtain ⟨y0a, y0b, y0c, y0d, y0e⟩ := hk1.out w1 h1.out; clear hc1)
        | (go_at_call 44; refine (G1.out _ h1.out).mono ?_; clear G1; rintro e w2 ⟨rfl, hc2⟩; have h2 := hid (bl_step h1.out hc2); obtain ⟨y1a, y1b, y1c, y1d, y1e⟩ := hk1.out w2 h2.out; clear hc2)
        | (go_at_call 45; refine (GX.out _ h2.out).mono ?_; clear GX; rintro e w3 ⟨rfl, hc3⟩; have h3 := hid (bl_step h2.out hc3); obtain ⟨y2a, y2b, y2c, y2d, y2e⟩ := hk1.out w3 h3.out; clear hc3)
        | (go_at_call 46; refine (G3.out _ h3.out).mono ?_; clear G3; rintro e w4 ⟨rfl, hc4⟩; have h4 := hid (bl_step h3.out hc4); obtain ⟨y3a, y3b, y3c, y3d, y3e⟩ := hk1.out w4 h4.out; clear hc4)
        | (go_at_call 47; refine (G4.out _ h4.out).mono ?_; clear G4; rintro e w5 ⟨rfl, hc5⟩; have h5 := hid (bl_step h4.out hc5); obtain ⟨y4a, y4b, y4c, y4d, y4e⟩ := hk1.out w5 h5.out; clear hc5)
        | (go_at_call 48; refine (G5.out _ h5.out).mono ?_; clear G5; rintro e w6 ⟨rfl, hc6⟩; have h6 := hid (bl_step h5.out hc6); obtain ⟨y5a, y5b, y5c, y5d, y5e⟩ := hk1.out w6 h6.out; clear hc6))
       go_ret
       exact ⟨by simp, bl_step hB.out h6.out⟩
      | true =>
       go_enter Tryz.func25, Tryz.ntmps25
       go_wp2_with (first
        | (go_at_call 43; refine (G0.out _ hcells.out).mono ?_; clear G0; rintro e w1 ⟨rfl, hc1⟩; have h1 := hid (bl_step hcells.out hc1); obtain ⟨y0a, y0b, y0c, y0d, y0e⟩ := hk1.out w1 h1.out; clear hc1)
        | (go_at_call 44; refine (G1.out _ h1.out).mono ?_; clear G1; rintro e w2 ⟨rfl, hc2⟩; have h2 := hid (bl_step h1.out hc2); obtain ⟨y1a, y1b, y1c, y1d, y1e⟩ := hk1.out w2 h2.out; clear hc2)
        | (go_at_call 45; refine (GX.out _ h2.out).mono ?_; clear GX; rintro e w3 ⟨rfl, hc3⟩; have h3 := hid (bl_step h2.out hc3); obtain ⟨y2a, y2b, y2c, y2d, y2e⟩ := hk1.out w3 h3.out; clear hc3)
        | (go_at_call 46; refine (G3.out _ h3.out).mono ?_; clear G3; rintro e w4 ⟨rfl, hc4⟩; have h4 := hid (bl_step h3.out hc4); obtain ⟨y3a, y3b, y3c, y3d, y3e⟩ := hk1.out w4 h4.out; clear hc4)
        | (go_at_call 47; refine (G4.out _ h4.out).mono ?_; clear G4; rintro e w5 ⟨rfl, hc5⟩; have h5 := hid (bl_step h4.out hc5); obtain ⟨y4a, y4b, y4c, y4d, y4e⟩ := hk1.out w5 h5.out; clear hc5)
        | (go_at_call 48; refine (G5.out _ h5.out).mono ?_; clear G5; rintro e w6 ⟨rfl, hc6⟩; have h6 := hid (bl_step h5.out hc6); obtain ⟨y5a, y5b, y5c, y5d, y5e⟩ := hk1.out w6 h6.out; clear hc6))
       go_ret
       exact ⟨by simp, bl_step hB.out h6.out⟩

end Go.Proofs.YtloaikjealcbmaaGreat
namespace Go.Proofs.YtloaikjealcbmaaGreat
open Go.RowKit Go.Maps Go.Sort

set_option maxRecDepth 20000 in
set_option maxHeartbeats 16000000 in
theorem dfOfNo (g h : Gm) (rv nv lv pv rv' nv' lv' pv' : Value) (w : World) (bg : Bd14 g) (bh : Bd14 h) (hV : GmV w rv nv lv pv g) (hV' : GmV w rv' nv' lv' pv' h) (hno : ¬ (SndG g ∧ SndG h)) :
 Calls Tryz.prog 12 #[gmA rv nv lv pv g.start, gmA rv' nv' lv' pv' h.start] w (OfA g h w) := by
 obtain ⟨W, hW, hB1, hrb, hBx9⟩ := boxes3 w rv nv lv pv rv' nv' lv' pv' g.start h.start
 have hB := hid hB1
 have hBx := hid hBx9
 have G1 := hid (fun u (hu : Below W.heap.size W u) => soundP g rv nv lv pv u (hV.keep (bl_step hB1 hu)) bg.bnd bg.nam)
 have G2 := hid (fun u (hu : Below W.heap.size W u) => soundP h rv' nv' lv' pv' u (hV'.keep (bl_step hB1 hu)) bh.bnd bh.nam)
 obtain ⟨⟨z0, z1, z2, z3, z4⟩, ⟨q0, q1, q2, q3, q4⟩⟩ := hBx.out W (Below.refl _ _)
 have hend : Hid (∀ u, Below W.heap.size W u → OfA g h w (.returned (.tuple #[.agg #[.slice none 0 0, .slice none 0 0, .slice none 0 0, .bool false, .bool false, .bool false], .int .i64 10])) (put6 u (w.heap.size + 1 + 1) (.slice none 0 0) (.slice none 0 0) (.slice none 0 0) (.bool false) (.bool false) (.bool false))) := hid (fun u hu => by
  refine ⟨.slice none 0 0, .slice none 0 0, .slice none 0 0, ?_, ?_, ?_⟩
  · rw [chgG_no hno, chgE_no hno]; rfl
  · rw [chgG_no hno]; exact ⟨Lst.nil _, Nums.nil _, Nums.nil _⟩
  · exact (bl_step hB1 hu).trans ((put6_kept ..).below (fun k e => by rw [show k = w.heap.size + 1 + 1 from e]; omega) (Nat.le_trans hB1.size hu.size)))
 have hrbu : Hid (∀ u, Below W.heap.size W u → u.heap[w.heap.size + 1 + 1]? = some (.cells #[.slice none 0 0, .slice none 0 0, .slice none 0 0, .bool false, .bool false, .bool false] 34)) := hid (fun u hu => hs_keep hrb hu)
 generalize OfA g h w = Q at *
 have hcase : SndG g → ¬ SndG h := fun h1 h2 => hno ⟨h1, h2⟩
 clear hV hV' hB1 hBx9 hrb bg bh hno
 generalize g.start = st at *
 generalize h.start = st' at *
 by_cases hg : SndG g
 · have hh := hcase hg
   rw [soundB_yes hg] at G1
   rw [soundB_no hh] at G2
   clear hcase hg hh
   go_enter Tryz.func12, Tryz.ntmps12
   go_wp2_with (first
    | (go_at_call 25; refine (G1.out W (Below.refl _ _)).mono ?_; clear G1; rintro e w1 ⟨rfl, hc1⟩; have h1 := hid hc1; clear z0 z1 z2 z3 z4 q0 q1 q2 q3 q4 hW; obtain ⟨⟨z0, z1, z2, z3, z4⟩, ⟨q0, q1, q2, q3, q4⟩⟩ := hBx.out w1 hc1; clear hc1)
    | (go_at_call 25; refine (G2.out w1 h1.out).mono ?_; clear G2; rintro e w2 ⟨rfl, hc2⟩; have h2 := hid (bl_step h1.out hc2); clear hc2 z0 z1 z2 z3 z4 q0 q1 q2 q3 q4; obtain ⟨U1, U2, U3, U4, U5, U6, hU1, hU2, hU3, hU4, hU5, hU6, hU7, ⟨j0, f0, j1, f1, j2, f2, j3, f3, j4, f4, j5, f5⟩, ⟨v0, v1, v2, v3, v4, v5⟩⟩ := put6_walk (hrbu.out w2 h2.out) (.slice none 0 0) (.slice none 0 0) (.slice none 0 0) (.bool false) (.bool false) (.bool false); have hfin := hend.out w2 h2.out; rw [hU7] at hfin; have hf9 := hid hfin; clear hfin hU7))
   refine bodyPost_ret (v := .tuple #[.agg #[.slice none 0 0, .slice none 0 0, .slice none 0 0, .bool false, .bool false, .bool false], .int .i64 10]) (by simp [results, Tryz.results12, go_sem, v0, v1, v2, v3, v4, v5]) rfl ?_
   exact hf9.out
 · rw [soundB_no hg] at G1
   clear hcase hg G2
   go_enter Tryz.func12, Tryz.ntmps12
   go_wp2_with (go_at_call 25; refine (G1.out W (Below.refl _ _)).mono ?_; clear G1; rintro e w1 ⟨rfl, hc1⟩; have h1 := hid hc1; clear hc1 z0 z1 z2 z3 z4 q0 q1 q2 q3 q4 hW; obtain ⟨U1, U2, U3, U4, U5, U6, hU1, hU2, hU3, hU4, hU5, hU6, hU7, ⟨j0, f0, j1, f1, j2, f2, j3, f3, j4, f4, j5, f5⟩, ⟨v0, v1, v2, v3, v4, v5⟩⟩ := put6_walk (hrbu.out w1 h1.out) (.slice none 0 0) (.slice none 0 0) (.slice none 0 0) (.bool false) (.bool false) (.bool false); have hfin := hend.out w1 h1.out; rw [hU7] at hfin; have hf9 := hid hfin; clear hfin hU7)
   refine bodyPost_ret (v := .tuple #[.agg #[.slice none 0 0, .slice none 0 0, .slice none 0 0, .bool false, .bool false, .bool false], .int .i64 10]) (by simp [results, Tryz.results12, go_sem, v0, v1, v2, v3, v4, v5]) rfl ?_
   exact hf9.out
theorem rulB_dec (a b : List Rl) : decide (a = b) = rulB a b := by
 by_cases e : a = b
 · rw [rulB_yes e, decide_eq_true e]
 · rw [rulB_no e, decide_eq_false e]
/-- the change that Of fills in -/
structure BxQ (w3 V : World) (q : Nat) (kv gv nv : Value) (a b s : Bool) : Prop where
 blk : V.heap[q]? = some (.cells #[kv, gv, nv, .bool a, .bool b, .bool s] 34)
 low : w3.heap.size ≤ q
 bel : Below w3.heap.size w3 V
theorem BxQ.keep {w3 V u : World} {q : Nat} {kv gv nv : Value} {a b s : Bool} (h : BxQ w3 V q kv gv nv a b s) (hu : Below V.heap.size V u) : BxQ w3 u q kv gv nv a b s := ⟨hs_keep h.blk hu, h.low, bl_step h.bel hu⟩
theorem BxQ.set3 {w3 V : World} {q : Nat} {kv gv nv : Value} {a b s : Bool} (h : BxQ w3 V q kv gv nv a b s) (a' : Bool) : BxQ w3 (V.setCell ⟨q, 3, none⟩ (.bool a')) q kv gv nv a' b s := ⟨by rw [heap_setCell h.blk]; rfl, h.low, bl_set h.bel _ _ _ h.low⟩
theorem BxQ.set4 {w3 V : World} {q : Nat} {kv gv nv : Value} {a b s : Bool} (h : BxQ w3 V q kv gv nv a b s) (b' : Bool) : BxQ w3 (V.setCell ⟨q, 4, none⟩ (.bool b')) q kv gv nv a b' s := ⟨by rw [heap_setCell h.blk]; rfl, h.low, bl_set h.bel _ _ _ h.low⟩
theorem BxQ.set5 {w3 V : World} {q : Nat} {kv gv nv : Value} {a b s : Bool} (h : BxQ w3 V q kv gv nv a b s) (s' : Bool) : BxQ w3 (V.setCell ⟨q, 5, none⟩ (.bool s')) q kv gv nv a b s' := ⟨by rw [heap_setCell h.blk]; rfl, h.low, bl_set h.bel _ _ _ h.low⟩
theorem BxQ.cells {w3 V : World} {q : Nat} {kv gv nv : Value} {a b s : Bool} (h : BxQ w3 V q kv gv nv a b s) : V.cell? ⟨q, 0, none⟩ = some kv ∧ V.cell? ⟨q, 1, none⟩ = some gv ∧ V.cell? ⟨q, 2, none⟩ = some nv ∧ V.cell? ⟨q, 3, none⟩ = some (.bool a) ∧ V.cell? ⟨q, 4, none⟩ = some (.bool b) ∧ V.cell? ⟨q, 5, none⟩ = some (.bool s) ∧ ∀ o, V.frozen? ⟨q, o, none⟩ = false := ⟨blk_cell h.blk rfl, blk_cell h.blk rfl, blk_cell h.blk rfl, blk_cell h.blk rfl, blk_cell h.blk rfl, blk_cell h.blk rfl, fun o => blk_frozen h.blk o⟩
theorem collapseW1 {R F : World → Prop} {G : Prop} (h : (∀ V, F V → R V) → G) (pf : ∀ V, F V → R V) : G := h pf
theorem collapseW2 {R : World → Nat → Nat → Prop} {F : World → Prop} {G : Prop} (h : (∀ V m1 m2, F V → R V m1 m2) → G) (pf : ∀ V m1 m2, F V → R V m1 m2) : G := h pf
theorem lvK_shape {g : Gm} {k : Nat} {D : HDat} (h : LvK g k D) : ∀ t : Txt, Maps.has D (kyT t) = true → ∃ l : Int × Int, ∀ z, D.atKey (kyT t) z = .held (lvV l) := fun t ht => by
 obtain ⟨i, h1, h2, rfl⟩ := h.yes t ht
 exact ⟨_, h.elm i h1 h2⟩
set_option maxRecDepth 20000 in
set_option maxHeartbeats 16000000 in
theorem dfOfYes (g h : Gm) (rv nv lv pv rv' nv' lv' pv' : Value) (w : World) (bg : Bd14 g) (bh : Bd14 h) (hV : GmV w rv nv lv pv g) (hV' : GmV w rv' nv' lv' pv' h) (hg : SndG g) (hh : SndG h) :
 Calls Tryz.prog 12 #[gmA rv nv lv pv g.start, gmA rv' nv' lv' pv' h.start] w (OfA g h w) := by
 obtain ⟨W, hW, hB1, hrb, hBx9⟩ := boxes3 w rv nv lv pv rv' nv' lv' pv' g.start h.start
 have hB := hid hB1
 have hBx := hid hBx9
 have G1 := hid (fun u (hu : Below W.heap.size W u) => soundP g rv nv lv pv u (hV.keep (bl_step hB1 hu)) bg.bnd bg.nam)
 have G2 := hid (fun u (hu : Below W.heap.size W u) => soundP h rv' nv' lv' pv' u (hV'.keep (bl_step hB1 hu)) bh.bnd bh.nam)
 rw [soundB_yes hg] at G1
 rw [soundB_yes hh] at G2
 have GP := hid (fun u (hu : Below W.heap.size W u) => diffPrC g h rv nv lv pv rv' nv' lv' pv' u (hV.keep (bl_step hB1 hu)) (hV'.keep (bl_step hB1 hu)) bg.bnd bh.bnd hg hh)
 have GR := hid (fun u (hu : Below W.heap.size W u) => sameRulesC g h rv nv lv pv rv' nv' lv' pv' u (hV.keep (bl_step hB1 hu)) (hV'.keep (bl_step hB1 hu)) bg.bnd bh.bnd)
 rw [rulB_dec] at GR
 have GL := hid (fun u (hu : Below W.heap.size W u) => levsMapC g rv nv lv pv u (hV.keep (bl_step hB1 hu)) hg bg.bnd)
 have GL' := hid (fun u (hu : Below W.heap.size W u) => levsMapC h rv' nv' lv' pv' u (hV'.keep (bl_step hB1 hu)) hh bh.bnd)
 have GE : Hid (∀ (m1 m2 : Nat) (D1 D2 : HDat) (u : World), HMp u m1 1000 D1 → HMp u m2 1000 D2 → LvK g (g.terms + 1) D1 → LvK h (h.terms + 1) D2 → Calls Tryz.prog 27 #[.map (some m1), .map (some m2)] u fun e w' => e = .returned (.bool (insB g h && insB h g)) ∧ Below u.heap.size u w') := hid (fun m1 m2 D1 D2 u h1 h2 k1 k2 => by
  rw [← lvEq_ins hg.once hh.once k1 k2]
  exact mapsEqC m1 m2 1000 1000 D1 D2 u h1 h2 (lvK_shape k1) (lvK_shape k2))
 have hsg : g.start ≤ 9223372036854775807 := by
  have h1 := hg.none; have h2 := hg.start; have h3 := hg.rules; have h4 := hg.nonts; have h5 := terms_leD g
  have ha : g.all = g.terms + g.nonts.length := rfl
  omega
 have hsh : h.start ≤ 9223372036854775807 := by
  have h1 := hh.none; have h2 := hh.start; have h3 := hh.rules; have h4 := hh.nonts; have h5 := terms_leD h
  have ha : h.all = h.terms + h.nonts.length := rfl
  omega
 have GN := hid (fun u (hu : Below W.heap.size W u) => gNameC g g.start rv nv lv pv u (hV.keep (bl_step hB1 hu)) hsg bg.bnd (by have := hg.nm9 g.start; omega))
 have GN' := hid (fun u (hu : Below W.heap.size W u) => gNameC h h.start rv' nv' lv' pv' u (hV'.keep (bl_step hB1 hu)) hsh bh.bnd (by have := hh.nm9 h.start; omega))
 have hrbl : w.heap.size + 1 + 1 < W.heap.size := blk_lt hrb
 have hrbu : Hid (∀ u, Below W.heap.size W u → u.heap[w.heap.size + 1 + 1]? = some (.cells #[.slice none 0 0, .slice none 0 0, .slice none 0 0, .bool false, .bool false, .bool false] 34)) := hid (fun u hu => hs_keep hrb hu)
 have hend : Hid (∀ u3 V U q kv gv nv2, Below W.heap.size W u3 → (OwnP u3 W.heap.size kv (dfPrs (txtsG g) (txtsG h)) ∧ Own u3 W.heap.size gv (dfGone (txtsG g) (txtsG h)) ∧ Own u3 W.heap.size nv2 (dfNew (txtsG g) (txtsG h))) → BxQ u3 V q kv gv nv2 (!rulB g.rules h.rules) (!(insB g h && insB h g)) (!decide (g.name g.start = h.name h.start)) → Kept (oneBlk (w.heap.size + 1 + 1)) V U →
  OfA g h w (.returned (.tuple #[.agg #[kv, gv, nv2, .bool (!rulB g.rules h.rules), .bool (!(insB g h && insB h g)), .bool (!decide (g.name g.start = h.name h.start))], .int .i64 0])) U) := hid (fun u3 V U q kv gv nv2 hu ⟨h1, h2, h3⟩ hq hk => by
  have hne : ∀ k, W.heap.size ≤ k → ¬ oneBlk (w.heap.size + 1 + 1) k := fun k h9 e => by have : k = w.heap.size + 1 + 1 := e; omega
  have p1 := own_below h1 hq.bel
  have p2 := own_below h2 hq.bel
  have p3 := own_below h3 hq.bel
  have hWV := bl_step hu hq.bel
  refine ⟨kv, gv, nv2, ?_, ?_, (bl_step hB1 hWV).trans (hk.below (fun k e => by rw [show k = w.heap.size + 1 + 1 from e]; omega) (Nat.le_trans hB1.size hWV.size))⟩
  · rw [chgG_yes hg hh, chgE_yes hg hh, Bool.not_and]; rfl
  · rw [chgG_yes hg hh]
    exact ⟨Prs.of_row (own_keep p1 fun k e => hk.block k (p1.lt k e).2 (hne k (p1.lt k e).1)), Nums.of_row (own_keep p2 fun k e => hk.block k (p2.lt k e).2 (hne k (p2.lt k e).1)), Nums.of_row (own_keep p3 fun k e => hk.block k (p3.lt k e).2 (hne k (p3.lt k e).1))⟩)
 have hDD := strT_beqT (g.name g.start) (h.name h.start)
 generalize strT (g.name g.start) = S1 at *
 generalize strT (h.name h.start) = S2 at *
 generalize decide (g.name g.start = h.name h.start) = DD at *
 obtain ⟨⟨z0, z1, z2, z3, z4⟩, ⟨q0, q1, q2, q3, q4⟩⟩ := hBx.out W (Below.refl _ _)
 generalize OfA g h w = Q at *
 clear hV hV' hB1 hBx9 bg bh hg hh hrb hsg hsh
 generalize g.start = st at *
 generalize h.start = st' at *
 generalize txtsG g = TG at *
 generalize txtsG h = TH at *
 generalize rulB g.rules h.rules = B1 at *
 generalize (insB g h && insB h g) = I1 at *
 go_enter Tryz.func12, Tryz.ntmps12
 go_wp2_with (first
  | (go_at_call 25; refine (G1.out W (Below.refl _ _)).mono ?_; clear G1; rintro e w1 ⟨rfl, hc1⟩; have h1 := hid hc1; clear z0 z1 z2 z3 z4 q0 q1 q2 q3 q4 hW; obtain ⟨⟨z0, z1, z2, z3, z4⟩, ⟨q0, q1, q2, q3, q4⟩⟩ := hBx.out w1 hc1; clear hc1)
  | (go_at_call 25; refine (G2.out w1 h1.out).mono ?_; clear G2; rintro e w2 ⟨rfl, hc2⟩; have h2 := hid (bl_step h1.out hc2); clear h1 hc2 z0 z1 z2 z3 z4 q0 q1 q2 q3 q4; obtain ⟨⟨z0, z1, z2, z3, z4⟩, ⟨q0, q1, q2, q3, q4⟩⟩ := hBx.out w2 h2.out)
  | (go_at_call 26; refine (GP.out w2 h2.out).mono ?_; clear GP; rintro e w3 ⟨kv, gv, nv2, rfl, hO3, hc3⟩; have h3 := hid (bl_step h2.out hc3); have hO := hid (show OwnP w3 W.heap.size kv _ ∧ Own w3 W.heap.size gv _ ∧ Own w3 W.heap.size nv2 _ from ⟨own_base hO3.1 h2.out.size, own_base hO3.2.1 h2.out.size, own_base hO3.2.2 h2.out.size⟩); clear h2 hc3 z0 z1 z2 z3 z4 q0 q1 q2 q3 q4; obtain ⟨ka, kc, rfl⟩ := (Prs.of_row hO3.1).shape; obtain ⟨ga, gc, rfl, -⟩ := Nums.of_row hO3.2.1; obtain ⟨na, nc, rfl, -⟩ := Nums.of_row hO3.2.2; clear hO3; have hq3 := hid (show BxQ w3 (w3.alloc (.cells #[.slice ka (dfPrs TG TH).length kc, .slice ga (dfGone TG TH).length gc, .slice na (dfNew TG TH).length nc, .bool false, .bool false, .bool false] 34)) w3.heap.size (.slice ka (dfPrs TG TH).length kc) (.slice ga (dfGone TG TH).length gc) (.slice na (dfNew TG TH).length nc) false false false from ⟨heap_new w3 _, Nat.le_refl _, al' w3 _⟩); obtain ⟨⟨z0, z1, z2, z3, z4⟩, ⟨q0, q1, q2, q3, q4⟩⟩ := hBx.out (w3.alloc (.cells #[.slice ka (dfPrs TG TH).length kc, .slice ga (dfGone TG TH).length gc, .slice na (dfNew TG TH).length nc, .bool false, .bool false, .bool false] 34)) (bl_step h3.out hq3.out.bel))
  | (go_at_call 18; refine (GR.out (w3.alloc (.cells #[.slice ka (dfPrs TG TH).length kc, .slice ga (dfGone TG TH).length gc, .slice na (dfNew TG TH).length nc, .bool false, .bool false, .bool false] 34)) (bl_step h3.out hq3.out.bel)).mono ?_; clear GR; rintro e w4 ⟨rfl, hc4⟩; have hq4 := hid (hq3.out.keep hc4); clear hc4 hq3 z0 z1 z2 z3 z4 q0 q1 q2 q3 q4; obtain ⟨-, -, -, c3, -, -, cf⟩ := hq4.out.cells; have cf3 := cf 3; clear cf; obtain ⟨U4, hU4⟩ : ∃ x, w4.setCell ⟨w3.heap.size, 3, none⟩ (.bool (!B1)) = x := ⟨_, rfl⟩; have hq5 := hid (show BxQ w3 U4 w3.heap.size (.slice ka (dfPrs TG TH).length kc) (.slice ga (dfGone TG TH).length gc) (.slice na (dfNew TG TH).length nc) (!B1) false false from by rw [← hU4]; exact hq4.out.set3 (!B1)); clear hq4))
 clear c3 cf3 hU4
 generalize (dfPrs TG TH).length = np at *
 generalize (dfGone TG TH).length = ng at *
 generalize (dfNew TG TH).length = nn at *
 have hcur := hid (show BxQ w3 U4.drew w3.heap.size (.slice ka np kc) (.slice ga ng gc) (.slice na nn nc) (!B1) false false from hq5.out.keep ((Below.refl _ U4).drew))
 clear hq5
 obtain ⟨⟨z0, z1, z2, z3, z4⟩, ⟨q0, q1, q2, q3, q4⟩⟩ := hBx.out U4.drew (bl_step h3.out hcur.out.bel)
 apply collapseW2 (F := fun V => BxQ w3 V w3.heap.size (.slice ka np kc) (.slice ga ng gc) (.slice na nn nc) (!B1) (!I1) false)
 case h =>
  intro rest
  go_region_held3 (fun w' => w'.cell? ⟨w.heap.size, 0, none⟩ = some rv ∧ w'.cell? ⟨w.heap.size, 1, none⟩ = some nv ∧ w'.cell? ⟨w.heap.size, 2, none⟩ = some lv ∧ w'.cell? ⟨w.heap.size, 3, none⟩ = some pv ∧ w'.cell? ⟨w.heap.size, 4, none⟩ = some (.int .i64 st) ∧ w'.cell? ⟨w.heap.size + 1, 0, none⟩ = some rv' ∧ w'.cell? ⟨w.heap.size + 1, 1, none⟩ = some nv' ∧ w'.cell? ⟨w.heap.size + 1, 2, none⟩ = some lv' ∧ w'.cell? ⟨w.heap.size + 1, 3, none⟩ = some pv' ∧ w'.cell? ⟨w.heap.size + 1, 4, none⟩ = some (.int .i64 st')) (go_keep) ((first
   | (go_at_call_of 28 rv; refine (GL.out _ (bl_step h3.out hcur.out.bel)).mono ?_; rintro e u5 ⟨m1, D1, rfl, hM1, hK1, hc⟩; have hn := hid (hcur.out.keep hc); have hMA := hid hM1; have hKA := hid hK1; have hn2 := hid (HMp.below hMB.out hc); clear hMB; have hMB := hn2; clear hn2; clear hM1 hK1 hc; have hcur := hn; clear hn; obtain ⟨⟨z0, z1, z2, z3, z4⟩, ⟨q0, q1, q2, q3, q4⟩⟩ := hBx.out u5 (bl_step h3.out hcur.out.bel))
   | (go_at_call_of 28 rv; refine (GL.out _ (bl_step h3.out hcur.out.bel)).mono ?_; rintro e u5 ⟨m1, D1, rfl, hM1, hK1, hc⟩; have hn := hid (hcur.out.keep hc); have hMA := hid hM1; have hKA := hid hK1; clear hM1 hK1 hc; have hcur := hn; clear hn; obtain ⟨⟨z0, z1, z2, z3, z4⟩, ⟨q0, q1, q2, q3, q4⟩⟩ := hBx.out u5 (bl_step h3.out hcur.out.bel))
   | (go_at_call_of 28 rv'; refine (GL'.out _ (bl_step h3.out hcur.out.bel)).mono ?_; rintro e u6 ⟨m2, D2, rfl, hM2, hK2, hc⟩; have hn := hid (hcur.out.keep hc); have hMB := hid hM2; have hKB := hid hK2; have hn2 := hid (HMp.below hMA.out hc); clear hMA; have hMA := hn2; clear hn2; clear hM2 hK2 hc; have hcur := hn; clear hn; obtain ⟨⟨z0, z1, z2, z3, z4⟩, ⟨q0, q1, q2, q3, q4⟩⟩ := hBx.out u6 (bl_step h3.out hcur.out.bel))
   | (go_at_call_of 28 rv'; refine (GL'.out _ (bl_step h3.out hcur.out.bel)).mono ?_; rintro e u6 ⟨m2, D2, rfl, hM2, hK2, hc⟩; have hn := hid (hcur.out.keep hc); have hMB := hid hM2; have hKB := hid hK2; clear hM2 hK2 hc; have hcur := hn; clear hn; obtain ⟨⟨z0, z1, z2, z3, z4⟩, ⟨q0, q1, q2, q3, q4⟩⟩ := hBx.out u6 (bl_step h3.out hcur.out.bel))
   | (go_at_call 27; refine (GE.out _ _ _ _ _ hMA.out hMB.out hKA.out hKB.out).mono ?_; rintro e u7 ⟨rfl, hc⟩; have hn := hid (hcur.out.keep hc); clear hc; have hcur := hn; clear hn; obtain ⟨-, -, -, -, c4, -, cf⟩ := hcur.out.cells; have cf4 := cf 4; clear cf; obtain ⟨⟨z0, z1, z2, z3, z4⟩, ⟨q0, q1, q2, q3, q4⟩⟩ := hBx.out u7 (bl_step h3.out hcur.out.bel); obtain ⟨U7, hU7⟩ : ∃ x, u7.setCell ⟨w3.heap.size, 4, none⟩ (.bool (!I1)) = x := ⟨_, rfl⟩; have hq7 := hid (show BxQ w3 U7 w3.heap.size (.slice ka np kc) (.slice ga ng gc) (.slice na nn nc) (!B1) (!I1) false from by rw [← hU7]; exact hcur.out.set4 (!I1)); obtain ⟨⟨x0, x1, x2, x3, x4⟩, ⟨y0, y1, y2, y3, y4⟩⟩ := hBx.out U7 (bl_step h3.out hq7.out.bel))))
  all_goals exact rest U7 m1 m2 hq7.out
 case pf =>
  intro V m1 m2 hq
  have hcur := hid (show BxQ w3 V.drew w3.heap.size (.slice ka np kc) (.slice ga ng gc) (.slice na nn nc) (!B1) (!I1) false from hq.keep ((Below.refl _ V).drew))
  clear hq
  obtain ⟨⟨z0, z1, z2, z3, z4⟩, ⟨q0, q1, q2, q3, q4⟩⟩ := hBx.out V.drew (bl_step h3.out hcur.out.bel)
  go_wp2_with fail
  apply collapseW1 (F := fun V => BxQ w3 V w3.heap.size (.slice ka np kc) (.slice ga ng gc) (.slice na nn nc) (!B1) (!I1) (!DD))
  case h =>
   intro rest
   go_region_held3 (fun w' => w'.cell? ⟨w.heap.size, 0, none⟩ = some rv ∧ w'.cell? ⟨w.heap.size, 1, none⟩ = some nv ∧ w'.cell? ⟨w.heap.size, 2, none⟩ = some lv ∧ w'.cell? ⟨w.heap.size, 3, none⟩ = some pv ∧ w'.cell? ⟨w.heap.size, 4, none⟩ = some (.int .i64 st) ∧ w'.cell? ⟨w.heap.size + 1, 0, none⟩ = some rv' ∧ w'.cell? ⟨w.heap.size + 1, 1, none⟩ = some nv' ∧ w'.cell? ⟨w.heap.size + 1, 2, none⟩ = some lv' ∧ w'.cell? ⟨w.heap.size + 1, 3, none⟩ = some pv' ∧ w'.cell? ⟨w.heap.size + 1, 4, none⟩ = some (.int .i64 st')) (go_keep) ((first
    | (go_at_call_of 29 rv; refine (GN.out _ (bl_step h3.out hcur.out.bel)).mono ?_; rintro e u5 ⟨rfl, hc⟩; have hn := hid (hcur.out.keep hc); clear hc; have hcur := hn; clear hn; obtain ⟨⟨z0, z1, z2, z3, z4⟩, ⟨q0, q1, q2, q3, q4⟩⟩ := hBx.out u5 (bl_step h3.out hcur.out.bel); obtain ⟨-, -, -, -, -, c5, cf⟩ := hcur.out.cells; have cf5 := cf 5; clear cf; obtain ⟨U7, hU7⟩ : ∃ x, u5.setCell ⟨w3.heap.size, 5, none⟩ (.bool (!DD)) = x := ⟨_, rfl⟩; have hq7 := hid (show BxQ w3 U7 w3.heap.size (.slice ka np kc) (.slice ga ng gc) (.slice na nn nc) (!B1) (!I1) (!DD) from by rw [← hU7]; exact hcur.out.set5 (!DD)); obtain ⟨⟨x0, x1, x2, x3, x4⟩, ⟨y0, y1, y2, y3, y4⟩⟩ := hBx.out U7 (bl_step h3.out hq7.out.bel))
    | (go_at_call_of 29 rv'; refine (GN'.out _ (bl_step h3.out hcur.out.bel)).mono ?_; rintro e u6 ⟨rfl, hc⟩; have hn := hid (hcur.out.keep hc); clear hc; have hcur := hn; clear hn; obtain ⟨⟨z0, z1, z2, z3, z4⟩, ⟨q0, q1, q2, q3, q4⟩⟩ := hBx.out u6 (bl_step h3.out hcur.out.bel); obtain ⟨-, -, -, -, -, c5, cf⟩ := hcur.out.cells; have cf5 := cf 5; clear cf; obtain ⟨U7, hU7⟩ : ∃ x, u6.setCell ⟨w3.heap.size, 5, none⟩ (.bool (!DD)) = x := ⟨_, rfl⟩; have hq7 := hid (show BxQ w3 U7 w3.heap.size (.slice ka np kc) (.slice ga ng gc) (.slice na nn nc) (!B1) (!I1) (!DD) from by rw [← hU7]; exact hcur.out.set5 (!DD)); obtain ⟨⟨x0, x1, x2, x3, x4⟩, ⟨y0, y1, y2, y3, y4⟩⟩ := hBx.out U7 (bl_step h3.out hq7.out.bel))))
   all_goals exact rest U7 hq7.out
  case pf =>
   intro U hqU
   obtain ⟨c0, c1, c2, c3, c4, c5, -⟩ := hqU.cells
   obtain ⟨U1, U2, U3, U4', U5, U6, hU1, hU2, hU3, hU4, hU5, hU6, hU7, ⟨j0, f0, j1, f1, j2, f2, j3, f3, j4, f4, j5, f5⟩, ⟨v0, v1, v2, v3, v4, v5⟩⟩ := put6_walk (hrbu.out U (bl_step h3.out hqU.bel)) (.slice ka np kc) (.slice ga ng gc) (.slice na nn nc) (.bool (!B1)) (.bool (!I1)) (.bool (!DD))
   have hf9 := hid (hend.out w3 U U6 w3.heap.size _ _ _ h3.out hO.out hqU (by rw [← hU7]; exact put6_kept ..))
   clear hqU hU7
   go_wp2
   refine bodyPost_ret (v := .tuple #[.agg #[.slice ka np kc, .slice ga ng gc, .slice na nn nc, .bool (!B1), .bool (!I1), .bool (!DD)], .int .i64 0]) (by simp [results, Tryz.results12, go_sem, v0, v1, v2, v3, v4, v5]) rfl ?_
   exact hf9.out
theorem dfOK : DfOK where
 same g h rv nv lv pv rv' nv' lv' pv' u bg bh hV hV' := by
  exact sameC g h rv nv lv pv rv' nv' lv' pv' u hV hV' bg.bnd bh.bnd
 of g h rv nv lv pv rv' nv' lv' pv' u bg bh hV hV' := by
  by_cases k : SndG g ∧ SndG h
  · exact dfOfYes g h rv nv lv pv rv' nv' lv' pv' u bg bh hV hV' k.1 k.2
  · exact dfOfNo g h rv nv lv pv rv' nv' lv' pv' u bg bh hV hV' k

end Go.Proofs.YtloaikjealcbmaaGreat
namespace Go.Proofs.YtloaikjealcbmaaGreat

structure SameR (a b : RS) : Prop where
 rules : b.rules = a.rules
 nonts : b.nonts = a.nonts
 err : b.err = 0 → a.err = 0
theorem SameR.refl (a : RS) : SameR a a := ⟨rfl, rfl, id⟩
theorem SameR.trans {a b c : RS} (h : SameR a b) (g : SameR b c) : SameR a c := ⟨g.rules.trans h.rules, g.nonts.trans h.nonts, fun e => h.err (g.err e)⟩
theorem SameL.r {a b : RS} (h : SameL a b) : SameR a b := ⟨h.rules, h.nonts, h.err⟩
theorem SameR.take (st : RS) (b : Bool) : SameR st (st.take b) := (SameL.take st b).r
theorem SameR.full (st : RS) (b : Bool) (p : Nat) : SameR st (st.full b p) := (SameL.full st b p).r
theorem SameR.thn (st : RS) (s : Stp) : SameR st (st.thn s) := ⟨rfl, rfl, id⟩
theorem SameR.lvds (p s : Nat) : ∀ (n : Nat) (st : RS), SameR st (RS.lvds p s n st)
 | 0, st => SameR.refl st
 | n + 1, st => by
  rw [RS.lvds]
  split
  · exact ((SameR.take _ _).trans (SameR.thn _ _)).trans (SameR.lvds p s n (st.lvd p s))
  · exact SameR.refl st
theorem SameR.level (st : RS) : SameR st st.level := by
 have h1 : SameR st st.lv1 := ⟨rfl, rfl, id⟩
 unfold RS.level
 exact (((h1.trans (SameR.take _ _)).trans ((SameR.take _ _).trans (SameR.thn _ _))).trans (SameR.lvds _ _ _ _)).trans (SameR.take _ _)
theorem SameR.start (st : RS) : SameR st st.start := by
 have h1 : SameR st st.st1 := ⟨rfl, rfl, id⟩
 unfold RS.start
 exact ((((h1.trans (SameR.take _ _)).trans (SameR.thn _ _)).trans (SameR.take _ _)).trans (SameR.take _ _)).trans (SameR.thn _ _)
theorem SameR.syms (pr : Nat) : ∀ (f n : Nat) (st : RS), SameR st (RS.syms pr f n st)
 | 0, _, st => SameR.refl st
 | f + 1, n, st => by
  rw [RS.syms]
  split
  · exact (((SameR.full _ _ _).trans (SameR.take _ _)).trans (SameR.thn _ _)).trans (SameR.syms pr f (n + 1) ((st.full (decide (n = 8)) st.hd.2.1).symb pr))
  · exact SameR.refl st
theorem SameR.alt (st : RS) : SameR st st.alt := by
 have h1 : SameR st st.alt1 := (SameR.full st (decide (st.prods.length = 40) && st.inA) st.hd.2.1).trans ⟨rfl, rfl, id⟩
 unfold RS.alt RS.pct
 split
 · exact (((h1.trans (SameR.syms _ _ _ _)).trans (SameR.take _ _)).trans (SameR.take _ _)).trans (SameR.thn _ _)
 · exact h1.trans (SameR.syms _ _ _ _)
theorem SameR.alts : ∀ (f : Nat) (st : RS), SameR st (RS.alts f st)
 | 0, st => SameR.refl st
 | f + 1, st => by
  rw [RS.alts]
  split
  · exact ((SameR.take _ _).trans (SameR.alt _)).trans (SameR.alts f _)
  · exact SameR.refl st
abbrev Wd16 (x : Wd) : Prop := x.1 = 1 → x.2.2.length ≤ 16
def NmI (st : RS) : Prop := st.err = 0 → (∀ r ∈ st.rules, r.name.length ≤ 16) ∧ ∀ t ∈ st.nonts, t.length ≤ 16
theorem NmI.same {a b : RS} (h : NmI a) (m : SameR a b) : NmI b := fun e => by rw [m.rules, m.nonts]; exact h (m.err e)
theorem atN_one {st : RS} (h : st.atN = true) : st.hd.1 = 1 := by
 unfold RS.atN at h
 simp only [Bool.and_eq_true, decide_eq_true_eq] at h
 exact h.1
theorem NmI.rule {st : RS} (h : NmI st) (hi : Inv Wd16 st) : NmI st.rule := by
 intro e
 have i1 : Inv Wd16 st.rule1 := (hi.take true).full _ _
 have hx := i1.hd (fun e => by cases e)
 have m : SameL st (st.rule1.tkN.cells.tkS [59]) := (((SameL.rule1 st).trans (SameL.tkN _)).trans (SameL.cells _)).trans (SameL.tkS _ _)
 unfold RS.rule RS.rule2 at e ⊢
 generalize hd : st.rule1.hd = x at e hx ⊢
 have e4 : (st.rule1.tkN.cells.tkS [59]).err = 0 := by
  have e' : (((st.rule1.tkN.cells.tkS [59]).addR ⟨x.2.2, (rxA st.rule1.tkN.hd.2.2).1, decide (st.hd.2.2 = kSkip)⟩).addW x (decide (st.hd.2.2 = kSkip))).err = 0 := e
  rw [addW_err] at e'
  exact e'
 obtain ⟨-, e3⟩ := take_err e4
 obtain ⟨-, e3'⟩ := fail_err e3
 obtain ⟨-, e2⟩ := take_err e3'
 obtain ⟨hN, -⟩ := take_err e2
 have h1 := atN_one hN
 rw [hd] at h1
 obtain ⟨a, b⟩ := h (m.err e4)
 have hr : ∀ r' ∈ (st.rule1.tkN.cells.tkS [59]).rules ++ [⟨x.2.2, (rxA st.rule1.tkN.hd.2.2).1, decide (st.hd.2.2 = kSkip)⟩], r'.name.length ≤ 16 := fun r' hr => by
  rw [List.mem_append, List.mem_singleton] at hr
  rcases hr with hr | rfl
  · rw [m.rules] at hr; exact a r' hr
  · exact hx h1
 have hn : ∀ t ∈ (st.rule1.tkN.cells.tkS [59]).nonts, t.length ≤ 16 := by rw [m.nonts]; exact b
 unfold RS.addW
 split
 · exact ⟨hr, hn⟩
 · exact ⟨hr, hn⟩
theorem NmI.nont {st : RS} (h : NmI st) (hi : Inv Wd16 st) : NmI st.nont := by
 have hx := hi.hd (fun e => by cases e)
 have m : SameL st ((st.tkN.full (decide (st.nonts.length = 16)) st.hd.2.1).tkS [58]) := ((SameL.take _ _).trans (SameL.full _ _ _)).trans (SameL.take _ _)
 have h0 : NmI st.nont0 := by
  intro e
  have e3 : ((st.tkN.full (decide (st.nonts.length = 16)) st.hd.2.1).tkS [58]).err = 0 := e
  obtain ⟨-, e2⟩ := take_err e3
  obtain ⟨-, e1⟩ := full_err e2
  obtain ⟨hN, e0⟩ := take_err e1
  obtain ⟨a, b⟩ := h e0
  refine ⟨?_, fun t ht => ?_⟩
  · show ∀ r ∈ ((st.tkN.full (decide (st.nonts.length = 16)) st.hd.2.1).tkS [58]).rules, r.name.length ≤ 16
    rw [m.rules]; exact a
  · have ht : t ∈ ((st.tkN.full (decide (st.nonts.length = 16)) st.hd.2.1).tkS [58]).nonts ++ [st.hd.2.2] := ht
    rw [List.mem_append, List.mem_singleton, m.nonts] at ht
    rcases ht with ht | rfl
    · exact b t ht
    · exact hx (atN_one hN)
 exact ((h0.same (SameR.alt _)).same (SameR.alts _ _)).same (SameR.take _ _)
theorem NmI.item {st : RS} (h : NmI st) (hi : Inv Wd16 st) : NmI st.item := by
 unfold RS.item
 split
 · exact h.same (SameL.give _ _ (by decide)).r
 · split
   · exact h.rule hi
   · split
     · exact h.same (SameR.start st)
     · split
       · exact h.same (SameR.level st)
       · exact h.nont hi
theorem NmI.items : ∀ (f : Nat) (st : RS), NmI st → Inv Wd16 st → NmI (RS.items f st)
 | 0, _, h, _ => h
 | f + 1, st, h, hi => by
  rw [RS.items]
  split
  · exact NmI.items f _ (h.item hi) (Inv.item (fun e => by cases e) hi)
  · exact h
theorem endL_let {u : Txt} {n : Nat} (h : endL u = some n) (hl : letB (u.headD 0).toNat = true) : n ≤ 16 := by
 cases u with
 | nil => cases h
 | cons c r =>
  have hl : letB c.toNat = true := hl
  rw [endL] at h
  split at h
  · injection h with h; omega
  · split at h
    · cases h
    · injection h with h; omega
theorem wdOf_16 {T : Txt} {a n : Nat} (h : endL (T.drop a) = some n) : Wd16 (wdOf T a n) := by
 intro h1
 have hl : letB ((T.drop a).headD 0).toNat = true := by
  have h1 : kndW ((T.drop a).headD 0).toNat = 1 := h1
  unfold kndW at h1
  split at h1
  · assumption
  · split at h1 <;> cases h1
 have hn := endL_let h hl
 rw [wdOf_name rfl hl]
 show ((T.drop a).take n).length ≤ 16
 rw [List.length_take]; omega
theorem wrdR_16 (T : Txt) : ∀ (f a : Nat) (l : List Wd), (∀ x ∈ l, Wd16 x) → ∀ x ∈ (wrdR T f a l).1, Wd16 x
 | 0, _, _, h => h
 | f + 1, a, l, h => by
  rw [wrdR]
  split
  · exact h
  · split
    · exact fun x hx => absurd hx List.not_mem_nil
    · rename_i n hn
      refine wrdR_16 T f _ _ (fun x hx => ?_)
      rw [List.mem_append, List.mem_singleton] at hx
      rcases hx with hx | rfl
      · exact h x hx
      · exact wdOf_16 hn
theorem wsE_16 (s : Txt) : ∀ x ∈ wsE s, Wd16 x := fun x hx => by
 unfold wsE at hx
 rw [List.mem_append, List.mem_singleton] at hx
 rcases hx with hx | rfl
 · unfold wrdA at hx
   split at hx
   · exact absurd hx List.not_mem_nil
   · exact wrdR_16 s _ _ [] (fun x hx => absurd hx List.not_mem_nil) x hx
 · exact fun e => by cases e
theorem setL_start_le {F : Txt → Ow} {a b : Nat} (hF : ∀ t, OwG a b (F t)) : ∀ (l : List Stp) (f : FS), f.start ≤ (b : Int) → (setL F l f).start ≤ (b : Int)
 | [], _, h => h
 | s :: l, f, h => by
  rw [setL]
  split
  · exact h
  · refine setL_start_le hF l _ ?_
    obtain ⟨o1, o2⟩ := hF s.w.2.2
    have h9 : (stpF F s f).1.start ≤ (b : Int) := by
     by_cases k4 : s.k = 4
     · unfold stpF
       have k1 : s.k ≠ 1 := by omega
       have k2 : s.k ≠ 2 := by omega
       have k3 : s.k ≠ 3 := by omega
       rw [if_neg k1, if_neg k2, if_neg k3, if_pos k4]
       show ((F s.w.2.2).2.2 : Int) ≤ (b : Int)
       omega
     · have : (stpF F s f).1.start = f.start := by
        unfold stpF
        rw [if_neg k4]
        repeat (first | rfl | split)
       rw [this]
       exact h
    unfold FS.fail
    split
    · exact h9
    · exact h9
/-- what is known of a grammar that was read -/
structure ReadG (g : Gm) : Prop where
 snd : SoundG g
 rules : g.rules.length ≤ 16
 nonts : g.nonts.length ≤ 16
 prods : g.prods.length ≤ 40
 rname : ∀ r ∈ g.rules, r.name.length ≤ 16
 nname : ∀ t ∈ g.nonts, t.length ≤ 16
 re : ∀ r ∈ g.rules, rightB r.re = true ∧ r.re.length ≤ 60
 st : g.start ≤ (g.all : Int)
theorem prs_read {s : Txt} {g : Gm} (h : prs s = some g) : ReadG g := by
 have hS := prs_sound h
 obtain ⟨h0, he, h1, rfl⟩ := prs_some h
 have hG := rdS_gd s h1
 have hL := rdS_lp s h1
 obtain ⟨l1, l2⟩ := setL_lens (F := (rdS s).fnd) (rdS s).later (rdS s).fs
 obtain ⟨n1, n2⟩ := NmI.items (wsE s).length (RS.init (wsE s)) (fun _ => ⟨fun _ h => absurd h List.not_mem_nil, fun _ h => absurd h List.not_mem_nil⟩) ⟨wsE_16 s, fun _ h => absurd h List.not_mem_nil, fun _ h => absurd h List.not_mem_nil, fun _ h => absurd h List.not_mem_nil, fun _ h => absurd h List.not_mem_nil, fun _ h => absurd h List.not_mem_nil⟩ h1
 have hA := rdS_ia s
 have hF := fnd_good (rdS s)
 rw [← hA.trm, hA.nlen] at hF
 refine ⟨hS, hG.lr, hG.ln, ?_, n1, n2, fun r hr => ?_, ?_⟩
 · show (setL (rdS s).fnd (rdS s).later (rdS s).fs).prods.length ≤ 40
   rw [l2]
   show ((rdS s).prods.map _).length ≤ 40
   rw [List.length_map]; exact hL
 · obtain ⟨t, e1, e2⟩ := hG.rx r hr
   rw [e1]
   exact rxA_right e2
 · show (setL (rdS s).fnd (rdS s).later (rdS s).fs).start ≤ (((rdS s).trm + (rdS s).nonts.length : Nat) : Int)
   refine setL_start_le hF _ _ ?_
   show (if 0 < (rdS s).nonts.length then ((rdS s).trm : Int) + 1 else 0) ≤ _
   split <;> omega
end Go.Proofs.YtloaikjealcbmaaGreat
namespace Go.Proofs.YtloaikjealcbmaaGreat

/-- the names: letters first, not too long -/
theorem namL_all : ∀ (u : Txt) (c : UInt8), c ∈ u.take (namL u) → (letB c.toNat || digB c.toNat) = true
 | [], c, h => by simp at h
 | d :: r, c, h => by
  rw [namL] at h
  split at h
  · rename_i hd
    rw [Nat.add_comm, List.take_succ_cons] at h
    rcases List.mem_cons.1 h with rfl | h
    · exact hd
    · exact namL_all r c h
  · simp at h
theorem endL_name {c : UInt8} {r : Txt} {n : Nat} (h : endL (c :: r) = some n) (hl : letB c.toNat = true) : n ≤ 16 ∧ n = namL (c :: r) ∧ 1 ≤ n := by
 rw [endL] at h
 have hs : sgnB c.toNat = false := by
  unfold letB at hl
  unfold sgnB
  simp only [Bool.or_eq_true, Bool.and_eq_true, beq_iff_eq, decide_eq_true_eq] at hl
  simp only [Bool.or_eq_false_iff, beq_eq_false_iff_ne]
  omega
 rw [hs, if_neg (by decide), if_pos hl] at h
 split at h
 · cases h
 · injection h with h
   refine ⟨by omega, h.symm, ?_⟩
   rw [← h, namL, hl, Bool.true_or, if_pos rfl]
   omega
abbrev WdN (x : Wd) : Prop := x.1 = 1 → NamT x.2.2
theorem wdOf_N {T : Txt} {a n : Nat} (h : endL (T.drop a) = some n) : WdN (wdOf T a n) := by
 intro h1
 have hl : letB ((T.drop a).headD 0).toNat = true := by
  have h1 : kndW ((T.drop a).headD 0).toNat = 1 := h1
  unfold kndW at h1
  split at h1
  · assumption
  · split at h1 <;> cases h1
 rw [wdOf_name rfl hl]
 show NamT ((T.drop a).take n)
 cases hd : T.drop a with
 | nil => rw [hd] at h; cases h
 | cons c r =>
  rw [hd] at h hl
  obtain ⟨h16, hn, h1n⟩ := endL_name h hl
  refine ⟨by rw [List.length_take]; omega, ?_, ?_⟩
  · obtain ⟨m, rfl⟩ : ∃ m, n = m + 1 := ⟨n - 1, by omega⟩
    exact ⟨c, r.take m, by rw [List.take_succ_cons], hl⟩
  · rw [hn]
    exact fun c' hc => namL_all (c :: r) c' hc
theorem wrdR_N (T : Txt) : ∀ (f a : Nat) (l : List Wd), (∀ x ∈ l, WdN x) → ∀ x ∈ (wrdR T f a l).1, WdN x
 | 0, _, _, h => h
 | f + 1, a, l, h => by
  rw [wrdR]
  split
  · exact h
  · split
    · exact fun x hx => absurd hx List.not_mem_nil
    · rename_i n hn
      refine wrdR_N T f _ _ (fun x hx => ?_)
      rw [List.mem_append, List.mem_singleton] at hx
      rcases hx with hx | rfl
      · exact h x hx
      · exact wdOf_N hn
theorem wsE_N (s : Txt) : ∀ x ∈ wsE s, WdN x := fun x hx => by
 unfold wsE at hx
 rw [List.mem_append, List.mem_singleton] at hx
 rcases hx with hx | rfl
 · unfold wrdA at hx
   split at hx
   · exact absurd hx List.not_mem_nil
   · exact wrdR_N s _ _ [] (fun x hx => absurd hx List.not_mem_nil) x hx
 · exact fun e => by cases e
/-- as long as nothing was wrong: the rules' words -/
structure Gd2 (st : RS) (rw : List Wd) : Prop where
 eq : rw.map (fun w => w.2.2) = st.rules.map Rl.name
 pw : rw.Pairwise Bef
 bw : ∀ x ∈ rw, ∀ y ∈ st.ws, Bef x y
 xn : ∀ x ∈ rw, ∀ y ∈ st.nons, x.2.1 ≠ y.2.1
 told : ∀ x ∈ rw, x ∈ st.skips ∨ x ∈ st.terms
 on : ∀ x ∈ rw, ∃ s ∈ st.later, s.k = 1 ∧ s.w = x
 nam : ∀ x ∈ rw, NamT x.2.2 ∧ kwB x.2.2 = false
 non : ∀ x ∈ st.nons, NamT x.2.2 ∧ kwB x.2.2 = false
def GdE (st : RS) : Prop := st.err = 0 → ∃ rw, Gd2 st rw
/-- words are left; later may have grown; nothing else -/
structure MvT (a b : RS) : Prop where
 rules : b.rules = a.rules
 skips : b.skips = a.skips
 terms : b.terms = a.terms
 nons : b.nons = a.nons
 later : ∀ s ∈ a.later, s ∈ b.later
 err : b.err = 0 → a.err = 0
 ws : b.ws <:+ a.ws
theorem MvT.refl (a : RS) : MvT a a := ⟨rfl, rfl, rfl, rfl, fun _ h => h, id, List.suffix_refl _⟩
theorem MvT.trans {a b c : RS} (h : MvT a b) (g : MvT b c) : MvT a c := ⟨g.rules.trans h.rules, g.skips.trans h.skips, g.terms.trans h.terms, g.nons.trans h.nons, fun s hs => g.later s (h.later s hs), fun e => h.err (g.err e), g.ws.trans h.ws⟩
theorem Mv.t {a b : RS} (m : Mv a b) : MvT a b := ⟨m.same.rules, m.same.skips, m.same.terms, m.same.nons, fun s hs => by rw [m.same.later]; exact hs, m.same.err, m.suf⟩
theorem MvT.thn (st : RS) (s : Stp) : MvT st (st.thn s) := ⟨rfl, rfl, rfl, rfl, fun _ h => List.mem_append_left _ h, id, List.suffix_refl _⟩
theorem MvT.take (st : RS) (b : Bool) : MvT st (st.take b) := (Mv.take st b).t
theorem MvT.full (st : RS) (b : Bool) (p : Nat) : MvT st (st.full b p) := (Mv.full st b p).t
theorem Gd2.mv {a b : RS} {rw : List Wd} (h : Gd2 a rw) (m : MvT a b) : Gd2 b rw := by
 refine ⟨by rw [m.rules]; exact h.eq, h.pw, fun x hx y hy => h.bw x hx y (m.ws.subset hy), by rw [m.nons]; exact h.xn, by rw [m.skips, m.terms]; exact h.told, fun x hx => ?_, h.nam, by rw [m.nons]; exact h.non⟩
 obtain ⟨s, h1, h2⟩ := h.on x hx
 exact ⟨s, m.later s h1, h2⟩
theorem GdE.mv {a b : RS} (h : GdE a) (m : MvT a b) : GdE b := fun e => by
 obtain ⟨rw, g⟩ := h (m.err e)
 exact ⟨rw, g.mv m⟩
theorem MvT.lvds (p s : Nat) : ∀ (n : Nat) (st : RS), MvT st (RS.lvds p s n st)
 | 0, st => MvT.refl st
 | n + 1, st => by
  rw [RS.lvds]
  split
  · exact ((MvT.take _ _).trans (MvT.thn _ _)).trans (MvT.lvds p s n (st.lvd p s))
  · exact MvT.refl st
theorem MvT.level (st : RS) : MvT st st.level := by
 have h1 : MvT st st.lv1 := ⟨rfl, rfl, rfl, rfl, fun _ h => h, id, List.suffix_refl _⟩
 unfold RS.level
 exact (((h1.trans (MvT.take _ _)).trans ((MvT.take _ _).trans (MvT.thn _ _))).trans (MvT.lvds _ _ _ _)).trans (MvT.take _ _)
theorem MvT.start (st : RS) : MvT st st.start := by
 have h1 : MvT st st.st1 := ⟨rfl, rfl, rfl, rfl, fun _ h => h, id, List.suffix_refl _⟩
 unfold RS.start
 exact ((((h1.trans (MvT.take _ _)).trans (MvT.thn _ _)).trans (MvT.take _ _)).trans (MvT.take _ _)).trans (MvT.thn _ _)
theorem MvT.syms (pr : Nat) : ∀ (f n : Nat) (st : RS), MvT st (RS.syms pr f n st)
 | 0, _, st => MvT.refl st
 | f + 1, n, st => by
  rw [RS.syms]
  split
  · exact (((MvT.full _ _ _).trans (MvT.take _ _)).trans (MvT.thn _ _)).trans (MvT.syms pr f (n + 1) ((st.full (decide (n = 8)) st.hd.2.1).symb pr))
  · exact MvT.refl st
theorem MvT.alt (st : RS) : MvT st st.alt := by
 have h1 : MvT st st.alt1 := (MvT.full st (decide (st.prods.length = 40) && st.inA) st.hd.2.1).trans ⟨rfl, rfl, rfl, rfl, fun _ h => h, id, List.suffix_refl _⟩
 unfold RS.alt RS.pct
 split
 · exact (((h1.trans (MvT.syms _ _ _ _)).trans (MvT.take _ _)).trans (MvT.take _ _)).trans (MvT.thn _ _)
 · exact h1.trans (MvT.syms _ _ _ _)
theorem MvT.alts : ∀ (f : Nat) (st : RS), MvT st (RS.alts f st)
 | 0, st => MvT.refl st
 | f + 1, st => by
  rw [RS.alts]
  split
  · exact ((MvT.take _ _).trans (MvT.alt _)).trans (MvT.alts f _)
  · exact MvT.refl st
theorem atN_kw {st : RS} (h : st.atN = true) : st.hd.1 = 1 ∧ kwB st.hd.2.2 = false := by
 unfold RS.atN at h
 simp only [Bool.and_eq_true, decide_eq_true_eq, Bool.not_eq_true'] at h
 exact h
theorem GdE.rule {st : RS} (h : GdE st) (hg : GdI st) (hi : Inv WdN st) : GdE st.rule := by
 intro e
 have i1 : Inv WdN st.rule1 := (hi.take true).full _ _
 have hx := i1.hd (fun e => by cases e)
 have m1 : Mv st st.rule1 := (Mv.take _ _).trans (Mv.full _ _ _)
 unfold RS.rule RS.rule2 at e ⊢
 generalize hd : st.rule1.hd = x at e hx ⊢
 have e4 : (st.rule1.tkN.cells.tkS [59]).err = 0 := by
  have e' : (((st.rule1.tkN.cells.tkS [59]).addR ⟨x.2.2, (rxA st.rule1.tkN.hd.2.2).1, decide (st.hd.2.2 = kSkip)⟩).addW x (decide (st.hd.2.2 = kSkip))).err = 0 := e
  rw [addW_err] at e'
  exact e'
 obtain ⟨-, e3⟩ := take_err e4
 obtain ⟨-, e3'⟩ := fail_err e3
 obtain ⟨-, e2⟩ := take_err e3'
 obtain ⟨hN, e1⟩ := take_err e2
 obtain ⟨-, e0'⟩ := full_err e1
 obtain ⟨-, e0⟩ := take_err e0'
 obtain ⟨k1, k2⟩ := atN_kw hN
 rw [hd] at k1 k2
 have g1 := (hg e0).mv m1
 obtain ⟨t1, t2, t3⟩ := g1.took hN
 rw [hd] at t1 t2 t3
 have m4 : Mv st.rule1.tkN (st.rule1.tkN.cells.tkS [59]) := (Mv.cells _).trans (Mv.take _ _)
 have m5 : Mv st.rule1 (st.rule1.tkN.cells.tkS [59]) := (Mv.take _ _).trans m4
 have m6 : Mv st (st.rule1.tkN.cells.tkS [59]) := m1.trans m5
 obtain ⟨rw', g⟩ := h e0
 have hxw : x ∈ st.rule1.ws := by rw [atN_ws hN, hd]; exact List.mem_cons_self
 have hbx : ∀ y ∈ rw', Bef y x := fun y hy => (g.mv m1.t).bw y hy x hxw
 have g4 := g.mv m6.t
 have hn4 : ∀ y ∈ (st.rule1.tkN.cells.tkS [59]).nons, Bef y x := fun y hy => t3 y (by rw [m5.same.nons] at hy; exact hy)
 have hw4 : ∀ y ∈ (st.rule1.tkN.cells.tkS [59]).ws, Bef x y := fun y hy => t1 y (m4.suf.subset hy)
 generalize st.rule1.tkN.cells.tkS [59] = s4 at g4 hn4 hw4
 generalize (rxA st.rule1.tkN.hd.2.2).1 = cs
 generalize decide (st.hd.2.2 = kSkip) = sk
 have hmem : ∀ y, y ∈ rw' ++ [x] → y ∈ rw' ∨ y = x := fun y hy => by rw [List.mem_append, List.mem_singleton] at hy; exact hy
 refine ⟨rw' ++ [x], ?_, ?_, ?_, ?_, ?_, ?_, ?_, ?_⟩
 · have : (((s4.addR ⟨x.2.2, cs, sk⟩).addW x sk).once x).rules = s4.rules ++ [⟨x.2.2, cs, sk⟩] := by unfold RS.addW; cases sk <;> rfl
   rw [this, List.map_append, List.map_append, g4.eq]
   rfl
 · rw [List.pairwise_append]
   exact ⟨g4.pw, List.pairwise_singleton _ _, fun a ha b hb => by rw [List.mem_singleton] at hb; subst hb; exact hbx a ha⟩
 · have : (((s4.addR ⟨x.2.2, cs, sk⟩).addW x sk).once x).ws = s4.ws := by unfold RS.addW; cases sk <;> rfl
   rw [this]
   intro y hy z hz
   rcases hmem y hy with hy | rfl
   · exact g4.bw y hy z hz
   · exact hw4 z hz
 · have : (((s4.addR ⟨x.2.2, cs, sk⟩).addW x sk).once x).nons = s4.nons := by unfold RS.addW; cases sk <;> rfl
   rw [this]
   intro y hy z hz
   rcases hmem y hy with hy | rfl
   · exact g4.xn y hy z hz
   · exact fun e => absurd (hn4 z hz) (by unfold Bef; omega)
 · intro y hy
   cases sk with
   | true =>
    rcases hmem y hy with hy | rfl
    · rcases g4.told y hy with h9 | h9
      · exact .inl (List.mem_append_left _ h9)
      · exact .inr h9
    · exact .inl (List.mem_append_right _ (List.mem_singleton.2 rfl))
   | false =>
    rcases hmem y hy with hy | rfl
    · rcases g4.told y hy with h9 | h9
      · exact .inl h9
      · exact .inr (List.mem_append_left _ h9)
    · exact .inr (List.mem_append_right _ (List.mem_singleton.2 rfl))
 · have : (((s4.addR ⟨x.2.2, cs, sk⟩).addW x sk).once x).later = s4.later ++ [⟨1, x, 0, 0⟩] := by unfold RS.addW; cases sk <;> rfl
   rw [this]
   intro y hy
   rcases hmem y hy with hy | rfl
   · obtain ⟨s, h1, h2⟩ := g4.on y hy
     exact ⟨s, List.mem_append_left _ h1, h2⟩
   · exact ⟨_, List.mem_append_right _ (List.mem_singleton.2 rfl), rfl, rfl⟩
 · intro y hy
   rcases hmem y hy with hy | rfl
   · exact g4.nam y hy
   · exact ⟨hx k1, k2⟩
 · have : (((s4.addR ⟨x.2.2, cs, sk⟩).addW x sk).once x).nons = s4.nons := by unfold RS.addW; cases sk <;> rfl
   rw [this]
   exact g4.non
theorem GdE.nont {st : RS} (h : GdE st) (hg : GdI st) (hi : Inv WdN st) : GdE st.nont := by
 have hx := hi.hd (fun e => by cases e)
 have h0 : GdE st.nont0 := by
  intro e
  have e3 : ((st.tkN.full (decide (st.nonts.length = 16)) st.hd.2.1).tkS [58]).err = 0 := e
  obtain ⟨-, e2⟩ := take_err e3
  obtain ⟨-, e1⟩ := full_err e2
  obtain ⟨hN, e0⟩ := take_err e1
  obtain ⟨k1, k2⟩ := atN_kw hN
  obtain ⟨t1, t2, t3⟩ := (hg e0).took hN
  have hxw : st.hd ∈ st.ws := by rw [atN_ws hN]; exact List.mem_cons_self
  obtain ⟨rw', g⟩ := h e0
  have hbx : ∀ y ∈ rw', Bef y st.hd := fun y hy => g.bw y hy _ hxw
  have m2 : Mv st.tkN ((st.tkN.full (decide (st.nonts.length = 16)) st.hd.2.1).tkS [58]) := (Mv.full _ _ _).trans (Mv.take _ _)
  have m3 : Mv st ((st.tkN.full (decide (st.nonts.length = 16)) st.hd.2.1).tkS [58]) := (Mv.take _ _).trans m2
  have g3 := g.mv m3.t
  unfold RS.nont0
  generalize (st.tkN.full (decide (st.nonts.length = 16)) st.hd.2.1).tkS [58] = s3 at g3
  generalize st.hd = x at *
  refine ⟨rw', g3.eq, g3.pw, g3.bw, fun y hy z hz => ?_, g3.told, fun y hy => ?_, g3.nam, fun y hy => ?_⟩
  · have hz : z ∈ s3.nons ++ [x] := hz
    rw [List.mem_append, List.mem_singleton] at hz
    rcases hz with hz | rfl
    · exact g3.xn y hy z hz
    · exact fun e => absurd (hbx y hy) (by unfold Bef; omega)
  · obtain ⟨s, h1, h2⟩ := g3.on y hy
    exact ⟨s, List.mem_append_left _ h1, h2⟩
  · have hy : y ∈ s3.nons ++ [x] := hy
    rw [List.mem_append, List.mem_singleton] at hy
    rcases hy with hy | rfl
    · exact g3.non y hy
    · exact ⟨hx k1, k2⟩
 exact ((h0.mv (MvT.alt _)).mv (MvT.alts _ _)).mv (MvT.take _ _)
theorem GdE.item {st : RS} (h : GdE st) (hg : GdI st) (hi : Inv WdN st) : GdE st.item := by
 unfold RS.item
 split
 · exact fun e => absurd e (give_err (by decide))
 · split
   · exact h.rule hg hi
   · split
     · exact h.mv (MvT.start st)
     · split
       · exact h.mv (MvT.level st)
       · exact h.nont hg hi
theorem Inv.imp {P Q : Wd → Prop} {st : RS} (h : Inv P st) (hpq : ∀ x, P x → Q x) : Inv Q st := ⟨fun x hx => hpq x (h.ws x hx), fun x hx => hpq x (h.sk x hx), fun x hx => hpq x (h.te x hx), fun x hx => hpq x (h.no x hx), fun s hs => ⟨hpq _ (h.la s hs).1, (h.la s hs).2⟩, h.pr⟩
theorem GdE.items : ∀ (f : Nat) (st : RS), GdE st → GdI st → Inv WdN st → GdE (RS.items f st)
 | 0, _, h, _, _ => h
 | f + 1, st, h, hg, hi => by
  rw [RS.items]
  split
  · exact GdE.items f _ (h.item hg hi) (hg.item (hi.imp fun _ _ => trivial)) (Inv.item (fun e => by cases e) hi)
  · exact h

end Go.Proofs.YtloaikjealcbmaaGreat
