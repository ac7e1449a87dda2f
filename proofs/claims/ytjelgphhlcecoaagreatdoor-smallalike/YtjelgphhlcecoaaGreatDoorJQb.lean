/- small.Alike's walk. small.Alike of automata of which one isn't right. SmallAlike: what the law asks of the maths. small.Alike of any two automata: one value. SmallAlike's walk: all but the last case. -/
import Derived.Test.YtjelgphhlcecoaaGreatDoorJQa
import Derived.Test.YtjelgphhlcecoaaGreatDoorJSa
import Derived.Test.YtjelgphhlcecoaaGreatDoorJMm
import Derived.Deep.LoopGhost
import Derived.Lib.QuietBelow
import Derived.BigQuiet
import Derived.Deep.RegionHeld3
namespace Go.Proofs.YtjelgphhlcecoaaGreatDoor
open Go.RowKit Go.Maps Go.Sort

theorem prsP_getD {N N' : List (List Int)} {j k : Nat} (hj : j < k) (hl : j < (prsP N N' j).length) : (prsP N N' k).getD j (0, 0) = (prsP N N' j).getD j (0, 0) := by
  obtain ⟨V, hV⟩ := prsP_pre N N' j (k - j)
  rw [show j + (k - j) = k by omega] at hV
  rw [hV, List.getD_eq_getElem?_getD, List.getElem?_append_left hl, ← List.getD_eq_getElem?_getD]
set_option maxRecDepth 20000 in
set_option maxHeartbeats 8000000 in
theorem alikeGood (nv av nv' av' : Value) (N : List (List Int)) (A : List Int) (N' : List (List Int)) (A' : List Int) (w : World) (hD : Dfa w nv av N A) (hr : RgtA N A) (hD' : Dfa w nv' av' N' A') (hr' : RgtA N' A') :
    Calls Tryz.prog 15 #[.agg #[nv, av], .agg #[nv', av']] w fun z w' => ∃ b, z = .returned (.bool b) ∧ (b = true ↔ Al2 N A N' A' 0 0) ∧ Below w.heap.size w w' := by
  have hf := hr.few
  have hf' := hr'.few
  obtain ⟨⟨na, nc, rfl⟩, ⟨aa, ac, rfl⟩⟩ := hD.shape
  obtain ⟨⟨na', nc', rfl⟩, ⟨aa', ac', rfl⟩⟩ := hD'.shape
  obtain ⟨W0, hW0⟩ : ∃ W0, w.alloc (.cells #[.slice na N.length nc, .slice aa A.length ac] 25) = W0 := ⟨_, rfl⟩
  have hb0 : Hid (Below w.heap.size w W0) := by rw [← hW0]; exact hid (al' w _)
  have hz0 : Hid (W0.heap[w.heap.size]? = some (.cells #[.slice na N.length nc, .slice aa A.length ac] 25)) := by rw [← hW0]; exact hid (heap_new w _)
  obtain ⟨W1, hW1⟩ : ∃ W1, W0.alloc (.cells #[.slice na' N'.length nc', .slice aa' A'.length ac'] 25) = W1 := ⟨_, rfl⟩
  have hb1 : Hid (Below W0.heap.size W0 W1) := by rw [← hW1]; exact hid (al' W0 _)
  have hz1 : Hid (W1.heap[W0.heap.size]? = some (.cells #[.slice na' N'.length nc', .slice aa' A'.length ac'] 25)) := by rw [← hW1]; exact hid (heap_new W0 _)
  have hp0 : Hid (W1.heap[w.heap.size]? = some (.cells #[.slice na N.length nc, .slice aa A.length ac] 25)) := hid (hs_keep hz0.out hb1.out)
  have hD1 := hid ((hD.keep hb0.out).keep hb1.out)
  have hD1' := hid ((hD'.keep hb0.out).keep hb1.out)
  have hbx : Hid (∀ u, Below W1.heap.size W1 u → (u.cell? ⟨w.heap.size, 0, none⟩ = some (.slice na N.length nc) ∧ u.cell? ⟨w.heap.size, 1, none⟩ = some (.slice aa A.length ac)) ∧ (u.cell? ⟨W0.heap.size, 0, none⟩ = some (.slice na' N'.length nc') ∧ u.cell? ⟨W0.heap.size, 1, none⟩ = some (.slice aa' A'.length ac'))) := hid (fun u hu => by
    obtain ⟨d0, d1, -⟩ := cells2m (hs_keep hp0.out hu)
    obtain ⟨d2, d3, -⟩ := cells2m (hs_keep hz1.out hu)
    exact ⟨⟨d0, d1⟩, d2, d3⟩)
  have GR := hid (fun u (hu : Below W1.heap.size W1 u) => rightA _ _ N A u (hD1.out.keep hu) (by omega))
  rw [rgtB_of hr] at GR
  have GR' := hid (fun u (hu : Below W1.heap.size W1 u) => rightA _ _ N' A' u (hD1'.out.keep hu) (by omega))
  rw [rgtB_of hr'] at GR'
  have GA := hid (fun i (hi : i ≤ N.length) u (hu : Below W1.heap.size W1 u) => acceptOfC _ _ N A i u (hD1.out.keep hu) hr hi)
  have GA' := hid (fun i (hi : i ≤ N'.length) u (hu : Below W1.heap.size W1 u) => acceptOfC _ _ N' A' i u (hD1'.out.keep hu) hr' hi)
  have GN := hid (fun i b (hi : i ≤ N.length) (hb : b < 256) u (hu : Below W1.heap.size W1 u) => nextOfC _ _ N A i b u (hD1.out.keep hu) hr hi hb)
  have GN' := hid (fun i b (hi : i ≤ N'.length) (hb : b < 256) u (hu : Below W1.heap.size W1 u) => nextOfC _ _ N' A' i b u (hD1'.out.keep hu) hr' hi hb)
  have hrH := hid hr
  have hrH' := hid hr'
  obtain ⟨⟨c0, c1⟩, c2, c3⟩ := hbx.out W1 (Below.refl _ _)
  have hpos := hr.pos
  have hpos' := hr'.pos
  obtain ⟨m, hm⟩ : ∃ m : Nat, Hid (N.length + 1 = m) := ⟨_, hid rfl⟩
  obtain ⟨wd, hwd⟩ : ∃ wd : Nat, Hid (N'.length + 1 = wd) := ⟨_, hid rfl⟩
  have hmz : (N.length : Int) + 1 = (m : Int) := by have := hm.out; omega
  have hwz : (N'.length : Int) + 1 = (wd : Int) := by have := hwd.out; omega
  obtain ⟨M, hM⟩ : ∃ M : Nat, Hid (m * wd = M) := ⟨_, hid rfl⟩
  have hMz : (m : Int) * (wd : Int) = (M : Int) := by rw [← hM.out]; exact (Int.natCast_mul _ _).symm
  have hMb : M ≤ 241 * 241 := by rw [← hM.out]; exact Nat.mul_le_mul (by have := hm.out; omega) (by have := hwd.out; omega)
  have hmk := run_make_row' (P := Tryz.prog) 43 4 (.bool false) 1 Tryz.underlying43 Tryz.infoBo rfl .i64 .i64 M (by omega) (by omega)
  clear hD hD' hr hr'
  have GRa := hid (GR.out W1 (Below.refl _ _))
  go_enter Tryz.func15, Tryz.ntmps15
  go_wp2_with (first
    | (go_at_call 20; refine GRa.out.mono ?_; clear GRa; rintro e w2 ⟨rfl, hb2⟩; have hb2 := hid hb2; obtain ⟨⟨x0, x1⟩, x2, x3⟩ := hbx.out w2 hb2.out)
    | (go_at_call 20; refine (GR'.out w2 hb2.out).mono ?_; rintro e w3 ⟨rfl, hb3⟩; have hb3 := hid (bl_step hb2.out hb3); obtain ⟨⟨y0, y1⟩, y2, y3⟩ := hbx.out w3 hb3.out; obtain ⟨WA, hWA⟩ : ∃ x, w3.alloc (.cells #[.int .i64 (wd : Int)] 3) = x := ⟨_, rfl⟩; have hbA : Hid (Below w3.heap.size w3 WA) := (by rw [← hWA]; exact hid (al' w3 _)); have hkA : Hid (WA.heap[w3.heap.size]? = some (.cells #[.int .i64 (wd : Int)] 3)) := (by rw [← hWA]; exact hid (heap_new w3 _)); have hA1 := hid (bl_step hb3.out hbA.out); obtain ⟨⟨u0, u1⟩, u2, u3⟩ := hbx.out WA hA1.out; obtain ⟨v0, v1⟩ := cells1m hkA.out))
  have hS0 := hid (AlO.start (n := N.length) (n' := N'.length) (w0 := W1) (wd := wd) (M := M) hb3.out hwd.out (by rw [hm.out]; exact hM.out) (by omega) hWA)
  have h0 := meetC _ _ _ _ _ _ W1 _ _ _ _ (0, 0) hf hf' (by simp) hS0.out ⟨by omega, by omega⟩
  rw [show inI N.length (((0, 0) : Nat × Nat).1) = 0 from inI_some hpos, show inI N'.length (((0, 0) : Nat × Nat).2) = 0 from inI_some hpos'] at h0
  refine h0.mono ?_
  rintro e w4 ⟨rfl, pv4, fl4, hO4, -⟩
  have hO4 : Hid (AlO N.length N'.length w3.heap.size (WA.heap.size + 1) WA.heap.size (WA.heap.size + 1 + 1) W1 w4 pv4 (prsP N N' 0) fl4) := hid hO4
  clear h0 hS0 hWA hbA hkA hA1 u0 u1 u2 u3 v0 v1 x0 x1 x2 x3 y0 y1 y2 y3 c0 c1 c2 c3 hmk hb2 hb3 hW0 hW1
  generalize w3.heap.size = bw at *
  generalize WA.heap.size = br at *
  go_wp2_with fail
  obtain ⟨bm, hbm⟩ : ∃ x, br + 1 = x := ⟨_, rfl⟩
  obtain ⟨bp, hbp⟩ : ∃ x, bm + 1 = x := ⟨_, rfl⟩
  rw [hbm, hbp] at hO4 ⊢
  clear hbm hbp
  go_loopw [9] (fun i wr => ∃ (k : Nat) (pv : Value) (fl : List Bool), k ≤ (prsP N N' k).length ∧ i = .int .i64 k ∧ Hid (AlO N.length N'.length bw bm br bp W1 wr pv (prsP N N' k) fl) ∧ Hid (∀ j, j < k → j < (prsP N N' j).length) ∧ Hid (∀ j, j < k → acA N A ((prsP N N' j).getD j (0, 0)).1 = acA N' A' ((prsP N N' j).getD j (0, 0)).2)) (fun i _ => M + 1 - (intOf i).toNat)
  case atStart => exact ⟨0, pv4, fl4, by omega, rfl, hO4, hid (fun j hj => absurd hj (Nat.not_lt_zero _)), hid (fun j hj => absurd hj (Nat.not_lt_zero _))⟩
  case round =>
    obtain ⟨k, pv, fl, hk, rfl, hO, hon, hac⟩ := hrel
    have hin := hid (fun p (hp : p ∈ prsP N N' k) => prsP_rch N N' k hon.out p hp)
    have hlM : (prsP N N' k).length ≤ M := by
      rw [← hM.out, ← hm.out, ← hwd.out]
      exact prs_few (prsP_nd N N' k) (fun p hp => rch_in hrH.out.rgt hrH'.out.rgt hrH.out.pos hrH'.out.pos (hin.out p hp))
    obtain ⟨s0, s1⟩ := cells1m hO.out.pb
    obtain ⟨L, hL⟩ : ∃ L, Hid ((prsP N N' k).length = L) := ⟨_, hid rfl⟩
    rw [hL.out] at hlM hk
    obtain ⟨va, vc, hve⟩ := own_shape hO.out.pr
    rw [hL.out] at hve
    subst hve
    by_cases hlt : k < L
    · have hltz : (k : Int) < (L : Int) := by omega
      obtain ⟨g, vc', hpe, q0, q1⟩ := hO.out.pair (k := k) (by rw [hL.out]; exact hlt)
      rw [hL.out] at hpe
      injection hpe with hpe _ hpc
      subst hpe hpc
      obtain ⟨p, hp⟩ : ∃ p, Hid ((prsP N N' k).getD k (0, 0) = p) := ⟨_, hid rfl⟩
      rw [hp.out] at q0 q1
      have hpm : p ∈ prsP N N' k := by
        rw [← hp.out, List.getD_eq_getElem?_getD, List.getElem?_eq_getElem (by rw [hL.out]; exact hlt)]
        exact List.getElem_mem _
      have hpr := hid (hin.out p hpm)
      have hpi := hid (rch_in hrH.out.rgt hrH'.out.rgt hrH.out.pos hrH'.out.pos hpr.out)
      obtain ⟨WP, hWP⟩ : ∃ x, wr.alloc (.cells #[.int .i64 (inI N.length p.1), .int .i64 (inI N'.length p.2)] 54) = x := ⟨_, rfl⟩
      have hbP : Hid (Below wr.heap.size wr WP) := by rw [← hWP]; exact hid (al' wr _)
      have hkP : Hid (WP.heap[wr.heap.size]? = some (.cells #[.int .i64 (inI N.length p.1), .int .i64 (inI N'.length p.2)] 54)) := by rw [← hWP]; exact hid (heap_new wr _)
      have hOP := hid (hO.out.keep hbP.out)
      obtain ⟨⟨d0, d1⟩, d2, d3⟩ := hbx.out WP hOP.out.low
      obtain ⟨r0, r1, -⟩ := cells2m hkP.out
      have cI : Hid (∀ d os, Calls Tryz.prog 27 #[.agg #[.slice na N.length nc, .slice aa A.length ac], .int .i64 (inI N.length p.1)] (grow (redrawn WP d) os) fun e w'' => e = .returned (.int .i64 (acA N A p.1)) ∧ ∃ q : Regrown, w'' = grow (redrawn WP q.d) q.os) := hid (fun d os => Calls.regrown_of (GA.out p.1 hpi.out.1 _ (bl_step hOP.out.low (below_regrown WP d os))))
      have cK : Hid (∀ d os, Calls Tryz.prog 27 #[.agg #[.slice na' N'.length nc', .slice aa' A'.length ac'], .int .i64 (inI N'.length p.2)] (grow (redrawn WP d) os) fun e w'' => e = .returned (.int .i64 (acA N' A' p.2)) ∧ ∃ q : Regrown, w'' = grow (redrawn WP q.d) q.os) := hid (fun d os => Calls.regrown_of (GA'.out p.2 hpi.out.2 _ (bl_step hOP.out.low (below_regrown WP d os))))
      have k0 := cell_regrown d0
      have k1 := cell_regrown d1
      have k2 := cell_regrown d2
      have k3 := cell_regrown d3
      have k4 := cell_regrown r0
      have k5 := cell_regrown r1
      clear hpm
      go_wp2_with fail
      refine wp_region_quiet_below (by kernel_rfl) (by kernel_rfl) ?_
      iterate 4 (first | go_big_quiet_step (exact cI.out _ _) | quiet_step (exact cI.out _ _))
      repeat (first | go_big_quiet_step (exact cK.out _ _) | quiet_step (exact cK.out _ _))
      refine wpQuiet_nil ?_
      intro _ hw'
      obtain ⟨⟨dq, osq⟩, hw''⟩ := hw'
      subst hw''
      have hU := hid (below_regrown WP dq osq)
      have hOU := hid (hOP.out.keep hU.out)
      have hkU := hid (hs_keep hkP.out hU.out)
      have hWr : Hid (wr.heap.size ≠ bp ∧ wr.heap.size ≠ br ∧ (Value.slice (some ⟨g, 0, none⟩) L vc).ownBlock ≠ some wr.heap.size) := hid ⟨fun e => by have := blk_lt hO.out.pb; omega, fun e => by have := (hO.out.mr.lt br rfl).2; omega, fun e => by have := (hO.out.pr.lt _ e).2; omega⟩
      clear k0 k1 k2 k3 k4 k5 d0 d1 d2 d3 r0 r1 q0 q1 s0 s1 cI cK hOP hkP hbP hWP hU
      generalize grow (redrawn WP dq) osq = U at hOU hkU ⊢
      generalize wr.heap.size = pb at hkU hWr ⊢
      by_cases hacc : acA N A p.1 = acA N' A' p.2
      · have hon1 : Hid (∀ j, j < k + 1 → j < (prsP N N' j).length) := hid (fun j hj => by
          rcases Nat.lt_or_ge j k with h9 | h9
          · exact hon.out j h9
          · obtain rfl : j = k := by omega
            rw [hL.out]; exact hlt)
        have hac1 : Hid (∀ j, j < k + 1 → acA N A ((prsP N N' j).getD j (0, 0)).1 = acA N' A' ((prsP N N' j).getD j (0, 0)).2) := hid (fun j hj => by
          rcases Nat.lt_or_ge j k with h9 | h9
          · exact hac.out j h9
          · obtain rfl : j = k := by omega
            rw [hp.out]; exact hacc)
        rw [hacc]
        generalize acA N' A' p.2 = ac9
        simp only [bne_self_eq_false]
        go_wp2_with fail
        clear GR GR' GA GA'
        go_loopw [54] (fun i wr => ∃ (b : Nat) (pv : Value) (fl : List Bool), b ≤ 256 ∧ i = .int .i64 b ∧ Hid (AlO N.length N'.length bw bm br bp W1 wr pv (rowP2 N N' p (prsP N N' k) b) fl) ∧ Hid (wr.heap[pb]? = some (.cells #[.int .i64 (inI N.length p.1), .int .i64 (inI N'.length p.2)] 54)) ∧ Hid (pv.ownBlock ≠ some pb)) (fun i _ => 256 - (intOf i).toNat)
        case atStart => exact ⟨0, _, fl, by omega, rfl, hOU, hkU, hid hWr.out.2.2⟩
        case round =>
          obtain ⟨b, pv, fl, hb, rfl, hO6, hk6, hv6⟩ := hrel
          by_cases hbt : b < 256
          · have hbz : (b : Int) < 256 := by omega
            have hd := hid ((Below.refl wr.heap.size wr).drew)
            have hOd := hid (hO6.out.keep hd.out)
            have hcell : Hid (∀ u, Below wr.drew.heap.size wr.drew u → ((u.cell? ⟨w.heap.size, 0, none⟩ = some (.slice na N.length nc) ∧ u.cell? ⟨w.heap.size, 1, none⟩ = some (.slice aa A.length ac)) ∧ (u.cell? ⟨W0.heap.size, 0, none⟩ = some (.slice na' N'.length nc') ∧ u.cell? ⟨W0.heap.size, 1, none⟩ = some (.slice aa' A'.length ac'))) ∧ u.cell? ⟨pb, 0, none⟩ = some (.int .i64 (inI N.length p.1)) ∧ u.cell? ⟨pb, 1, none⟩ = some (.int .i64 (inI N'.length p.2))) := hid (fun u hu => by
              obtain ⟨t0, t1, -⟩ := cells2m (hs_keep (hs_keep hk6.out hd.out) hu)
              exact ⟨hbx.out u (bl_step hOd.out.low hu), t0, t1⟩)
            have hx1 := nxA_le hrH.out.rgt p.1 hbt
            have hx2 := nxA_le hrH'.out.rgt p.2 hbt
            have hfew : (rowP2 N N' p (prsP N N' k) b).length ≤ 100000 := by
              have h9 := prs_few (n := N.length) (n' := N'.length) (rowP2_nd (N := N) (N' := N') (p := p) (prsP_nd N N' k) b) (fun q hq => rch_in hrH.out.rgt hrH'.out.rgt hrH.out.pos hrH'.out.pos (rowP2_rch hpr.out (fun q hq => hin.out q hq) b (by omega) q hq))
              rw [hm.out, hwd.out, hM.out] at h9
              omega
            have G1 := hid (GN.out p.1 b hpi.out.1 hbt wr.drew (hOd.out.low))
            have G2 := hid (fun u (hu : Below wr.drew.heap.size wr.drew u) => GN'.out p.2 b hpi.out.2 hbt u (bl_step hOd.out.low hu))
            have G3 := hid (fun u (hu : Below wr.drew.heap.size wr.drew u) => meetC _ _ _ _ _ _ W1 u pv _ fl (nxA N p.1 b, nxA N' p.2 b) hf hf' hfew (hOd.out.keep hu) ⟨hx1, hx2⟩)
            have hk7 : Hid (∀ u, Below wr.drew.heap.size wr.drew u → u.heap[pb]? = some (.cells #[.int .i64 (inI N.length p.1), .int .i64 (inI N'.length p.2)] 54)) := hid (fun u hu => hs_keep (hs_keep hk6.out hd.out) hu)
            obtain ⟨⟨⟨a0, a1⟩, a2, a3⟩, a4, a5⟩ := hcell.out wr.drew (Below.refl _ _)
            have hFa : Hid (∀ u u' pv', Below wr.drew.heap.size wr.drew u → FrA br bp pv pv' u u' → u'.heap[pb]? = some (.cells #[.int .i64 (inI N.length p.1), .int .i64 (inI N'.length p.2)] 54) ∧ pv'.ownBlock ≠ some pb) := hid (fun u u' pv' hu hF => hF pb _ (hk7.out u hu) hWr.out.2.1 hWr.out.1 hv6.out)
            clear hx1 hx2 hfew
            go_wp2_with fail
            go_region_held3 (fun w' => w'.cell? ⟨w.heap.size, 0, none⟩ = some (.slice na N.length nc) ∧ w'.cell? ⟨w.heap.size, 1, none⟩ = some (.slice aa A.length ac) ∧ w'.cell? ⟨W0.heap.size, 0, none⟩ = some (.slice na' N'.length nc') ∧ w'.cell? ⟨W0.heap.size, 1, none⟩ = some (.slice aa' A'.length ac') ∧ w'.cell? ⟨pb, 0, none⟩ = some (.int .i64 (inI N.length p.1)) ∧ w'.cell? ⟨pb, 1, none⟩ = some (.int .i64 (inI N'.length p.2))) (go_keep) ((first
              | (go_at_call 28; refine G1.out.mono ?_; clear G1; rintro z w7 ⟨rfl, hb7⟩; have hb7 := hid hb7; obtain ⟨⟨⟨e0, e1⟩, e2, e3⟩, e4, e5⟩ := hcell.out w7 hb7.out)
              | (go_at_call 28; refine (G2.out w7 hb7.out).mono ?_; clear G2; rintro z w8 ⟨rfl, hb8⟩; have hb8 := hid (bl_step hb7.out hb8); obtain ⟨⟨⟨f0, f1⟩, f2, f3⟩, f4, f5⟩ := hcell.out w8 hb8.out)
              | (go_at_call 26; refine (G3.out w8 hb8.out).mono ?_; clear G3; rintro z w9 ⟨rfl, pv9, fl9, hO9, hF9⟩; have hO9 := hid hO9; have hF9 := hid (hFa.out _ _ _ hb8.out hF9); obtain ⟨⟨i0, i1⟩, i2, i3⟩ := hbx.out w9 hO9.out.low; obtain ⟨i4, i5, -⟩ := cells2m hF9.out.1)))
            all_goals
              go_wp2
              go_roundw
              case rel => first | exact ⟨b + 1, pv9, fl9, by omega, by go_num, hO9, hid hF9.out.1, hid hF9.out.2⟩ | (refine ⟨_, _, _, _, _, _, _, _, _, _, _, _, _, _, _, _, _, _, ?_, rfl⟩; exact ⟨b + 1, pv9, fl9, by omega, by go_num, hO9, hid hF9.out.1, hid hF9.out.2⟩)
              case measure => simp [intOf]; omega
          · have hbz : ¬ (b : Int) < 256 := by omega
            obtain rfl : b = 256 := by omega
            have hfin : Hid (AlO N.length N'.length bw bm br bp W1 wr pv (prsP N N' (k + 1)) fl) := hid (by
              show AlO _ _ _ _ _ _ _ _ _ (rowP2 N N' ((prsP N N' k).getD k (0, 0)) (prsP N N' k) 256) _
              rw [hp.out]
              exact hO6.out)
            have hkl : k + 1 ≤ (prsP N N' (k + 1)).length := by
              obtain ⟨V, hV⟩ := prsP_pre N N' k 1
              rw [hV, List.length_append, hL.out]
              omega
            go_wp2
            go_roundw
            case rel => exact ⟨k + 1, pv, fl, hkl, by go_num, hfin, hon1, hac1⟩
            case measure => simp [intOf]; omega
      · have hnot := hid (al2_not (A := A) (A' := A') hpr.out hacc)
        have hbf : (acA N A p.1 == acA N' A' p.2) = false := beq_eq_false_iff_ne.2 hacc
        go_wp2
        go_ret
        exact ⟨false, rfl, ⟨fun e => (by cases e), fun e => absurd e hnot.out⟩, bl_step (bl_step hb0.out hb1.out) hOU.out.low⟩
    · have hltz : ¬ (k : Int) < (L : Int) := by omega
      have hend : Hid (Al2 N A N' A' 0 0) := hid (prsP_end (k := k) (by rw [hL.out]; omega) hon.out (fun j hj => by
        rw [prsP_getD hj (hon.out j hj)]
        exact hac.out j hj))
      go_wp2
      go_ret
      first | exact Or.inr ⟨rfl, hend.out, bl_step (bl_step hb0.out hb1.out) hO.out.low⟩ | exact ⟨true, rfl, ⟨fun _ => hend.out, fun _ => rfl⟩, bl_step (bl_step hb0.out hb1.out) hO.out.low⟩ | exact ⟨⟨fun _ => hend.out, fun _ => rfl⟩, bl_step (bl_step hb0.out hb1.out) hO.out.low⟩

end Go.Proofs.YtjelgphhlcecoaaGreatDoor
namespace Go.Proofs.YtjelgphhlcecoaaGreatDoor
open Go.RowKit Go.Maps Go.Sort

set_option maxRecDepth 20000 in
set_option maxHeartbeats 8000000 in
theorem alikeBad (nv av nv' av' : Value) (N : List (List Int)) (A : List Int) (N' : List (List Int)) (A' : List Int) (w : World) (hD : Dfa w nv av N A) (hD' : Dfa w nv' av' N' A') (hl : N.length ≤ 9223372036854775807) (hl' : N'.length ≤ 9223372036854775807) (hr : rgtB N A = false ∨ rgtB N' A' = false) :
    Calls Tryz.prog 15 #[.agg #[nv, av], .agg #[nv', av']] w fun z w' => z = .returned (.bool false) ∧ Below w.heap.size w w' := by
  obtain ⟨⟨na, nc, rfl⟩, ⟨aa, ac, rfl⟩⟩ := hD.shape
  obtain ⟨⟨na', nc', rfl⟩, ⟨aa', ac', rfl⟩⟩ := hD'.shape
  obtain ⟨W0, hW0⟩ : ∃ W0, w.alloc (.cells #[.slice na N.length nc, .slice aa A.length ac] 25) = W0 := ⟨_, rfl⟩
  have hb0 : Hid (Below w.heap.size w W0) := by rw [← hW0]; exact hid (al' w _)
  have hz0 : Hid (W0.heap[w.heap.size]? = some (.cells #[.slice na N.length nc, .slice aa A.length ac] 25)) := by rw [← hW0]; exact hid (heap_new w _)
  obtain ⟨W1, hW1⟩ : ∃ W1, W0.alloc (.cells #[.slice na' N'.length nc', .slice aa' A'.length ac'] 25) = W1 := ⟨_, rfl⟩
  have hb1 : Hid (Below W0.heap.size W0 W1) := by rw [← hW1]; exact hid (al' W0 _)
  have hz1 : Hid (W1.heap[W0.heap.size]? = some (.cells #[.slice na' N'.length nc', .slice aa' A'.length ac'] 25)) := by rw [← hW1]; exact hid (heap_new W0 _)
  have hp0 : Hid (W1.heap[w.heap.size]? = some (.cells #[.slice na N.length nc, .slice aa A.length ac] 25)) := hid (hs_keep hz0.out hb1.out)
  have hD1 := hid ((hD.keep hb0.out).keep hb1.out)
  have hD1' := hid ((hD'.keep hb0.out).keep hb1.out)
  have hbx : Hid (∀ u, Below W1.heap.size W1 u → (u.cell? ⟨w.heap.size, 0, none⟩ = some (.slice na N.length nc) ∧ u.cell? ⟨w.heap.size, 1, none⟩ = some (.slice aa A.length ac)) ∧ (u.cell? ⟨W0.heap.size, 0, none⟩ = some (.slice na' N'.length nc') ∧ u.cell? ⟨W0.heap.size, 1, none⟩ = some (.slice aa' A'.length ac'))) := hid (fun u hu => by
    obtain ⟨d0, d1, -⟩ := cells2m (hs_keep hp0.out hu)
    obtain ⟨d2, d3, -⟩ := cells2m (hs_keep hz1.out hu)
    exact ⟨⟨d0, d1⟩, d2, d3⟩)
  have GRa := hid (rightA _ _ N A W1 hD1.out hl)
  have GR' := hid (fun u (hu : Below W1.heap.size W1 u) => rightA _ _ N' A' u (hD1'.out.keep hu) hl')
  obtain ⟨⟨c0, c1⟩, c2, c3⟩ := hbx.out W1 (Below.refl _ _)
  clear hD hD' hl hl'
  cases h1 : rgtB N A with
  | false =>
    rw [h1] at GRa
    clear hr
    go_enter Tryz.func15, Tryz.ntmps15
    go_wp2_with (go_at_call 20; refine GRa.out.mono ?_; clear GRa; rintro e w2 ⟨rfl, hb2⟩; have hb2 := hid hb2)
    go_ret
    exact ⟨rfl, bl_step (bl_step hb0.out hb1.out) hb2.out⟩
  | true =>
    have h2 : rgtB N' A' = false := hr.resolve_left (by rw [h1]; simp)
    rw [h1] at GRa
    rw [h2] at GR'
    clear hr
    go_enter Tryz.func15, Tryz.ntmps15
    go_wp2_with (first
      | (go_at_call 20; refine GRa.out.mono ?_; clear GRa; rintro e w2 ⟨rfl, hb2⟩; have hb2 := hid hb2; obtain ⟨⟨x0, x1⟩, x2, x3⟩ := hbx.out w2 hb2.out)
      | (go_at_call 20; refine (GR'.out w2 hb2.out).mono ?_; clear GR'; rintro e w3 ⟨rfl, hb3⟩; have hb3 := hid (bl_step hb2.out hb3)))
    go_ret
    exact ⟨rfl, bl_step (bl_step hb0.out hb1.out) hb3.out⟩

end Go.Proofs.YtjelgphhlcecoaaGreatDoor
namespace Go.Proofs.YtjelgphhlcecoaaGreatDoor

/-- automata are alike just if what is made of them is the same -/
theorem alike_iff {N : List (List Int)} {A : List Int} {N' : List (List Int)} {A' : List Int} (hr : RgtA N A) (hr' : RgtA N' A') {M M' : List (List Int)} {B B' : List Int} (h : MkR N A M B) (h' : MkR N' A' M' B') : Al2 N A N' A' 0 0 ↔ (M = M' ∧ B = B') := by
  constructor
  · intro h0
    obtain ⟨al, m, h1, h2, rfl, rfl⟩ := h
    obtain ⟨al', m', h1', h2', rfl, rfl⟩ := h'
    exact (mk_lock h1 hr h1' hr' h0 h2 h2').2
  · rintro ⟨rfl, rfl⟩ s
    rw [← h.does hr s, h'.does hr' s]
theorem alike_self (N : List (List Int)) (A : List Int) : Al2 N A N A 0 0 := fun _ => rfl
theorem alike_made {N : List (List Int)} {A : List Int} (hr : RgtA N A) {M : List (List Int)} {B : List Int} (h : MkR N A M B) : Al2 M B N A 0 0 := fun s => h.does hr s

end Go.Proofs.YtjelgphhlcecoaaGreatDoor
namespace Go.Proofs.YtjelgphhlcecoaaGreatDoor
open Go.RowKit Go.Maps

/-- what Alike answers of any two automata -/
def AlkB (N : List (List Int)) (A : List Int) (N' : List (List Int)) (A' : List Int) (b : Bool) : Prop := b = true ↔ (rgtB N A = true ∧ rgtB N' A' = true ∧ Al2 N A N' A' 0 0)
set_option maxRecDepth 20000 in
theorem alikeA (nv av nv' av' : Value) (N : List (List Int)) (A : List Int) (N' : List (List Int)) (A' : List Int) (w : World) (hD : Dfa w nv av N A) (hD' : Dfa w nv' av' N' A') (hl : N.length ≤ 9223372036854775807) (hl' : N'.length ≤ 9223372036854775807) :
    Calls Tryz.prog 15 #[.agg #[nv, av], .agg #[nv', av']] w fun z w' => ∃ b, z = .returned (.bool b) ∧ AlkB N A N' A' b ∧ Below w.heap.size w w' := by
  cases h1 : rgtB N A with
  | false =>
    refine (alikeBad nv av nv' av' N A N' A' w hD hD' hl hl' (Or.inl h1)).mono ?_
    rintro z w' ⟨rfl, hb⟩
    exact ⟨false, rfl, ⟨fun e => (by cases e), fun e => (by rw [h1] at e; exact absurd e.1 (by simp))⟩, hb⟩
  | true =>
    cases h2 : rgtB N' A' with
    | false =>
      refine (alikeBad nv av nv' av' N A N' A' w hD hD' hl hl' (Or.inr h2)).mono ?_
      rintro z w' ⟨rfl, hb⟩
      exact ⟨false, rfl, ⟨fun e => (by cases e), fun e => (by rw [h2] at e; exact absurd e.2.1 (by simp))⟩, hb⟩
    | true =>
      refine (alikeGood nv av nv' av' N A N' A' w hD (rgtA_of h1) hD' (rgtA_of h2)).mono ?_
      rintro z w' ⟨b, rfl, hb1, hb⟩
      exact ⟨b, rfl, ⟨fun e => ⟨h1, h2, hb1.1 e⟩, fun e => hb1.2 e.2.2⟩, hb⟩
/-- the answer itself -/
noncomputable def alkV (N : List (List Int)) (A : List Int) (N' : List (List Int)) (A' : List Int) : Bool := @decide (rgtB N A = true ∧ rgtB N' A' = true ∧ Al2 N A N' A' 0 0) (Classical.propDecidable _)
theorem alkV_of {N : List (List Int)} {A : List Int} {N' : List (List Int)} {A' : List Int} {b : Bool} (h : AlkB N A N' A' b) : b = alkV N A N' A' := by
  unfold alkV
  cases b with
  | true => exact Eq.symm (@decide_eq_true _ (Classical.propDecidable _) (h.1 rfl))
  | false => exact Eq.symm (@decide_eq_false _ (Classical.propDecidable _) (fun e => by have := h.2 e; cases this))
set_option maxRecDepth 20000 in
theorem alikeV (nv av nv' av' : Value) (N : List (List Int)) (A : List Int) (N' : List (List Int)) (A' : List Int) (w : World) (hD : Dfa w nv av N A) (hD' : Dfa w nv' av' N' A') (hl : N.length ≤ 9223372036854775807) (hl' : N'.length ≤ 9223372036854775807) :
    Calls Tryz.prog 15 #[.agg #[nv, av], .agg #[nv', av']] w fun z w' => z = .returned (.bool (alkV N A N' A')) ∧ Below w.heap.size w w' := by
  refine (alikeA nv av nv' av' N A N' A' w hD hD' hl hl').mono ?_
  rintro z w' ⟨b, rfl, h, hb⟩
  exact ⟨by rw [alkV_of h], hb⟩
theorem alkV_bad {N : List (List Int)} {A : List Int} {N' : List (List Int)} {A' : List Int} (h : rgtB N A = false ∨ rgtB N' A' = false) : alkV N A N' A' = false := by
  unfold alkV
  refine @decide_eq_false _ (Classical.propDecidable _) (fun e => ?_)
  rcases h with h | h
  · rw [h] at e; exact absurd e.1 (by simp)
  · rw [h] at e; exact absurd e.2.1 (by simp)
theorem alkV_good {N : List (List Int)} {A : List Int} {N' : List (List Int)} {A' : List Int} (hr : RgtA N A) (hr' : RgtA N' A') (h : Al2 N A N' A' 0 0) : alkV N A N' A' = true := by
  unfold alkV
  exact @decide_eq_true _ (Classical.propDecidable _) ⟨rgtB_of hr, rgtB_of hr', h⟩
theorem alkV_same {N : List (List Int)} {A : List Int} {N' : List (List Int)} {A' : List Int} (hr : RgtA N A) (hr' : RgtA N' A') {M M' : List (List Int)} {B B' : List Int} (h : MkR N A M B) (h' : MkR N' A' M' B') : alkV N A N' A' = decide (M = M' ∧ B = B') := by
  by_cases e : M = M' ∧ B = B'
  · rw [decide_eq_true e, alkV_good hr hr' ((alike_iff hr hr' h h').2 e)]
  · rw [decide_eq_false e]
    unfold alkV
    exact @decide_eq_false _ (Classical.propDecidable _) (fun e' => e ((alike_iff hr hr' h h').1 e'.2.2))

end Go.Proofs.YtjelgphhlcecoaaGreatDoor
namespace Go.Proofs.YtjelgphhlcecoaaGreatDoor
open Go.RowKit Go.Maps

set_option maxRecDepth 20000 in
set_option maxHeartbeats 8000000 in
theorem alikeWalk (nv av nv' av' : Value) (N : List (List Int)) (A : List Int) (N' : List (List Int)) (A' : List Int) (w : World) (hNl : N.length ≤ 9223372036854775807) (hNl' : N'.length ≤ 9223372036854775807) (hD : Dfa w nv av N A) (hD' : Dfa w nv' av' N' A') (_hAw : AccW A) (_hAw' : AccW A') (hT : Tab w) :
    Calls Tryz.prog 5 #[.agg #[nv, av], .agg #[nv', av']] w fun e w' => e = .returned (.bool true) ∧ Below w.heap.size w w' := by
  obtain ⟨⟨na, nc, rfl⟩, ⟨aa, ac, rfl⟩⟩ := hD.shape
  obtain ⟨⟨na', nc', rfl⟩, ⟨aa', ac', rfl⟩⟩ := hD'.shape
  obtain ⟨W0, hW0⟩ : ∃ W0, w.alloc (.cells #[.slice na N.length nc, .slice aa A.length ac] 25) = W0 := ⟨_, rfl⟩
  have hb0 : Hid (Below w.heap.size w W0) := by rw [← hW0]; exact hid (al' w _)
  have hz0 : Hid (W0.heap[w.heap.size]? = some (.cells #[.slice na N.length nc, .slice aa A.length ac] 25)) := by rw [← hW0]; exact hid (heap_new w _)
  obtain ⟨W1, hW1⟩ : ∃ W1, W0.alloc (.cells #[.slice na' N'.length nc', .slice aa' A'.length ac'] 25) = W1 := ⟨_, rfl⟩
  have hb1 : Hid (Below W0.heap.size W0 W1) := by rw [← hW1]; exact hid (al' W0 _)
  have hz1 : Hid (W1.heap[W0.heap.size]? = some (.cells #[.slice na' N'.length nc', .slice aa' A'.length ac'] 25)) := by rw [← hW1]; exact hid (heap_new W0 _)
  have hp0 : Hid (W1.heap[w.heap.size]? = some (.cells #[.slice na N.length nc, .slice aa A.length ac] 25)) := hid (hs_keep hz0.out hb1.out)
  have hD1 := hid ((hD.keep hb0.out).keep hb1.out)
  have hD1' := hid ((hD'.keep hb0.out).keep hb1.out)
  have hbx : Hid (∀ u, Below W1.heap.size W1 u → (u.cell? ⟨w.heap.size, 0, none⟩ = some (.slice na N.length nc) ∧ u.cell? ⟨w.heap.size, 1, none⟩ = some (.slice aa A.length ac)) ∧ (u.cell? ⟨W0.heap.size, 0, none⟩ = some (.slice na' N'.length nc') ∧ u.cell? ⟨W0.heap.size, 1, none⟩ = some (.slice aa' A'.length ac'))) := hid (fun u hu => by
    obtain ⟨d0, d1, -⟩ := cells2m (hs_keep hp0.out hu)
    obtain ⟨d2, d3, -⟩ := cells2m (hs_keep hz1.out hu)
    exact ⟨⟨d0, d1⟩, d2, d3⟩)
  have GW := hid (wakes9 W1 ((hT.keep hb0.out).keep hb1.out))
  have GH := hid (fun u (hu : Below W1.heap.size W1 u) => heavyC9 _ _ N A u (hD1.out.keep hu) hNl)
  have GH' := hid (fun u (hu : Below W1.heap.size W1 u) => heavyC9 _ _ N' A' u (hD1'.out.keep hu) hNl')
  have GR := hid (fun u (hu : Below W1.heap.size W1 u) => refRightA _ _ N A u (hD1.out.keep hu) hNl)
  have GR' := hid (fun u (hu : Below W1.heap.size W1 u) => refRightA _ _ N' A' u (hD1'.out.keep hu) hNl')
  have GK := hid (fun u (hu : Below W1.heap.size W1 u) => alikeV _ _ _ _ N A N' A' u (hD1.out.keep hu) (hD1'.out.keep hu) hNl hNl')
  have hend : Hid (∀ u, Below W1.heap.size W1 u → Below w.heap.size w u) := hid (fun u hu => bl_step (bl_step hb0.out hb1.out) hu)
  clear hD hD' hT
  cases h1 : hvB N A with
  | true =>
    rw [h1] at GH
    clear h1
    go_enter Tryz.func5, Tryz.ntmps5
    go_wp2_with (first
      | (go_at_call 8; refine GW.out.mono ?_; clear GW; rintro e w1 ⟨rfl, hc1⟩; obtain ⟨⟨c0, c1⟩, c2, c3⟩ := hbx.out w1 hc1)
      | (go_at_call 9; refine (GH.out w1 hc1).mono ?_; clear GH; rintro e w2 ⟨rfl, hc2⟩; have k2 := hid (bl_step hc1 hc2)))
    go_ret
    exact ⟨rfl, hend.out _ k2.out⟩
  | false =>
    rw [h1] at GH
    clear h1
    cases h2 : hvB N' A' with
    | true =>
      rw [h2] at GH'
      clear h2
      go_enter Tryz.func5, Tryz.ntmps5
      go_wp2_with (first
        | (go_at_call 8; refine GW.out.mono ?_; clear GW; rintro e w1 ⟨rfl, hc1⟩; obtain ⟨⟨c0, c1⟩, c2, c3⟩ := hbx.out w1 hc1)
        | (go_at_call 9; refine (GH.out w1 hc1).mono ?_; clear GH; rintro e w2 ⟨rfl, hc2⟩; have k2 := hid (bl_step hc1 hc2); obtain ⟨⟨d0, d1⟩, d2, d3⟩ := hbx.out w2 k2.out)
        | (go_at_call 9; refine (GH'.out w2 k2.out).mono ?_; clear GH'; rintro e w3 ⟨rfl, hc3⟩; have k3 := hid (bl_step k2.out hc3)))
      go_ret
      exact ⟨rfl, hend.out _ k3.out⟩
    | false =>
      rw [h2] at GH'
      clear h2
      cases h3 : rgtB N A with
      | false =>
        rw [h3] at GR
        rw [alkV_bad (Or.inl h3)] at GK
        clear h3
        go_enter Tryz.func5, Tryz.ntmps5
        go_wp2_with (first
          | (go_at_call 8; refine GW.out.mono ?_; clear GW; rintro e w1 ⟨rfl, hc1⟩; obtain ⟨⟨c0, c1⟩, c2, c3⟩ := hbx.out w1 hc1)
          | (go_at_call 9; refine (GH.out w1 hc1).mono ?_; clear GH; rintro e w2 ⟨rfl, hc2⟩; have k2 := hid (bl_step hc1 hc2); obtain ⟨⟨d0, d1⟩, d2, d3⟩ := hbx.out w2 k2.out)
          | (go_at_call 9; refine (GH'.out w2 k2.out).mono ?_; clear GH'; rintro e w3 ⟨rfl, hc3⟩; have k3 := hid (bl_step k2.out hc3); obtain ⟨⟨f0, f1⟩, f2, f3⟩ := hbx.out w3 k3.out)
          | (go_at_call 13; refine (GR.out w3 k3.out).mono ?_; clear GR; rintro e w4 ⟨rfl, hc4⟩; have k4 := hid (bl_step k3.out hc4); obtain ⟨⟨g0, g1⟩, g2, g3⟩ := hbx.out w4 k4.out)
          | (go_at_call 15; refine (GK.out w4 k4.out).mono ?_; clear GK; rintro e w5 ⟨rfl, hc5⟩; have k5 := hid (bl_step k4.out hc5)))
        go_ret
        exact ⟨rfl, hend.out _ k5.out⟩
      | true =>
        rw [h3] at GR
        cases h4 : rgtB N' A' with
        | false =>
          rw [h4] at GR'
          rw [alkV_bad (Or.inr h4)] at GK
          clear h3 h4
          go_enter Tryz.func5, Tryz.ntmps5
          go_wp2_with (first
            | (go_at_call 8; refine GW.out.mono ?_; clear GW; rintro e w1 ⟨rfl, hc1⟩; obtain ⟨⟨c0, c1⟩, c2, c3⟩ := hbx.out w1 hc1)
            | (go_at_call 9; refine (GH.out w1 hc1).mono ?_; clear GH; rintro e w2 ⟨rfl, hc2⟩; have k2 := hid (bl_step hc1 hc2); obtain ⟨⟨d0, d1⟩, d2, d3⟩ := hbx.out w2 k2.out)
            | (go_at_call 9; refine (GH'.out w2 k2.out).mono ?_; clear GH'; rintro e w3 ⟨rfl, hc3⟩; have k3 := hid (bl_step k2.out hc3); obtain ⟨⟨f0, f1⟩, f2, f3⟩ := hbx.out w3 k3.out)
            | (go_at_call 13; refine (GR.out w3 k3.out).mono ?_; clear GR; rintro e w4 ⟨rfl, hc4⟩; have k4 := hid (bl_step k3.out hc4); obtain ⟨⟨g0, g1⟩, g2, g3⟩ := hbx.out w4 k4.out)
            | (go_at_call 13; refine (GR'.out w4 k4.out).mono ?_; clear GR'; rintro e w5 ⟨rfl, hc5⟩; have k5 := hid (bl_step k4.out hc5); obtain ⟨⟨i0, i1⟩, i2, i3⟩ := hbx.out w5 k5.out)
            | (go_at_call 15; refine (GK.out w5 k5.out).mono ?_; clear GK; rintro e w6 ⟨rfl, hc6⟩; have k6 := hid (bl_step k5.out hc6)))
          go_ret
          exact ⟨rfl, hend.out _ k6.out⟩
        | true =>
          rw [h4] at GR'
          have H := hid (rgtA_of h3)
          have H' := hid (rgtA_of h4)
          clear h3 h4
          have GM := hid (fun u (hu : Below W1.heap.size W1 u) => refMakeGood _ _ N A u (hD1.out.keep hu) H.out)
          have GM' := hid (fun u (hu : Below W1.heap.size W1 u) => refMakeGood _ _ N' A' u (hD1'.out.keep hu) H'.out)
          have G3 : Hid (∀ na6 nc6 va6 vc6 M B na7 nc7 va7 vc7 M' B' u, MkR N A M B → MkR N' A' M' B' → Dfa u (.slice na6 M.length nc6) (.slice va6 B.length vc6) M B → Dfa u (.slice na7 M'.length nc7) (.slice va7 B'.length vc7) M' B' → Below W1.heap.size W1 u → (∀ u', Below u.heap.size u u' → Calls Tryz.prog 15 #[.agg #[.slice na N.length nc, .slice aa A.length ac], .agg #[.slice na' N'.length nc', .slice aa' A'.length ac']] u' fun z w' => z = .returned (.bool (decide (M = M' ∧ B = B'))) ∧ Below u'.heap.size u' w') ∧ (∀ u', Below u.heap.size u u' → Calls Tryz.prog 12 #[.agg #[.slice na6 M.length nc6, .slice va6 B.length vc6], .agg #[.slice na7 M'.length nc7, .slice va7 B'.length vc7]] u' fun e w' => e = .returned (.bool (decide (M = M' ∧ B = B'))) ∧ Below u'.heap.size u' w') ∧ (∀ u', Below u.heap.size u u' → Calls Tryz.prog 15 #[.agg #[.slice na N.length nc, .slice aa A.length ac], .agg #[.slice na N.length nc, .slice aa A.length ac]] u' fun z w' => z = .returned (.bool true) ∧ Below u'.heap.size u' w') ∧ (∀ u', Below u.heap.size u u' → Calls Tryz.prog 15 #[.agg #[.slice na6 M.length nc6, .slice va6 B.length vc6], .agg #[.slice na N.length nc, .slice aa A.length ac]] u' fun z w' => z = .returned (.bool true) ∧ Below u'.heap.size u' w')) := hid (fun na6 nc6 va6 vc6 M B na7 nc7 va7 vc7 M' B' u r6 r7 d6 d7 hu => by
            have q6 := r6.right H.out
            have q7 := r7.right H'.out
            have f6 := q6.few
            have f7 := q7.few
            have l6 := q6.len
            have l7 := q7.len
            refine ⟨fun u' h => ?_, fun u' h => ?_, fun u' h => ?_, fun u' h => ?_⟩
            · rw [← alkV_same H.out H'.out r6 r7]
              exact GK.out u' (bl_step hu h)
            · exact refSameG _ _ _ _ M M' B B' u' (d6.keep h) (d7.keep h) (by omega) (by omega) (by omega) (fun j hj => by rw [(q6.rgt j hj).1]; omega) (by omega) (fun j hj => by rw [(q7.rgt j hj).1]; omega)
            · have := alikeV _ _ _ _ N A N A u' (hD1.out.keep (bl_step hu h)) (hD1.out.keep (bl_step hu h)) hNl hNl
              rw [alkV_good H.out H.out (alike_self N A)] at this
              exact this
            · have := alikeV _ _ _ _ M B N A u' (d6.keep h) (hD1.out.keep (bl_step hu h)) (by omega) hNl
              rw [alkV_good q6 H.out (alike_made H.out r6)] at this
              exact this)
          clear GK hNl hNl' _hAw _hAw'
          go_enter Tryz.func5, Tryz.ntmps5
          go_wp2_with (first
            | (go_at_call 8; refine GW.out.mono ?_; clear GW; rintro e w1 ⟨rfl, hc1⟩; obtain ⟨⟨c0, c1⟩, c2, c3⟩ := hbx.out w1 hc1)
            | (go_at_call 9; refine (GH.out w1 hc1).mono ?_; clear GH; rintro e w2 ⟨rfl, hc2⟩; have k2 := hid (bl_step hc1 hc2); obtain ⟨⟨d0, d1⟩, d2, d3⟩ := hbx.out w2 k2.out)
            | (go_at_call 9; refine (GH'.out w2 k2.out).mono ?_; clear GH'; rintro e w3 ⟨rfl, hc3⟩; have k3 := hid (bl_step k2.out hc3); obtain ⟨⟨f0, f1⟩, f2, f3⟩ := hbx.out w3 k3.out)
            | (go_at_call 13; refine (GR.out w3 k3.out).mono ?_; clear GR; rintro e w4 ⟨rfl, hc4⟩; have k4 := hid (bl_step k3.out hc4); obtain ⟨⟨g0, g1⟩, g2, g3⟩ := hbx.out w4 k4.out)
            | (go_at_call 13; refine (GR'.out w4 k4.out).mono ?_; clear GR'; rintro e w5 ⟨rfl, hc5⟩; have k5 := hid (bl_step k4.out hc5); obtain ⟨⟨i0, i1⟩, i2, i3⟩ := hbx.out w5 k5.out)
            | (go_at_call 11; refine (GM.out w5 k5.out).mono ?_; clear GM; rintro e w6 ⟨nv6, av6, M6, B6, rfl, hR6, hD6, hc6⟩; obtain ⟨⟨na6, nc6, rfl⟩, ⟨va6, vc6, rfl⟩⟩ := hD6.shape; have hR6 := hid hR6; have hal6 := hid (al' w6 (.cells #[.slice na6 M6.length nc6, .slice va6 B6.length vc6] 25)); have hk6 := hid (heap_new w6 (.cells #[.slice na6 M6.length nc6, .slice va6 B6.length vc6] 25)); have k6 := hid (bl_step (bl_step k5.out hc6) hal6.out); have hD6 := hid (hD6.keep hal6.out); obtain ⟨⟨j0, j1⟩, j2, j3⟩ := hbx.out _ k6.out)
            | (go_at_call 11; refine (GM'.out _ k6.out).mono ?_; clear GM'; rintro e w7 ⟨nv7, av7, M7, B7, rfl, hR7, hD7, hc7⟩; obtain ⟨⟨na7, nc7, rfl⟩, ⟨va7, vc7, rfl⟩⟩ := hD7.shape; have hR7 := hid hR7; have hal7 := hid (al' w7 (.cells #[.slice na7 M7.length nc7, .slice va7 B7.length vc7] 25)); have hk7 := hid (heap_new w7 (.cells #[.slice na7 M7.length nc7, .slice va7 B7.length vc7] 25)); have k7 := hid (bl_step (bl_step k6.out hc7) hal7.out); have hD7 := hid (hD7.keep hal7.out); obtain ⟨⟨l0, l1⟩, l2, l3⟩ := hbx.out _ k7.out; obtain ⟨n0, n1, -⟩ := cells2m hk7.out; obtain ⟨m0, m1, -⟩ := cells2m (hs_keep (hs_keep hk6.out hc7) hal7.out)))
          obtain ⟨P1, P2, P3, P4⟩ := G3.out _ _ _ _ _ _ _ _ _ _ _ _ _ hR6.out hR7.out (hD6.out.keep (bl_step hc7 hal7.out)) hD7.out k7.out
          have P1 := hid P1
          have P2 := hid P2
          have P3 := hid P3
          have P4 := hid P4
          clear G3
          have hcell : Hid (∀ u, Below (w7.alloc (.cells #[.slice na7 M7.length nc7, .slice va7 B7.length vc7] 25)).heap.size (w7.alloc (.cells #[.slice na7 M7.length nc7, .slice va7 B7.length vc7] 25)) u → ((u.cell? ⟨w.heap.size, 0, none⟩ = some (.slice na N.length nc) ∧ u.cell? ⟨w.heap.size, 1, none⟩ = some (.slice aa A.length ac)) ∧ (u.cell? ⟨W0.heap.size, 0, none⟩ = some (.slice na' N'.length nc') ∧ u.cell? ⟨W0.heap.size, 1, none⟩ = some (.slice aa' A'.length ac'))) ∧ (u.cell? ⟨w6.heap.size, 0, none⟩ = some (.slice na6 M6.length nc6) ∧ u.cell? ⟨w6.heap.size, 1, none⟩ = some (.slice va6 B6.length vc6)) ∧ (u.cell? ⟨w7.heap.size, 0, none⟩ = some (.slice na7 M7.length nc7) ∧ u.cell? ⟨w7.heap.size, 1, none⟩ = some (.slice va7 B7.length vc7))) := hid (fun u hu => by
            obtain ⟨t0, t1, -⟩ := cells2m (hs_keep (hs_keep (hs_keep hk6.out hc7) hal7.out) hu)
            obtain ⟨t2, t3, -⟩ := cells2m (hs_keep hk7.out hu)
            exact ⟨hbx.out u (bl_step k7.out hu), ⟨t0, t1⟩, t2, t3⟩)
          clear c0 c1 c2 c3 d0 d1 d2 d3 f0 f1 f2 f3 g0 g1 g2 g3 i0 i1 i2 i3 j0 j1 j2 j3 l0 l1 l2 l3 m0 m1 n0 n1 hk6 hk7 hD6 hD7 hR6 hR7 hal6 hal7 hc7 hc6 k6 k5 k4 k3 k2
          generalize decide (M6 = M7 ∧ B6 = B7) = bb at P1 P2
          generalize w7.alloc (.cells #[.slice na7 M7.length nc7, .slice va7 B7.length vc7] 25) = WZ at *
          generalize w7.heap.size = b7 at *
          generalize w6.heap.size = b6 at *
          have hd := hid ((Below.refl WZ.heap.size WZ).drew)
          obtain ⟨⟨⟨a0, a1⟩, a2, a3⟩, ⟨a4, a5⟩, a6, a7⟩ := hcell.out WZ.drew hd.out
          go_region_held3 (fun w' => w'.cell? ⟨w.heap.size, 0, none⟩ = some (.slice na N.length nc) ∧ w'.cell? ⟨w.heap.size, 1, none⟩ = some (.slice aa A.length ac) ∧ w'.cell? ⟨W0.heap.size, 0, none⟩ = some (.slice na' N'.length nc') ∧ w'.cell? ⟨W0.heap.size, 1, none⟩ = some (.slice aa' A'.length ac') ∧ w'.cell? ⟨b6, 0, none⟩ = some (.slice na6 M6.length nc6) ∧ w'.cell? ⟨b6, 1, none⟩ = some (.slice va6 B6.length vc6) ∧ w'.cell? ⟨b7, 0, none⟩ = some (.slice na7 M7.length nc7) ∧ w'.cell? ⟨b7, 1, none⟩ = some (.slice va7 B7.length vc7)) (go_keep) ((first
            | (go_at_call 15; refine (P1.out WZ.drew hd.out).mono ?_; clear P1; rintro z x1 ⟨rfl, hx1⟩; have hx1 := hid (bl_step hd.out hx1); obtain ⟨⟨⟨b0, b1⟩, b2, b3⟩, ⟨b4, b5⟩, b6', b7'⟩ := hcell.out x1 hx1.out)
            | (go_at_call 12; refine (P2.out x1 hx1.out).mono ?_; clear P2; rintro z x2 ⟨rfl, hx2⟩; have hx2 := hid (bl_step hx1.out hx2); obtain ⟨⟨⟨c0, c1⟩, c2, c3⟩, ⟨c4, c5⟩, c6, c7⟩ := hcell.out x2 hx2.out)
            | (go_at_call 15; refine (P3.out x2 hx2.out).mono ?_; clear P3; rintro z x3 ⟨rfl, hx3⟩; have hx3 := hid (bl_step hx2.out hx3); obtain ⟨⟨⟨d0, d1⟩, d2, d3⟩, ⟨d4, d5⟩, d6, d7⟩ := hcell.out x3 hx3.out)
            | (go_at_call 15; refine (P4.out x3 hx3.out).mono ?_; clear P4; rintro z x4 ⟨rfl, hx4⟩; have hx4 := hid (bl_step hx3.out hx4); obtain ⟨⟨⟨e0, e1⟩, e2, e3⟩, ⟨e4, e5⟩, e6, e7⟩ := hcell.out x4 hx4.out)))
          all_goals
            go_wp2
            go_ret
            exact ⟨by simp, hend.out _ (bl_step k7.out hx4.out)⟩

end Go.Proofs.YtjelgphhlcecoaaGreatDoor
