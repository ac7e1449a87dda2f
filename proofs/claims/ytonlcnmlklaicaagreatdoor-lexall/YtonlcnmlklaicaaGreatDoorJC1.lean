/- LexAll's walk. -/
import Derived.Test.YtonlcnmlklaicaaGreatDoorJ34
import Derived.Test.YtonlcnmlklaicaaGreatDoorJA6
import Derived.Test.YtonlcnmlklaicaaGreatDoorJ9
import Derived.Deep.RegionHeld3
namespace Go.Proofs.YtonlcnmlklaicaaGreatDoor
open Go.RowKit Go.Maps

set_option maxRecDepth 20000 in
set_option maxHeartbeats 8000000 in
theorem lexAllWalk (nv av : Value) (N : List (List Int)) (A : List Int) (s : Txt) (w : World) (hNl : N.length ≤ 9223372036854775807) (hsl : s.length ≤ 140737488351232) (hD : Dfa w nv av N A) (hT : Tab w) :
    Calls Tryz.prog 4 #[.agg #[nv, av], .string (strT s)] w fun e w' => e = .returned (.bool true) ∧ Below w.heap.size w w' := by
  obtain ⟨⟨na, nc, rfl⟩, ⟨aa, ac, rfl⟩⟩ := hD.shape
  obtain ⟨W0, hW0⟩ : ∃ W0, w.alloc (.cells #[.slice na N.length nc, .slice aa A.length ac] 25) = W0 := ⟨_, rfl⟩
  have hb0 : Hid (Below w.heap.size w W0) := by rw [← hW0]; exact hid (al' w _)
  have hz0 : Hid (W0.heap[w.heap.size]? = some (.cells #[.slice na N.length nc, .slice aa A.length ac] 25)) := by rw [← hW0]; exact hid (heap_new w _)
  have hD0 := hid (hD.keep hb0.out)
  have hbx : Hid (∀ u, Below W0.heap.size W0 u → u.cell? ⟨w.heap.size, 0, none⟩ = some (.slice na N.length nc) ∧ u.cell? ⟨w.heap.size, 1, none⟩ = some (.slice aa A.length ac)) := hid (fun u hu => by
    obtain ⟨d0, d1, -⟩ := cells2m (hs_keep hz0.out hu)
    exact ⟨d0, d1⟩)
  have GW := hid (wakes10 W0 (hT.keep hb0.out))
  have hend : Hid (∀ u, Below W0.heap.size W0 u → Below w.heap.size w u) := hid (fun u hu => bl_step hb0.out hu)
  have hsz := strT_size s
  clear hD hT
  by_cases h1 : 200 < s.length
  · have h1z : (200 : Int) < (s.length : Int) := by omega
    clear hz0 hD0
    go_enter Tryz.func4, Tryz.ntmps4
    go_wp2_with (go_at_call 7; refine GW.out.mono ?_; clear GW; rintro e w1 ⟨rfl, hc1⟩; have hc1 := hid hc1)
    go_ret
    exact ⟨rfl, hend.out _ hc1.out⟩
  have h1z : ¬ (200 : Int) < (s.length : Int) := by omega
  by_cases h2 : 300 < N.length
  · have h2z : (300 : Int) < (N.length : Int) := by omega
    clear hz0 hD0
    go_enter Tryz.func4, Tryz.ntmps4
    go_wp2_with (go_at_call 7; refine GW.out.mono ?_; clear GW; rintro e w1 ⟨rfl, hc1⟩; have hc1 := hid hc1; obtain ⟨c0, c1⟩ := hbx.out w1 hc1.out)
    go_ret
    exact ⟨rfl, hend.out _ hc1.out⟩
  have h2z : ¬ (300 : Int) < (N.length : Int) := by omega
  have GA := hid (fun u (hu : Below W0.heap.size W0 u) => lexAllC _ _ N A s u (hD0.out.keep hu) hNl (by omega))
  have GS := hid (fun u (hu : Below W0.heap.size W0 u) => lexSeenC _ _ N A s u (hD0.out.keep hu) hNl (by omega))
  have GF := hid (fun u (hu : Below W0.heap.size W0 u) => refAllC _ _ N A s u (hD0.out.keep hu) hNl (by omega))
  have hfew := hid (lexCutB_few N A s)
  generalize lexCutB N A s = R at *
  obtain ⟨l, sn, at'⟩ := R
  dsimp only at GA GS GF
  have hfew : Hid (l.length ≤ 200 ∧ sn.length ≤ 200) := hid (by have := hfew.out; dsimp only at this; omega)
  go_enter Tryz.func4, Tryz.ntmps4
  go_wp2_with (first
    | (go_at_call 7; refine GW.out.mono ?_; clear GW; rintro e w1 ⟨rfl, hc1⟩; have hc1 := hid hc1; obtain ⟨c0, c1⟩ := hbx.out w1 hc1.out)
    | (go_at_call 11; refine (GA.out w1 hc1.out).mono ?_; clear GA; rintro e w2 ⟨tv, rfl, hO2, hc2⟩; obtain ⟨ta, tc, rfl⟩ := own_shape hO2; have hO2 := hid hO2; have k2 := hid (bl_step hc1.out hc2); obtain ⟨d0, d1⟩ := hbx.out _ k2.out)
    | (go_at_call 12; refine (GF.out w2 k2.out).mono ?_; clear GF; rintro e w3 ⟨tv3, sv3, rfl, hC3⟩; obtain ⟨tb, tcb, rfl⟩ := own_shape hC3.tk; obtain ⟨sb, scb, rfl⟩ := own_shape hC3.se; have hC3 := hid hC3))
  have hal3 := hid (al' w3 (.cells #[.slice tb l.length tcb, .slice sb (snI sn).length scb, .int .i64 at'] 41))
  have hk3 := hid (heap_new w3 (.cells #[.slice tb l.length tcb, .slice sb (snI sn).length scb, .int .i64 at'] 41))
  have k3 := hid (bl_step (bl_step k2.out hC3.out.low) hal3.out)
  obtain ⟨WZ, hWZ⟩ : ∃ x, w3.alloc (.cells #[.slice tb l.length tcb, .slice sb (snI sn).length scb, .int .i64 at'] 41) = x := ⟨_, rfl⟩
  rw [hWZ] at hal3 hk3 k3
  have P1 : Hid (∀ u, Below WZ.heap.size WZ u → Calls Tryz.prog 13 #[.slice ta l.length tc, .slice tb l.length tcb] u fun e w' => e = .returned (.bool true) ∧ Below u.heap.size u w') := hid (fun u hu => by
    have h := tkSame _ _ _ _ l l u (own_below (own_below (own_below hO2.out hC3.out.low) hal3.out) hu) (own_below (own_below hC3.out.tk hal3.out) hu) (by have := hfew.out; omega) (by have := hfew.out; omega)
    rw [decide_eq_true rfl] at h
    exact h)
  have P2 := hid (fun u (hu : Below WZ.heap.size WZ u) => GS.out u (bl_step k3.out hu))
  have P3 : Hid (∀ u sv B, Own u B sv (snI sn) → Below WZ.heap.size WZ u → Calls Tryz.prog 14 #[sv, .slice sb (snI sn).length scb] u fun e w' => e = .returned (.bool true) ∧ Below u.heap.size u w') := hid (fun u sv B h hu => by
    have h := refSame sv _ (snI sn) (snI sn) u (by rw [snI_len]; have := hfew.out; omega) (by rw [snI_len]; have := hfew.out; omega) (Nums.of_row h) (Nums.of_row (own_below (own_below hC3.out.se hal3.out) hu))
    rw [decide_eq_true rfl] at h
    exact h)
  have hcell : Hid (∀ u, Below WZ.heap.size WZ u → (u.cell? ⟨w.heap.size, 0, none⟩ = some (.slice na N.length nc) ∧ u.cell? ⟨w.heap.size, 1, none⟩ = some (.slice aa A.length ac)) ∧ u.cell? ⟨w3.heap.size, 0, none⟩ = some (.slice tb l.length tcb) ∧ u.cell? ⟨w3.heap.size, 1, none⟩ = some (.slice sb (snI sn).length scb) ∧ u.cell? ⟨w3.heap.size, 2, none⟩ = some (.int .i64 at')) := hid (fun u hu => by
    have h := cells3m (hs_keep hk3.out hu)
    exact ⟨hbx.out u (bl_step k3.out hu), h.1.1, h.2.1.1, h.2.2.1⟩)
  clear hO2 hC3 hk3 hal3 hfew GS c0 c1 d0 d1 k2
  generalize (snI sn).length = ns at *
  generalize l.length = nl at *
  generalize w3.heap.size = b3 at *
  have hd := hid ((Below.refl WZ.heap.size WZ).drew)
  obtain ⟨⟨a0, a1⟩, a2, a3, a4⟩ := hcell.out WZ.drew hd.out
  go_region_held3 (fun w' => w'.cell? ⟨w.heap.size, 0, none⟩ = some (.slice na N.length nc) ∧ w'.cell? ⟨w.heap.size, 1, none⟩ = some (.slice aa A.length ac) ∧ w'.cell? ⟨b3, 0, none⟩ = some (.slice tb nl tcb) ∧ w'.cell? ⟨b3, 1, none⟩ = some (.slice sb ns scb) ∧ w'.cell? ⟨b3, 2, none⟩ = some (.int .i64 at')) (go_keep) ((first
    | (go_at_call 13; refine (P1.out WZ.drew hd.out).mono ?_; clear P1; rintro z x1 ⟨rfl, hx1⟩; have hx1 := hid (bl_step hd.out hx1); obtain ⟨⟨b0, b1⟩, b2, b3', b4⟩ := hcell.out x1 hx1.out)
    | (go_at_call 15; refine (P2.out x1 hx1.out).mono ?_; clear P2; rintro z x2 ⟨sv, rfl, hO, hx2⟩; have hO := hid hO; have hx2 := hid (bl_step hx1.out hx2); obtain ⟨⟨e0, e1⟩, e2, e3, e4⟩ := hcell.out x2 hx2.out)
    | (go_at_call 14; refine (P3.out x2 _ _ hO.out hx2.out).mono ?_; clear P3; rintro z x3 ⟨rfl, hx3⟩; have hx3 := hid (bl_step hx2.out hx3); obtain ⟨⟨f0, f1⟩, f2, f3, f4⟩ := hcell.out x3 hx3.out)))
  all_goals
    go_wp2
    go_ret
    exact ⟨by simp, hend.out _ (bl_step k3.out hx3.out)⟩

end Go.Proofs.YtonlcnmlklaicaaGreatDoor
