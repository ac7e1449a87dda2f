/- DfaRight's walk. -/
import Derived.Test.YtlpbeieljjgbaaaGreatDoorJ42
import Derived.Lib.QuietBelow
import Derived.BigQuiet
namespace Go.Proofs.YtlpbeieljjgbaaaGreatDoor
open Go.RowKit Go.Sort

set_option maxRecDepth 20000 in
set_option maxHeartbeats 8000000 in
theorem rightWalk (nv av : Value) (N : List (List Int)) (A : List Int) (s : Txt) (w : World) (hNl : N.length ≤ 9223372036854775807) (hls : s.length ≤ 140737488351232) (hN : Numss w nv N) (hA : Nums w av A) (hT : Tab w) :
    Calls Tryz.prog 3 #[.agg #[nv, av], .string (strT s)] w fun e w' => e = .returned (.bool true) ∧ Below w.heap.size w w' := by
  have hal : Hid (Below w.heap.size w (w.alloc (.cells #[nv, av] 25))) := hid (al' w _)
  have GW := hid (wakes8 _ (hT.keep hal.out))
  obtain ⟨na, nc, rfl⟩ : ∃ a c, nv = .slice a N.length c := by obtain ⟨a, c, e, _⟩ := hN; exact ⟨a, c, e⟩
  obtain ⟨va, vc, rfl⟩ : ∃ a c, av = .slice a A.length c := by obtain ⟨a, c, e, _⟩ := hA; exact ⟨a, c, e⟩
  have hsz := strT_size s
  have hbk := hid (heap_new w (.cells #[.slice na N.length nc, .slice va A.length vc] 25))
  have hN' := hid (hN.keep hal.out)
  have hA' := hid (hA.keep hal.out)
  clear hN hA hT
  have hcs : Hid (∀ u, Below (w.alloc (.cells #[.slice na N.length nc, .slice va A.length vc] 25)).heap.size (w.alloc (.cells #[.slice na N.length nc, .slice va A.length vc] 25)) u → u.cell? ⟨w.heap.size, 0, none⟩ = some (.slice na N.length nc) ∧ u.cell? ⟨w.heap.size, 1, none⟩ = some (.slice va A.length vc)) := hid (fun u hu => ⟨keep_cell hu (blk_cell hbk.out rfl), keep_cell hu (blk_cell hbk.out rfl)⟩)
  clear hbk
  by_cases h300 : N.length ≤ 300
  case neg =>
    have hz : (300 : Int) < (N.length : Int) := by omega
    clear hN' hA'
    go_enter Tryz.func3, Tryz.ntmps3
    go_wp2_with (go_at_call 8; refine GW.out.mono ?_; rintro e w1 ⟨rfl, hb1⟩; obtain ⟨c0, c1⟩ := hcs.out w1 hb1)
    go_ret
    exact ⟨rfl, bl_step hal.out hb1⟩
  have hz : ¬ (300 : Int) < (N.length : Int) := by omega
  by_cases h1000 : s.length ≤ 1000
  case neg =>
    have hz2 : (1000 : Int) < (s.length : Int) := by omega
    clear hN' hA'
    go_enter Tryz.func3, Tryz.ntmps3
    go_wp2_with (go_at_call 8; refine GW.out.mono ?_; rintro e w1 ⟨rfl, hb1⟩; obtain ⟨c0, c1⟩ := hcs.out w1 hb1)
    go_ret
    exact ⟨rfl, bl_step hal.out hb1⟩
  have hz2 : ¬ (1000 : Int) < (s.length : Int) := by omega
  have GR := hid (fun u (hu : Below _ _ u) => refRight _ _ N A u (hN'.out.keep hu) (hA'.out.keep hu) (by omega))
  have GD := hid (fun u (hu : Below _ _ u) => rightD _ _ N A u (hN'.out.keep hu) (hA'.out.keep hu) (by omega))
  have GG := hid (fun u (hu : Below _ _ u) => goD _ _ N A s u (hN'.out.keep hu) (hA'.out.keep hu) (by omega) (by omega))
  have GA := hid (fun u (hu : Below _ _ u) => acceptsD _ _ N A s u (hN'.out.keep hu) (hA'.out.keep hu) (by omega) (by omega))
  cases hr : rgtB N A with
  | false =>
    rw [hr] at GR GD
    rw [goB_no hr] at GG
    have e1 : accB N A s = -1 := by unfold accB; rw [goB_no hr, if_pos rfl]
    rw [e1] at GA
    clear e1 hr hN' hA'
    go_enter Tryz.func3, Tryz.ntmps3
    go_wp2_with (first
      | (go_at_call 8; refine GW.out.mono ?_; rintro e w1 ⟨rfl, hb1⟩; have h1 := hid hb1; obtain ⟨c0, c1⟩ := hcs.out w1 hb1)
      | (go_at_call 9; refine (GR.out w1 h1.out).mono ?_; rintro e w2 ⟨rfl, hb2⟩; have h2 := hid (bl_step h1.out hb2); obtain ⟨c20, c21⟩ := hcs.out w2 h2.out)
      | (go_at_call 10; refine (GD.out w2 h2.out).mono ?_; rintro e w3 ⟨rfl, hb3⟩; have h3 := hid (bl_step h2.out hb3); obtain ⟨c30, c31⟩ := hcs.out w3 h3.out)
      | (go_at_call 11; refine (GG.out w3 h3.out).mono ?_; rintro e w4 ⟨rfl, hb4⟩; have h4 := hid (bl_step h3.out hb4); obtain ⟨c40, c41⟩ := hcs.out w4 h4.out)
      | (go_at_call 12; refine (GA.out w4 h4.out).mono ?_; rintro e w5 ⟨rfl, hb5⟩))
    go_ret
    exact ⟨by simp, bl_step hal.out (bl_step h4.out hb5)⟩
  | true =>
    have H := rgtA_of hr
    have GF := hid (fun u (hu : Below _ _ u) => refGo (.slice na N.length nc) (.slice va A.length vc) N s u (hN'.out.keep hu) H.rgt H.pos (by omega) (by omega))
    have hin := goK_in H.rgt H.pos s s.length
    have hlen := hid H.len
    rw [hr] at GR GD
    rw [goB_yes hr] at GG
    have hacc : Hid (accB N A s = if goK N s s.length = -1 then -1 else A.getD (goK N s s.length).toNat 0) := hid (by unfold accB; rw [goB_yes hr])
    have hAc := hid (fun u (hu : Below _ _ u) => nums_cell (hA'.out.keep hu))
    clear hr H hN' hA'
    generalize goK N s s.length = g at GF GG hin hacc
    by_cases hg : g = -1
    · subst hg
      rw [hacc.out, if_pos rfl] at GA
      clear hacc hAc hlen
      go_enter Tryz.func3, Tryz.ntmps3
      go_wp2_with (first
        | (go_at_call 8; refine GW.out.mono ?_; rintro e w1 ⟨rfl, hb1⟩; have h1 := hid hb1; obtain ⟨c0, c1⟩ := hcs.out w1 hb1)
        | (go_at_call 9; refine (GR.out w1 h1.out).mono ?_; rintro e w2 ⟨rfl, hb2⟩; have h2 := hid (bl_step h1.out hb2); obtain ⟨c20, c21⟩ := hcs.out w2 h2.out)
        | (go_at_call 13; refine (GF.out w2 h2.out).mono ?_; rintro e w3 ⟨rfl, hb3⟩; have h3 := hid (bl_step h2.out hb3); obtain ⟨c30, c31⟩ := hcs.out w3 h3.out)
        | (go_at_call 10; refine (GD.out w3 h3.out).mono ?_; rintro e w4 ⟨rfl, hb4⟩; have h4 := hid (bl_step h3.out hb4); obtain ⟨c40, c41⟩ := hcs.out w4 h4.out)
        | (go_at_call 11; refine (GG.out w4 h4.out).mono ?_; rintro e w5 ⟨rfl, hb5⟩; have h5 := hid (bl_step h4.out hb5); obtain ⟨c50, c51⟩ := hcs.out w5 h5.out))
      have k0 := cell_regrown c50
      have k1 := cell_regrown c51
      have cA : Hid (∀ d os, Calls Tryz.prog 12 #[.agg #[.slice na N.length nc, .slice va A.length vc], .string (strT s)] (grow (redrawn w5 d) os) fun e w'' => e = .returned (.int .i64 (-1)) ∧ ∃ p : Regrown, w'' = grow (redrawn w5 p.d) p.os) := hid (fun d os => Calls.regrown_of (GA.out _ (bl_step h5.out (below_regrown w5 d os))))
      refine wp_region_quiet_below (by kernel_rfl) (by kernel_rfl) ?_
      repeat (first | go_big_quiet_step (exact cA.out _ _) | quiet_step (exact cA.out _ _))
      refine wpQuiet_nil ?_
      intro _ hw'
      obtain ⟨⟨dq, osq⟩, hw''⟩ := hw'
      subst hw''
      go_wp2
      go_ret
      exact ⟨by simp, bl_step hal.out (bl_step h5.out (below_regrown w5 dq osq))⟩
    · obtain ⟨m, rfl⟩ : ∃ m : Nat, g = (m : Int) := ⟨g.toNat, by omega⟩
      have hmA : m < A.length := by rw [← hlen.out]; omega
      rw [hacc.out, if_neg hg, Int.toNat_natCast] at GA
      have hy := hid (fun u (hu : Below _ _ u) => hAc.out u hu m hmA)
      obtain ⟨b2, o2, rfl, _, _⟩ := hy.out _ (Below.refl _ _)
      have hy' : Hid (∀ u, Below (w.alloc (.cells #[.slice na N.length nc, .slice (some ⟨b2, o2, none⟩) A.length vc] 25)).heap.size (w.alloc (.cells #[.slice na N.length nc, .slice (some ⟨b2, o2, none⟩) A.length vc] 25)) u → u.cell? ⟨b2, o2 + m, none⟩ = some (.int .i64 (A.getD m 0))) := hid (fun u hu => by
        obtain ⟨b3, o3, e, _, h⟩ := hy.out u hu
        cases e
        exact h)
      have hmz : (m : Int) < (A.length : Int) := by omega
      clear hacc hAc hlen hy hin hg
      generalize A.getD m 0 = y at hy' GA
      generalize A.length = nA at *
      go_enter Tryz.func3, Tryz.ntmps3
      go_wp2_with (first
        | (go_at_call 8; refine GW.out.mono ?_; rintro e w1 ⟨rfl, hb1⟩; have h1 := hid hb1; obtain ⟨c0, c1⟩ := hcs.out w1 hb1)
        | (go_at_call 9; refine (GR.out w1 h1.out).mono ?_; rintro e w2 ⟨rfl, hb2⟩; have h2 := hid (bl_step h1.out hb2); obtain ⟨c20, c21⟩ := hcs.out w2 h2.out)
        | (go_at_call 13; refine (GF.out w2 h2.out).mono ?_; rintro e w3 ⟨rfl, hb3⟩; have h3 := hid (bl_step h2.out hb3); obtain ⟨c30, c31⟩ := hcs.out w3 h3.out)
        | (go_at_call 10; refine (GD.out w3 h3.out).mono ?_; rintro e w4 ⟨rfl, hb4⟩; have h4 := hid (bl_step h3.out hb4); obtain ⟨c40, c41⟩ := hcs.out w4 h4.out)
        | (go_at_call 11; refine (GG.out w4 h4.out).mono ?_; rintro e w5 ⟨rfl, hb5⟩; have h5 := hid (bl_step h4.out hb5); obtain ⟨c50, c51⟩ := hcs.out w5 h5.out))
      have k0 := cell_regrown c50
      have k1 := cell_regrown c51
      have ky := cell_regrown (hy'.out _ h5.out)
      have hd1 : decide ((m : Int) < 0) = false := by simp
      have hd2 : decide (0 ≤ (m : Int)) = true := by simp
      have cA : Hid (∀ d os, Calls Tryz.prog 12 #[.agg #[.slice na N.length nc, .slice (some ⟨b2, o2, none⟩) nA vc], .string (strT s)] (grow (redrawn w5 d) os) fun e w'' => e = .returned (.int .i64 (y)) ∧ ∃ p : Regrown, w'' = grow (redrawn w5 p.d) p.os) := hid (fun d os => Calls.regrown_of (GA.out _ (bl_step h5.out (below_regrown w5 d os))))
      refine wp_region_quiet_below (by kernel_rfl) (by kernel_rfl) ?_
      repeat (first | go_big_quiet_step (exact cA.out _ _) | quiet_step (exact cA.out _ _))
      refine wpQuiet_nil ?_
      intro _ hw'
      obtain ⟨⟨dq, osq⟩, hw''⟩ := hw'
      subst hw''
      go_wp2
      go_ret
      exact ⟨by simp, bl_step hal.out (bl_step h5.out (below_regrown w5 dq osq))⟩

end Go.Proofs.YtlpbeieljjgbaaaGreatDoor
