/- LexOne's walk. -/
import Derived.Test.YtonlcnmlklaicaaGreatDoorJ34
import Derived.Test.YtonlcnmlklaicaaGreatDoorJA5
namespace Go.Proofs.YtonlcnmlklaicaaGreatDoor
open Go.RowKit Go.Maps

set_option maxRecDepth 20000 in
set_option maxHeartbeats 8000000 in
theorem lexOneWalk (nv av : Value) (N : List (List Int)) (A : List Int) (s : Txt) (a : Int) (w : World) (hNl : N.length ≤ 9223372036854775807) (hsl : s.length ≤ 140737488351232) (hD : Dfa w nv av N A) (hT : Tab w) :
    Calls Tryz.prog 3 #[.agg #[nv, av], .string (strT s), .int .i64 a] w fun e w' => e = .returned (.bool true) ∧ Below w.heap.size w w' := by
  obtain ⟨⟨na, nc, rfl⟩, ⟨aa, ac, rfl⟩⟩ := hD.shape
  obtain ⟨W0, hW0⟩ : ∃ W0, w.alloc (.cells #[.slice na N.length nc, .slice aa A.length ac] 25) = W0 := ⟨_, rfl⟩
  have hb0 : Hid (Below w.heap.size w W0) := by rw [← hW0]; exact hid (al' w _)
  have hz0 : Hid (W0.heap[w.heap.size]? = some (.cells #[.slice na N.length nc, .slice aa A.length ac] 25)) := by rw [← hW0]; exact hid (heap_new w _)
  have hD0 := hid (hD.keep hb0.out)
  have hbx : Hid (∀ u, Below W0.heap.size W0 u → u.cell? ⟨w.heap.size, 0, none⟩ = some (.slice na N.length nc) ∧ u.cell? ⟨w.heap.size, 1, none⟩ = some (.slice aa A.length ac)) := hid (fun u hu => by
    obtain ⟨d0, d1, -⟩ := cells2m (hs_keep hz0.out hu)
    exact ⟨d0, d1⟩)
  have GW := hid (wakes10 W0 (hT.keep hb0.out))
  have hend : Hid (∀ u, Below W0.heap.size W0 u → Below w.heap.size w u) := hid (fun u hu => bl_step hb0.out hu)
  have hsz := strT_size s
  clear hD hT
  by_cases h1 : 300 < s.length
  · have h1z : (300 : Int) < (s.length : Int) := by omega
    clear hz0 hD0
    go_enter Tryz.func3, Tryz.ntmps3
    go_wp2_with (go_at_call 7; refine GW.out.mono ?_; clear GW; rintro e w1 ⟨rfl, hc1⟩; have hc1 := hid hc1)
    go_ret
    exact ⟨rfl, hend.out _ hc1.out⟩
  have h1z : ¬ (300 : Int) < (s.length : Int) := by omega
  by_cases h2 : 300 < N.length
  · have h2z : (300 : Int) < (N.length : Int) := by omega
    clear hz0 hD0
    go_enter Tryz.func3, Tryz.ntmps3
    go_wp2_with (go_at_call 7; refine GW.out.mono ?_; clear GW; rintro e w1 ⟨rfl, hc1⟩; have hc1 := hid hc1; obtain ⟨c0, c1⟩ := hbx.out w1 hc1.out)
    go_ret
    exact ⟨rfl, hend.out _ hc1.out⟩
  have h2z : ¬ (300 : Int) < (N.length : Int) := by omega
  have GO := hid (fun u (hu : Below W0.heap.size W0 u) => lexOneC _ _ N A s a u (hD0.out.keep hu) hNl (by omega))
  have GR := hid (fun u (hu : Below W0.heap.size W0 u) => refRightA _ _ N A u (hD0.out.keep hu) hNl)
  cases hr : rgtB N A with
  | false =>
    have e9 : lexOneB N A s a = ((0, 0, 0), 0, 10) := if_pos (Or.inl hr)
    rw [e9] at GO
    rw [hr] at GR
    dsimp only at GO
    clear e9 hr
    go_enter Tryz.func3, Tryz.ntmps3
    go_wp2_with (first
      | (go_at_call 7; refine GW.out.mono ?_; clear GW; rintro e w1 ⟨rfl, hc1⟩; have hc1 := hid hc1; obtain ⟨c0, c1⟩ := hbx.out w1 hc1.out)
      | (go_at_call 8; refine (GO.out w1 hc1.out).mono ?_; clear GO; rintro e w2 ⟨rfl, hc2⟩; obtain ⟨⟨t0, -⟩, ⟨t1, -⟩, ⟨t2, -⟩⟩ := cells3m (heap_new w2 (.cells #[.int .i64 0, .int .i64 0, .int .i64 0] 28)); have hT2 := hid (heap_new w2 (.cells #[.int .i64 0, .int .i64 0, .int .i64 0] 28)); have k2 := hid (bl_step (bl_step hc1.out hc2) (al' w2 (.cells #[.int .i64 0, .int .i64 0, .int .i64 0] 28))); obtain ⟨d0, d1⟩ := hbx.out _ k2.out)
      | (go_at_call 9; refine (GR.out _ k2.out).mono ?_; clear GR; rintro e w3 ⟨rfl, hc3⟩; obtain ⟨⟨x0, -⟩, ⟨x1, -⟩, ⟨x2, -⟩⟩ := cells3m (hs_keep hT2.out hc3); have k3 := hid (bl_step k2.out hc3)))
    go_ret
    exact ⟨rfl, hend.out _ k3.out⟩
  | true =>
    rw [hr] at GR
    by_cases hbad : a < 0 ∨ (s.length : Int) < a
    · have e9 : lexOneB N A s a = ((0, 0, 0), 0, 10) := if_pos (Or.inr hbad)
      rw [e9] at GO
      dsimp only at GO
      clear e9 hr
      have hcase : (a < 0) ∨ (¬ a < 0 ∧ (s.length : Int) < a) := by omega
      clear hbad
      rcases hcase with h3 | ⟨h3, h4⟩
      all_goals
        go_enter Tryz.func3, Tryz.ntmps3
        go_wp2_with (first
          | (go_at_call 7; refine GW.out.mono ?_; clear GW; rintro e w1 ⟨rfl, hc1⟩; have hc1 := hid hc1; obtain ⟨c0, c1⟩ := hbx.out w1 hc1.out)
          | (go_at_call 8; refine (GO.out w1 hc1.out).mono ?_; clear GO; rintro e w2 ⟨rfl, hc2⟩; obtain ⟨⟨t0, -⟩, ⟨t1, -⟩, ⟨t2, -⟩⟩ := cells3m (heap_new w2 (.cells #[.int .i64 0, .int .i64 0, .int .i64 0] 28)); have hT2 := hid (heap_new w2 (.cells #[.int .i64 0, .int .i64 0, .int .i64 0] 28)); have k2 := hid (bl_step (bl_step hc1.out hc2) (al' w2 (.cells #[.int .i64 0, .int .i64 0, .int .i64 0] 28))); obtain ⟨d0, d1⟩ := hbx.out _ k2.out)
          | (go_at_call 9; refine (GR.out _ k2.out).mono ?_; clear GR; rintro e w3 ⟨rfl, hc3⟩; obtain ⟨⟨x0, -⟩, ⟨x1, -⟩, ⟨x2, -⟩⟩ := cells3m (hs_keep hT2.out hc3); have k3 := hid (bl_step k2.out hc3)))
        go_ret
        exact ⟨rfl, hend.out _ k3.out⟩
    · have h3 : ¬ a < 0 := fun h => hbad (Or.inl h)
      have h4 : ¬ (s.length : Int) < a := fun h => hbad (Or.inr h)
      obtain ⟨k, rfl⟩ : ∃ k : Nat, a = (k : Int) := ⟨a.toNat, by omega⟩
      have e9 : lexOneB N A s (k : Int) = if (lngR N A (s.drop k)).1.2 = 0 then ((0, 0, 0), ((k + (lngR N A (s.drop k)).2 : Nat) : Int), 4) else (((lngR N A (s.drop k)).1.1, (k : Int), ((lngR N A (s.drop k)).1.2 : Int)), ((k + (lngR N A (s.drop k)).2 : Nat) : Int), 0) := by
        unfold lexOneB
        rw [if_neg (fun h => h.elim (fun h => by rw [hr] at h; cases h) hbad), Int.toNat_natCast]
      rw [e9] at GO
      have GF := hid (fun u (hu : Below W0.heap.size W0 u) => refOneC _ _ N A s k u (hD0.out.keep hu) (rgtA_of hr) (by omega) (by omega))
      clear hr hbad e9
      generalize lngR N A (s.drop k) = R at *
      obtain ⟨⟨mr, ml⟩, se⟩ := R
      obtain ⟨q, hq⟩ : ∃ x : Nat, k + se = x := ⟨_, rfl⟩
      dsimp only at GO GF
      rw [hq] at GO GF
      by_cases hz : ml = 0
      · subst hz
        rw [if_pos rfl] at GO
        dsimp only at GO
        go_enter Tryz.func3, Tryz.ntmps3
        go_wp2_with (first
          | (go_at_call 7; refine GW.out.mono ?_; clear GW; rintro e w1 ⟨rfl, hc1⟩; have hc1 := hid hc1; obtain ⟨c0, c1⟩ := hbx.out w1 hc1.out)
          | (go_at_call 8; refine (GO.out w1 hc1.out).mono ?_; clear GO; rintro e w2 ⟨rfl, hc2⟩; obtain ⟨⟨t0, -⟩, ⟨t1, -⟩, ⟨t2, -⟩⟩ := cells3m (heap_new w2 (.cells #[.int .i64 0, .int .i64 0, .int .i64 0] 28)); have hT2 := hid (heap_new w2 (.cells #[.int .i64 0, .int .i64 0, .int .i64 0] 28)); have k2 := hid (bl_step (bl_step hc1.out hc2) (al' w2 (.cells #[.int .i64 0, .int .i64 0, .int .i64 0] 28))); obtain ⟨d0, d1⟩ := hbx.out _ k2.out)
          | (go_at_call 9; refine (GR.out _ k2.out).mono ?_; clear GR; rintro e w3 ⟨rfl, hc3⟩; have k3 := hid (bl_step k2.out hc3); have hT3 := hid (hs_keep hT2.out hc3); obtain ⟨f0, f1⟩ := hbx.out _ k3.out)
          | (go_at_call 10; refine (GF.out _ k3.out).mono ?_; clear GF; rintro e w4 ⟨rfl, hc4⟩; have hal4 := al' w4 (.cells #[.int .i64 mr, .int .i64 0, .int .i64 (q : Int)] 34); have k4 := hid (bl_step (bl_step k3.out hc4) hal4); obtain ⟨⟨y0, -⟩, ⟨y1, -⟩, ⟨y2, -⟩⟩ := cells3m (heap_new w4 (.cells #[.int .i64 mr, .int .i64 0, .int .i64 (q : Int)] 34)); obtain ⟨⟨x0, -⟩, ⟨x1, -⟩, ⟨x2, -⟩⟩ := cells3m (hs_keep (hs_keep hT3.out hc4) hal4)))
        go_ret
        exact ⟨by simp, hend.out _ k4.out⟩
      · rw [if_neg hz] at GO
        have hmz : ((ml : Int) == 0) = false := by rw [beq_eq_false_iff_ne]; omega
        dsimp only at GO
        go_enter Tryz.func3, Tryz.ntmps3
        go_wp2_with (first
          | (go_at_call 7; refine GW.out.mono ?_; clear GW; rintro e w1 ⟨rfl, hc1⟩; have hc1 := hid hc1; obtain ⟨c0, c1⟩ := hbx.out w1 hc1.out)
          | (go_at_call 8; refine (GO.out w1 hc1.out).mono ?_; clear GO; rintro e w2 ⟨rfl, hc2⟩; obtain ⟨⟨t0, -⟩, ⟨t1, -⟩, ⟨t2, -⟩⟩ := cells3m (heap_new w2 (.cells #[.int .i64 mr, .int .i64 (k : Int), .int .i64 (ml : Int)] 28)); have hT2 := hid (heap_new w2 (.cells #[.int .i64 mr, .int .i64 (k : Int), .int .i64 (ml : Int)] 28)); have k2 := hid (bl_step (bl_step hc1.out hc2) (al' w2 (.cells #[.int .i64 mr, .int .i64 (k : Int), .int .i64 (ml : Int)] 28))); obtain ⟨d0, d1⟩ := hbx.out _ k2.out)
          | (go_at_call 9; refine (GR.out _ k2.out).mono ?_; clear GR; rintro e w3 ⟨rfl, hc3⟩; have k3 := hid (bl_step k2.out hc3); have hT3 := hid (hs_keep hT2.out hc3); obtain ⟨f0, f1⟩ := hbx.out _ k3.out)
          | (go_at_call 10; refine (GF.out _ k3.out).mono ?_; clear GF; rintro e w4 ⟨rfl, hc4⟩; have hal4 := al' w4 (.cells #[.int .i64 mr, .int .i64 (ml : Int), .int .i64 (q : Int)] 34); have k4 := hid (bl_step (bl_step k3.out hc4) hal4); obtain ⟨⟨y0, -⟩, ⟨y1, -⟩, ⟨y2, -⟩⟩ := cells3m (heap_new w4 (.cells #[.int .i64 mr, .int .i64 (ml : Int), .int .i64 (q : Int)] 34)); obtain ⟨⟨x0, -⟩, ⟨x1, -⟩, ⟨x2, -⟩⟩ := cells3m (hs_keep (hs_keep hT3.out hc4) hal4)))
        go_ret
        exact ⟨by simp, hend.out _ k4.out⟩

end Go.Proofs.YtonlcnmlklaicaaGreatDoor
