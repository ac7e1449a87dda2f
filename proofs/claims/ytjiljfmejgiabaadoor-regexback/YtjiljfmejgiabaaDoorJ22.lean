/- The reference: told, where it is a class (toldSome). The reference: told. -/
import Derived.Test.YtjiljfmejgiabaaDoorJ13
import Derived.Test.YtjiljfmejgiabaaDoorJ21
namespace Go.Proofs.YtjiljfmejgiabaaDoor
open Go.RowKit

set_option maxRecDepth 8000 in
set_option maxHeartbeats 8000000 in
theorem toldSome (sa sb sc sd : Nat) (w : World) (hS : Fit4 ⟨sa, sb, sc, sd⟩) (h1 : ¬ countB ⟨sa, sb, sc, sd⟩ = 1) (h255' : ¬ countB ⟨sa, sb, sc, sd⟩ = 255) (h255 : ¬ (countB ⟨sa, sb, sc, sd⟩ = 255 ∧ hasB ⟨sa, sb, sc, sd⟩ 10 = false)) :
    Calls Tryd.prog 25 #[valB ⟨sa, sb, sc, sd⟩] w fun e w' => e = .returned (.string (strT (toldL ⟨sa, sb, sc, sd⟩))) ∧ Below w.heap.size w w' := by
  have GC := hid (fun u => refCount sa sb sc sd u hS)
  have GL := hid (fun u => refLeast sa sb sc sd u hS)
  have GH := hid (fun x u (hx : x < 256) => hasC ⟨sa, sb, sc, sd⟩ x u hS hx)
  have GA : Hid (∀ b u, b < 256 → Calls Tryd.prog 36 #[.int .i64 ((b : Nat) : Int), .string ⟨#[91, 93, 94, 45, 92, 47]⟩] u fun e w' => e = .returned (.string (strT (aloneL b tellC))) ∧ Below u.heap.size u w') := hid (fun b u hb => by
    have := refAlone b ⟨#[91, 93, 94, 45, 92, 47]⟩ u hb (by decide)
    rwa [tellC_eq] at this)
  have GA' : Hid (∀ b u, b < 256 → Calls Tryd.prog 36 #[.int .i64 ((b : Nat) : Int), .string ⟨#[46, 42, 43, 63, 40, 41, 91, 93, 124, 92, 47]⟩] u fun e w' => e = .returned (.string (strT (aloneL b tellA))) ∧ Below u.heap.size u w') := hid (fun b u hb => by
    have := refAlone b ⟨#[46, 42, 43, 63, 40, 41, 91, 93, 124, 92, 47]⟩ u hb (by decide)
    rwa [tellA_eq] at this)
  have hal := al' w (.cells #[.int .u64 (sa : Int), .int .u64 (sb : Int), .int .u64 (sc : Int), .int .u64 (sd : Int)] 44)
  have b0 : Hid (Blk (w.alloc (.cells #[.int .u64 (sa : Int), .int .u64 (sb : Int), .int .u64 (sc : Int), .int .u64 (sd : Int)] 44)) w.heap.size ⟨sa, sb, sc, sd⟩) := hid (heap_new w _)
  have h1z : (((countB ⟨sa, sb, sc, sd⟩ : Nat) : Int) == 1) = false := beq_eq_false_iff_ne.2 (by omega)
  have e : toldL ⟨sa, sb, sc, sd⟩ = (91 :: runsL ⟨sa, sb, sc, sd⟩ 0 257) ++ [93] := by unfold toldL; rw [if_neg h1, if_neg h255]; rfl
  rw [e, ← strT_app]
  have hT0 : Hid ([91] ++ runsL ⟨sa, sb, sc, sd⟩ 0 257 = 91 :: runsL ⟨sa, sb, sc, sd⟩ 0 257) := hid rfl
  generalize 91 :: runsL ⟨sa, sb, sc, sd⟩ 0 257 = T at hT0 ⊢
  have hstep := hid (fun A b f n => @told_step ⟨sa, sb, sc, sd⟩ A T b f n)
  have hend := hid (fun A b f => @told_end ⟨sa, sb, sc, sd⟩ A T b f)
  have hrs := hid (fun b k => @run_step ⟨sa, sb, sc, sd⟩ b k)
  have hrt := hid (fun b k => @run_stop ⟨sa, sb, sc, sd⟩ b k)
  have hrl := hid (fun b => runN_le ⟨sa, sb, sc, sd⟩ 256 b)
  obtain ⟨N, hN⟩ : ∃ N : Nat → Nat, Hid (∀ b, N b = runN ⟨sa, sb, sc, sd⟩ b 256) := ⟨_, hid (fun _ => rfl)⟩
  clear e hS
  have h2z : (((countB ⟨sa, sb, sc, sd⟩ : Nat) : Int) == 255) = false := beq_eq_false_iff_ne.2 (by omega)
  generalize countB ⟨sa, sb, sc, sd⟩ = C at GC h1z h2z
  clear h1 h255 h255' GL GA'
  go_enter Tryd.func25, Tryd.ntmps25
  go_wp2_with (first
    | (go_at_call 35; refine (GC.out w1).mono ?_; rintro e w2 ⟨rfl, hb2⟩; have b2 := hid (b1.out.keep hb2); obtain ⟨t0, t1, t2, t3, t4, t5, t6, t7⟩ := b2.out.cells)
    | (go_at_call 35; refine (GC.out _).mono ?_; rintro e w1 ⟨rfl, hb1⟩; have b1 := hid (b0.out.keep hb1); obtain ⟨s0, s1, s2, s3, s4, s5, s6, s7⟩ := b1.out.cells))
  have bX := b2
  have hbX := bl_step (bl_step hal hb1) hb2
  clear b1 b2 hb1 hb2
  generalize w2 = wX at bX hbX ⊢
  go_loopw [3, 4] (fun o i wr => ∃ (b f : Nat) (A : Txt), b ≤ 257 ∧ i = .int .i64 b ∧ o = .string (strT A) ∧ Hid (257 ≤ b + f ∧ A ++ runsL ⟨sa, sb, sc, sd⟩ b f = T) ∧ A.length ≤ 9 * b + 1 ∧ Hid (Blk wr w.heap.size ⟨sa, sb, sc, sd⟩) ∧ Below w.heap.size w wr) (fun _ i _ => 257 - (intOf i).toNat)
  case atStart => exact ⟨0, 257, [91], by omega, rfl, rfl, hid ⟨by omega, hT0.out⟩, by simp, bX, hbX⟩
  case round =>
    obtain ⟨b, f, A, hb, rfl, rfl, hfT, hAl, bR, hbR⟩ := hrel
    have hAs := strT_size A
    by_cases hlt : b < 256
    · have hltz : (b : Int) < 256 := by omega
      have hrl0 := hrl.out b
      have hN0 := hid (hN.out b)
      go_wp2_with fail
      go_loopw [5] (fun n wq => ∃ k : Nat, n = .int .i64 k ∧ b + k ≤ 256 ∧ Hid (k + runN ⟨sa, sb, sc, sd⟩ (b + k) (256 - k) = runN ⟨sa, sb, sc, sd⟩ b 256) ∧ Hid (Blk wq w.heap.size ⟨sa, sb, sc, sd⟩) ∧ Below w.heap.size w wq) (fun n _ => 256 - (intOf n).toNat)
      case atStart => exact ⟨0, rfl, by omega, hid (by simp), bR, hbR⟩
      case round =>
        obtain ⟨k, rfl, hk, hrun, bQ, hbQ⟩ := hrel
        obtain ⟨q0, q1, q2, q3, q4, q5, q6, q7⟩ := bQ.out.cells
        by_cases hkl : b + k < 256
        · have hklz : (b : Int) + (k : Int) < 256 := by omega
          have hcast : (b : Int) + (k : Int) = ((b + k : Nat) : Int) := by omega
          cases hh : hasB ⟨sa, sb, sc, sd⟩ (b + k) with
          | true =>
            have hr2 := hid (hrs.out b k hkl hh hrun.out)
            have GH1 : Hid (∀ u, Calls Tryd.prog 38 #[.agg #[.int .u64 (sa : Int), .int .u64 (sb : Int), .int .u64 (sc : Int), .int .u64 (sd : Int)], .int .i64 ((b : Int) + (k : Int))] u fun e w' => e = .returned (.bool true) ∧ Below u.heap.size u w') := hid (fun u => by have := GH.out (b + k) u hkl; rw [hh] at this; rw [hcast]; exact this)
            clear hh hcast hrun
            go_wp2_with (go_at_call 38; refine (GH1.out _).mono ?_; rintro e w4 ⟨rfl, hb4⟩)
            exact ⟨⟨k + 1, by go_num, by omega, hr2, hid (bQ.out.keep hb4), bl_step hbQ hb4⟩, by simp [intOf]; omega⟩
          | false =>
            have hkn' := hrt.out b k (Or.inr hh) hrun.out
            have GH1 : Hid (∀ u, Calls Tryd.prog 38 #[.agg #[.int .u64 (sa : Int), .int .u64 (sb : Int), .int .u64 (sc : Int), .int .u64 (sd : Int)], .int .i64 ((b : Int) + (k : Int))] u fun e w' => e = .returned (.bool false) ∧ Below u.heap.size u w') := hid (fun u => by have := GH.out (b + k) u hkl; rw [hh] at this; rw [hcast]; exact this)
            obtain ⟨f', hf1', hf2'⟩ := hstep.out A b f k hlt hfT.out.1 hkn' hfT.out.2
            clear hkn' hh hcast hrun
            rcases (show k = 0 ∨ k = 1 ∨ k = 2 ∨ 2 < k by omega) with rfl | rfl | rfl | hk2
            · rw [runL_0, List.append_nil] at hf2'
              have hf1 := hid hf1'
              have hf2 := hid hf2'
              clear hf1' hf2'
              go_wp2_with (first
                | (go_at_call 38; refine (GH1.out _).mono ?_; rintro e w4 ⟨rfl, hb4⟩; have bQ4 := hid (bQ.out.keep hb4); have hbQ4 := bl_step hbQ hb4))
              exact ⟨⟨b + 0 + 1, f', A, by omega, by go_num, rfl, hid ⟨hf1.out, hf2.out⟩, by omega, bQ4, hbQ4⟩, by simp [intOf]; omega⟩
            · rw [runL_1] at hf2'
              have hf1 := hid hf1'
              have hf2 := hid hf2'
              clear hf1' hf2'
              have hXl := alone_le b tellC
              have hXs := strT_size (aloneL b tellC)
              have GA1 := hid (fun u => GA.out b u hlt)
              have hap := hid (strT_app A (aloneL b tellC))
              generalize aloneL b tellC = X at hf2 hXl hXs GA1 hap
              have k1 := fun u => run_cat (strT A) (strT X) u (by omega)
              go_wp2_with (first
                | (go_at_call 38; refine (GH1.out _).mono ?_; rintro e w4 ⟨rfl, hb4⟩; have bQ4 := hid (bQ.out.keep hb4); have hbQ4 := bl_step hbQ hb4)
                | (go_at_call 36; refine (GA1.out _).mono ?_; rintro e w5 ⟨rfl, hb5⟩))
              exact ⟨⟨b + 1 + 1, f', A ++ X, by omega, by go_num, by rw [hap.out], hid ⟨hf1.out, hf2.out⟩, by rw [List.length_append]; omega, hid (bQ4.out.keep hb5), bl_step hbQ4 hb5⟩, by simp [intOf]; omega⟩
            · rw [runL_2] at hf2'
              have hf1 := hid hf1'
              have hf2 := hid hf2'
              clear hf1' hf2'
              have hXl := alone_le b tellC
              have hXs := strT_size (aloneL b tellC)
              have hYl := alone_le (b + 1) tellC
              have hYs := strT_size (aloneL (b + 1) tellC)
              have GA1 := hid (fun u => GA.out b u hlt)
              have GA2 := hid (fun u => GA.out (b + 1) u (by omega))
              have hap := hid (strT_app A (aloneL b tellC))
              have hap2 := hid (strT_app (A ++ aloneL b tellC) (aloneL (b + 1) tellC))
              have hc1 : ((b + 1 : Nat) : Int) = (b : Int) + 1 := by omega
              rw [hc1] at GA2
              generalize aloneL b tellC = X at hf2 hXl hXs GA1 hap hap2
              generalize aloneL (b + 1) tellC = Y at hf2 hYl hYs GA2 hap2
              have GA3 : Hid (∀ (z : Int) (u : World), z = (b : Int) + 1 → Calls Tryd.prog 36 #[.int .i64 z, .string ⟨#[91, 93, 94, 45, 92, 47]⟩] u fun e w' => e = .returned (.string (strT Y)) ∧ Below u.heap.size u w') := hid (fun z u hz => by subst hz; exact GA2.out u)
              clear GA2
              have k1 := fun u => run_cat (strT A) (strT X) u (by omega)
              have k2 := fun u => run_cat (strT A ++ strT X) (strT Y) u (by rw [ByteArray.size_append]; omega)
              go_wp2_with (first
                | (go_at_call 38; refine (GH1.out _).mono ?_; rintro e w4 ⟨rfl, hb4⟩; have bQ4 := hid (bQ.out.keep hb4); have hbQ4 := bl_step hbQ hb4)
                | (go_at_call 36; refine (GA3.out _ w5 (by omega)).mono ?_; rintro e w6 ⟨rfl, hb6⟩)
                | (go_at_call 36; refine (GA1.out _).mono ?_; rintro e w5 ⟨rfl, hb5⟩))
              exact ⟨⟨b + 2 + 1, f', A ++ (X ++ Y), by omega, by go_num, by rw [hap.out, hap2.out, List.append_assoc], hid ⟨hf1.out, hf2.out⟩, by rw [List.length_append, List.length_append]; omega, hid ((bQ4.out.keep hb5).keep hb6), bl_step (bl_step hbQ4 hb5) hb6⟩, by simp [intOf]; omega⟩
            · rw [runL_3 b k hk2] at hf2'
              have hf1 := hid hf1'
              have hf2 := hid hf2'
              clear hf1' hf2'
              have hk2z : (2 : Int) < (k : Int) := by omega
              have hk1z : (1 : Int) < (k : Int) := by omega
              have hk0z : (0 : Int) < (k : Int) := by omega
              have hXl := alone_le b tellC
              have hXs := strT_size (aloneL b tellC)
              have hYl := alone_le (b + k - 1) tellC
              have hYs := strT_size (aloneL (b + k - 1) tellC)
              have GA1 := hid (fun u => GA.out b u hlt)
              have GA2 := hid (fun u => GA.out (b + k - 1) u (by omega))
              have hap := hid (strT_app A (aloneL b tellC))
              have hap1 : Hid (strT (A ++ aloneL b tellC) ++ ⟨#[45]⟩ = strT (A ++ aloneL b tellC ++ [45])) := hid (strT_app (A ++ aloneL b tellC) [45])
              have hap2 := hid (strT_app (A ++ aloneL b tellC ++ [45]) (aloneL (b + k - 1) tellC))
              have hc1 : ((b + k - 1 : Nat) : Int) = (b : Int) + (k : Int) - 1 := by omega
              rw [hc1] at GA2
              generalize aloneL b tellC = X at hf2 hXl hXs GA1 hap hap1 hap2
              generalize aloneL (b + k - 1) tellC = Y at hf2 hYl hYs GA2 hap2
              have GA3 : Hid (∀ (z : Int) (u : World), z = (b : Int) + (k : Int) - 1 → Calls Tryd.prog 36 #[.int .i64 z, .string ⟨#[91, 93, 94, 45, 92, 47]⟩] u fun e w' => e = .returned (.string (strT Y)) ∧ Below u.heap.size u w') := hid (fun z u hz => by subst hz; exact GA2.out u)
              clear GA2
              have h45 : (⟨#[45]⟩ : ByteArray).size = 1 := rfl
              have k1 := fun u => run_cat (strT A) (strT X) u (by omega)
              have k2 := fun u => run_cat (strT A ++ strT X) ⟨#[45]⟩ u (by rw [ByteArray.size_append]; omega)
              have k3 := fun u => run_cat (strT A ++ strT X ++ ⟨#[45]⟩) (strT Y) u (by rw [ByteArray.size_append, ByteArray.size_append]; omega)
              go_wp2_with (first
                | (go_at_call 38; refine (GH1.out _).mono ?_; rintro e w4 ⟨rfl, hb4⟩; have bQ4 := hid (bQ.out.keep hb4); have hbQ4 := bl_step hbQ hb4)
                | (go_at_call 36; refine (GA3.out _ w5 (by omega)).mono ?_; rintro e w6 ⟨rfl, hb6⟩)
                | (go_at_call 36; refine (GA1.out _).mono ?_; rintro e w5 ⟨rfl, hb5⟩))
              exact ⟨⟨b + k + 1, f', A ++ (X ++ ([45] ++ Y)), by omega, by go_num, by rw [hap.out, hap1.out, hap2.out]; simp, hid ⟨hf1.out, hf2.out⟩, by rw [List.length_append, List.length_append, List.length_append]; simp; omega, hid ((bQ4.out.keep hb5).keep hb6), bl_step (bl_step hbQ4 hb5) hb6⟩, by simp [intOf]; omega⟩
        · have hklz : ¬ (b : Int) + (k : Int) < 256 := by omega
          have hkn' := hrt.out b k (Or.inl (by omega)) hrun.out
          obtain ⟨f', hf1', hf2'⟩ := hstep.out A b f k hlt hfT.out.1 hkn' hfT.out.2
          clear hkn' hrun
          rcases (show k = 0 ∨ k = 1 ∨ k = 2 ∨ 2 < k by omega) with rfl | rfl | rfl | hk2
          · exact absurd hlt (by omega)
          · rw [runL_1] at hf2'
            have hf1 := hid hf1'
            have hf2 := hid hf2'
            clear hf1' hf2'
            have hXl := alone_le b tellC
            have hXs := strT_size (aloneL b tellC)
            have GA1 := hid (fun u => GA.out b u hlt)
            have hap := hid (strT_app A (aloneL b tellC))
            generalize aloneL b tellC = X at hf2 hXl hXs GA1 hap
            have k1 := fun u => run_cat (strT A) (strT X) u (by omega)
            have hz : ¬ ((b : Int) + 1 < 256) := by omega
            have hkH := hid hk
            clear hklz hkl hk
            go_wp2_with (first
              | (go_at_call 36; refine (GA1.out _).mono ?_; rintro e w5 ⟨rfl, hb5⟩))
            have hk := hkH.out
            exact ⟨⟨b + 1 + 1, f', A ++ X, by omega, by go_num, by rw [hap.out], hid ⟨hf1.out, hf2.out⟩, by rw [List.length_append]; omega, hid (bQ.out.keep hb5), bl_step hbQ hb5⟩, by simp [intOf]; omega⟩
          · rw [runL_2] at hf2'
            have hf1 := hid hf1'
            have hf2 := hid hf2'
            clear hf1' hf2'
            have hXl := alone_le b tellC
            have hXs := strT_size (aloneL b tellC)
            have hYl := alone_le (b + 1) tellC
            have hYs := strT_size (aloneL (b + 1) tellC)
            have GA1 := hid (fun u => GA.out b u hlt)
            have GA2 := hid (fun u => GA.out (b + 1) u (by omega))
            have hap := hid (strT_app A (aloneL b tellC))
            have hap2 := hid (strT_app (A ++ aloneL b tellC) (aloneL (b + 1) tellC))
            have hc1 : ((b + 1 : Nat) : Int) = (b : Int) + 1 := by omega
            rw [hc1] at GA2
            generalize aloneL b tellC = X at hf2 hXl hXs GA1 hap hap2
            generalize aloneL (b + 1) tellC = Y at hf2 hYl hYs GA2 hap2
            have GA3 : Hid (∀ (z : Int) (u : World), z = (b : Int) + 1 → Calls Tryd.prog 36 #[.int .i64 z, .string ⟨#[91, 93, 94, 45, 92, 47]⟩] u fun e w' => e = .returned (.string (strT Y)) ∧ Below u.heap.size u w') := hid (fun z u hz => by subst hz; exact GA2.out u)
            clear GA2
            have k1 := fun u => run_cat (strT A) (strT X) u (by omega)
            have k2 := fun u => run_cat (strT A ++ strT X) (strT Y) u (by rw [ByteArray.size_append]; omega)
            have hz : ¬ ((b : Int) + 2 < 256) := by omega
            have hkH := hid hk
            clear hklz hkl hk
            go_wp2_with (first
              | (go_at_call 36; refine (GA3.out _ w5 (by omega)).mono ?_; rintro e w6 ⟨rfl, hb6⟩)
              | (go_at_call 36; refine (GA1.out _).mono ?_; rintro e w5 ⟨rfl, hb5⟩))
            have hk := hkH.out
            exact ⟨⟨b + 2 + 1, f', A ++ (X ++ Y), by omega, by go_num, by rw [hap.out, hap2.out, List.append_assoc], hid ⟨hf1.out, hf2.out⟩, by rw [List.length_append, List.length_append]; omega, hid ((bQ.out.keep hb5).keep hb6), bl_step (bl_step hbQ hb5) hb6⟩, by simp [intOf]; omega⟩
          · rw [runL_3 b k hk2] at hf2'
            have hf1 := hid hf1'
            have hf2 := hid hf2'
            clear hf1' hf2'
            have hk2z : (2 : Int) < (k : Int) := by omega
            have hk1z : (1 : Int) < (k : Int) := by omega
            have hk0z : (0 : Int) < (k : Int) := by omega
            have hXl := alone_le b tellC
            have hXs := strT_size (aloneL b tellC)
            have hYl := alone_le (b + k - 1) tellC
            have hYs := strT_size (aloneL (b + k - 1) tellC)
            have GA1 := hid (fun u => GA.out b u hlt)
            have GA2 := hid (fun u => GA.out (b + k - 1) u (by omega))
            have hap := hid (strT_app A (aloneL b tellC))
            have hap1 : Hid (strT (A ++ aloneL b tellC) ++ ⟨#[45]⟩ = strT (A ++ aloneL b tellC ++ [45])) := hid (strT_app (A ++ aloneL b tellC) [45])
            have hap2 := hid (strT_app (A ++ aloneL b tellC ++ [45]) (aloneL (b + k - 1) tellC))
            have hc1 : ((b + k - 1 : Nat) : Int) = (b : Int) + (k : Int) - 1 := by omega
            rw [hc1] at GA2
            generalize aloneL b tellC = X at hf2 hXl hXs GA1 hap hap1 hap2
            generalize aloneL (b + k - 1) tellC = Y at hf2 hYl hYs GA2 hap2
            have GA3 : Hid (∀ (z : Int) (u : World), z = (b : Int) + (k : Int) - 1 → Calls Tryd.prog 36 #[.int .i64 z, .string ⟨#[91, 93, 94, 45, 92, 47]⟩] u fun e w' => e = .returned (.string (strT Y)) ∧ Below u.heap.size u w') := hid (fun z u hz => by subst hz; exact GA2.out u)
            clear GA2
            have h45 : (⟨#[45]⟩ : ByteArray).size = 1 := rfl
            have k1 := fun u => run_cat (strT A) (strT X) u (by omega)
            have k2 := fun u => run_cat (strT A ++ strT X) ⟨#[45]⟩ u (by rw [ByteArray.size_append]; omega)
            have k3 := fun u => run_cat (strT A ++ strT X ++ ⟨#[45]⟩) (strT Y) u (by rw [ByteArray.size_append, ByteArray.size_append]; omega)
            have hsum : (b : Int) + (k : Int) = 256 := by omega
            have hkH := hid hk
            have hk256 : k ≤ 256 := by omega
            clear hklz hkl hk
            go_wp2_with (first
              | (go_at_call 36; refine (GA3.out _ w5 (by omega)).mono ?_; rintro e w6 ⟨rfl, hb6⟩)
              | (go_at_call 36; refine (GA1.out _).mono ?_; rintro e w5 ⟨rfl, hb5⟩))
            have hk := hkH.out
            exact ⟨⟨b + k + 1, f', A ++ (X ++ ([45] ++ Y)), by omega, by go_num, by rw [hap.out, hap1.out, hap2.out]; simp, hid ⟨hf1.out, hf2.out⟩, by rw [List.length_append, List.length_append, List.length_append]; simp; omega, hid ((bQ.out.keep hb5).keep hb6), bl_step (bl_step hbQ hb5) hb6⟩, by simp [intOf]; omega⟩
    · have hltz : ¬ (b : Int) < 256 := by omega
      have hAT := hend.out A b f hlt hfT.out.2
      subst hAT
      have k1 := fun u => run_cat (strT A) ⟨#[93]⟩ u (by rw [hAs, show (⟨#[93]⟩ : ByteArray).size = 1 from rfl]; omega)
      go_wp2
      go_ret
      exact ⟨rfl, hbR⟩

end Go.Proofs.YtjiljfmejgiabaaDoor
namespace Go.Proofs.YtjiljfmejgiabaaDoor
open Go.RowKit

set_option maxHeartbeats 8000000 in
theorem refTold (sa sb sc sd : Nat) (w : World) (hS : Fit4 ⟨sa, sb, sc, sd⟩) :
    Calls Tryd.prog 25 #[valB ⟨sa, sb, sc, sd⟩] w fun e w' => e = .returned (.string (strT (toldL ⟨sa, sb, sc, sd⟩))) ∧ Below w.heap.size w w' := by
  have GC := hid (fun u => refCount sa sb sc sd u hS)
  have GL := hid (fun u => refLeast sa sb sc sd u hS)
  have GH := hid (fun x u (hx : x < 256) => hasC ⟨sa, sb, sc, sd⟩ x u hS hx)
  have GA : Hid (∀ b u, b < 256 → Calls Tryd.prog 36 #[.int .i64 ((b : Nat) : Int), .string ⟨#[91, 93, 94, 45, 92, 47]⟩] u fun e w' => e = .returned (.string (strT (aloneL b tellC))) ∧ Below u.heap.size u w') := hid (fun b u hb => by
    have := refAlone b ⟨#[91, 93, 94, 45, 92, 47]⟩ u hb (by decide)
    rwa [tellC_eq] at this)
  have GA' : Hid (∀ b u, b < 256 → Calls Tryd.prog 36 #[.int .i64 ((b : Nat) : Int), .string ⟨#[46, 42, 43, 63, 40, 41, 91, 93, 124, 92, 47]⟩] u fun e w' => e = .returned (.string (strT (aloneL b tellA))) ∧ Below u.heap.size u w') := hid (fun b u hb => by
    have := refAlone b ⟨#[46, 42, 43, 63, 40, 41, 91, 93, 124, 92, 47]⟩ u hb (by decide)
    rwa [tellA_eq] at this)
  have hal := al' w (.cells #[.int .u64 (sa : Int), .int .u64 (sb : Int), .int .u64 (sc : Int), .int .u64 (sd : Int)] 44)
  have b0 : Hid (Blk (w.alloc (.cells #[.int .u64 (sa : Int), .int .u64 (sb : Int), .int .u64 (sc : Int), .int .u64 (sd : Int)] 44)) w.heap.size ⟨sa, sb, sc, sd⟩) := hid (heap_new w _)
  by_cases h1 : countB ⟨sa, sb, sc, sd⟩ = 1
  · obtain ⟨b, hb, hlb, -⟩ := one_of_count hS h1
    have e : toldL ⟨sa, sb, sc, sd⟩ = aloneL b tellA := by unfold toldL; rw [if_pos h1, hlb, Int.toNat_natCast]
    rw [e]
    rw [h1] at GC
    rw [hlb] at GL
    have GA0 := hid (fun u => GA'.out b u hb)
    generalize strT (aloneL b tellA) = Z at GA0 ⊢
    clear e h1 hlb GH GA GA' hS
    go_enter Tryd.func25, Tryd.ntmps25
    go_wp2_with (first
      | (go_at_call 35; refine (GC.out _).mono ?_; rintro e w1 ⟨rfl, hb1⟩; have b1 := hid (b0.out.keep hb1); obtain ⟨s0, s1, s2, s3, s4, s5, s6, s7⟩ := b1.out.cells)
      | (go_at_call 37; refine (GL.out _).mono ?_; rintro e w2 ⟨rfl, hb2⟩)
      | (go_at_call 36; refine (GA0.out _).mono ?_; rintro e w3 ⟨rfl, hb3⟩))
    go_ret
    exact ⟨rfl, bl_step (bl_step (bl_step hal hb1) hb2) hb3⟩
  · have h1z : (((countB ⟨sa, sb, sc, sd⟩ : Nat) : Int) == 1) = false := beq_eq_false_iff_ne.2 (by omega)
    by_cases h255 : countB ⟨sa, sb, sc, sd⟩ = 255 ∧ hasB ⟨sa, sb, sc, sd⟩ 10 = false
    · have e : toldL ⟨sa, sb, sc, sd⟩ = [46] := by unfold toldL; rw [if_neg h1, if_pos h255]
      rw [e, show strT [46] = ⟨#[46]⟩ from rfl]
      rw [h255.1] at GC
      have GH0 := hid (fun u => GH.out 10 u (by omega))
      rw [h255.2] at GH0
      clear e h1 h1z h255 GH GA GA' GL hS
      go_enter Tryd.func25, Tryd.ntmps25
      go_wp2_with (first
        | (go_at_call 35; refine (GC.out w1).mono ?_; rintro e w2 ⟨rfl, hb2⟩; have b2 := hid (b1.out.keep hb2); obtain ⟨t0, t1, t2, t3, t4, t5, t6, t7⟩ := b2.out.cells)
        | (go_at_call 35; refine (GC.out _).mono ?_; rintro e w1 ⟨rfl, hb1⟩; have b1 := hid (b0.out.keep hb1); obtain ⟨s0, s1, s2, s3, s4, s5, s6, s7⟩ := b1.out.cells)
        | (go_at_call 38; refine (GH0.out _).mono ?_; rintro e w3 ⟨rfl, hb3⟩))
      go_ret
      exact ⟨rfl, bl_step (bl_step (bl_step hal hb1) hb2) hb3⟩
    · by_cases h255' : countB ⟨sa, sb, sc, sd⟩ = 255
      · exact toldAll sa sb sc sd w hS h1 h255' h255
      · exact toldSome sa sb sc sd w hS h1 h255' h255

end Go.Proofs.YtjiljfmejgiabaaDoor
