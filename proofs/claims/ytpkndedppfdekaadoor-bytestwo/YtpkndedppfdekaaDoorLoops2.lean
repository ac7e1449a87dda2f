/- The contracts of topiaryref05.Span, Count, Least. -/
import Derived.Test.YtpkndedppfdekaaDoorLoops
namespace Go.Proofs.YtpkndedppfdekaaDoor
open Go.RowKit

theorem span_low (f k : Nat) (h : k ≤ f) (hf : f ≤ 256) : addN noneB (fun x => decide (f ≤ x)) k = noneB :=
  set_ext (addN_fit noneB_fit _ _) noneB_fit fun x hx => by
    rw [addN_has _ _ k (by omega) x hx, noneB_has]
    have : (decide (x < k) && decide (f ≤ x)) = false := by
      by_cases h1 : x < k
      · have h2 : ¬ f ≤ x := by omega
        simp [h2]
      · simp [h1]
    rw [this]; rfl
theorem span_end (f t k : Nat) (ht : t < 256) (h : k = t + 1 ∨ (t < f ∧ k = f)) (hf : f < 256) : addN noneB (fun x => decide (f ≤ x)) k = spanB f t := by
  refine mkB_eq (addN_fit noneB_fit _ _) fun x hx => ?_
  rw [addN_has _ _ k (by omega) x hx, noneB_has, Bool.false_or, Bool.eq_iff_iff]
  simp only [Bool.and_eq_true, decide_eq_true_eq]
  omega

set_option maxHeartbeats 1000000 in
theorem refSpan (f t : Nat) (w : World) (hf : f < 256) (ht : t < 256) :
    Calls Tryd.prog 10 #[.int .i64 f, .int .i64 t] w fun e w' => e = .returned (valB (spanB f t)) ∧ Below w.heap.size w w' := by
  obtain ⟨p, hp⟩ : ∃ p : Nat → Bool, Hid (p = fun x => decide (f ≤ x)) := ⟨_, hid rfl⟩
  obtain ⟨R, hR⟩ : ∃ R, Hid (spanB f t = R) := ⟨_, hid rfl⟩
  have hlast : Hid (∀ k, (k = t + 1 ∨ (t < f ∧ k = f)) → addN noneB p k = R) := hid (fun k hk => by rw [hp.out, ← hR.out]; exact span_end f t k ht hk hf)
  have hfirst : Hid (addN noneB p f = noneB) := hid (by rw [hp.out]; exact span_low f f (Nat.le_refl _) (by omega))
  have hyes : Hid (∀ k, f ≤ k → p k = true) := hid (fun k hk => by rw [hp.out]; exact decide_eq_true hk)
  rw [show spanB f t = R from hR.out]
  have GP : Hid (∀ k Q u, k < 256 → Fit4 Q → Calls Tryd.prog 27 #[valB Q, .int .i64 ((k : Nat) : Int)] u fun e w' => e = .returned (valB (putB Q k)) ∧ Below u.heap.size u w') := fun k Q u hk hQ => putC Q k u hQ hk
  have hfit := hid (addN_fit noneB_fit p)
  obtain ⟨ra, rb, rc, rd⟩ := R
  clear hR hp
  go_enter Tryd.func10, Tryd.ntmps10
  go_wp2
  go_loopw [6] (fun i wr => ∃ k : Nat, f ≤ k ∧ (k ≤ t + 1 ∨ k = f) ∧ i = .int .i64 k ∧ Hid (Blk wr w.heap.size noneB) ∧ Hid (Blk wr (w.heap.size + 1) (addN noneB p k)) ∧ Below w.heap.size w wr) (fun i _ => 256 - (intOf i).toNat)
  case atStart => exact ⟨f, Nat.le_refl _, Or.inr rfl, rfl, hid (two_blocks w _ _).1, by rw [hfirst.out]; exact hid (two_blocks w _ _).2, bl_step (al' w _) (al' _ _)⟩
  case round =>
    obtain ⟨k, hk, hk2, rfl, bR0, bO0, hbl⟩ := hrel
    by_cases hlt : k ≤ t
    · have hltz : (k : Int) ≤ (t : Int) := by omega
      have hQ := hid (hfit.out k)
      have hy := hid (@addN_yes noneB p k (hyes.out k hk))
      generalize addN noneB p k = Q at hQ hy bO0
      obtain ⟨a, b, c, d⟩ := Q
      have GP0 := hid (fun u => GP.out k ⟨a, b, c, d⟩ u (by omega) hQ.out)
      obtain ⟨o0, o1, o2, o3, o4, o5, o6, o7⟩ := bO0.out.cells
      generalize putB ⟨a, b, c, d⟩ k = Q' at hy GP0
      obtain ⟨a', b', c', d'⟩ := Q'
      go_wp2_with (go_at_call 27; refine (GP0.out _).mono ?_; rintro e w1 ⟨rfl, hb1⟩; have bR1 := hid (bR0.out.keep hb1); have bO1 := hid (bO0.out.keep hb1); obtain ⟨u0, u1, u2, u3, u4, u5, u6, u7⟩ := bO1.out.cells)
      go_roundw
      case rel => exact ⟨k + 1, by omega, by omega, by go_num, hid (bR1.out.other (b := w.heap.size + 1) (S' := ⟨a', b', c', d'⟩) (by omega)), by rw [hy.out]; exact hid (bO1.out.put (S' := ⟨a', b', c', d'⟩)), bl_put (bl_step hbl hb1) ⟨a', b', c', d'⟩ (by omega)⟩
      case measure => simp [intOf]; omega
    · have hltz : ¬ (k : Int) ≤ (t : Int) := by omega
      rw [hlast.out k (by omega)] at bO0
      obtain ⟨o0, o1, o2, o3, o4, o5, o6, o7⟩ := bO0.out.cells
      obtain ⟨r0, r1, r2, r3, r4, r5, r6, r7⟩ := Blk.cells (sa := 0) (sb := 0) (sc := 0) (sd := 0) bR0.out
      clear hfit hyes
      go_wp2
      refine bodyPost_ret (v := .agg #[.int .u64 ra, .int .u64 rb, .int .u64 rc, .int .u64 rd]) (by simp [results, Tryd.results10, go_sem, r0, r1, r2, r3]) rfl ⟨rfl, bl_put hbl ⟨ra, rb, rc, rd⟩ (by omega)⟩

set_option maxHeartbeats 1000000 in
theorem refCount (sa sb sc sd : Nat) (w : World) (hS : Fit4 ⟨sa, sb, sc, sd⟩) :
    Calls Tryd.prog 19 #[valB ⟨sa, sb, sc, sd⟩] w fun e w' => e = .returned (.int .i64 ((countB ⟨sa, sb, sc, sd⟩ : Nat) : Int)) ∧ Below w.heap.size w w' := by
  obtain ⟨R, hR⟩ : ∃ R, Hid (countB ⟨sa, sb, sc, sd⟩ = R) := ⟨_, hid rfl⟩
  rw [show countB ⟨sa, sb, sc, sd⟩ = R from hR.out]
  have hlast : Hid (∀ k, k = 256 → countN ⟨sa, sb, sc, sd⟩ k = R) := hid (fun k hk => by rw [hk, ← hR.out, countB_eq])
  have GH : Hid (∀ k u, k < 256 → Calls Tryd.prog 23 #[valB ⟨sa, sb, sc, sd⟩, .int .i64 ((k : Nat) : Int)] u fun e w' => e = .returned (.bool (hasB ⟨sa, sb, sc, sd⟩ k)) ∧ Below u.heap.size u w') := fun k u hk => hasC ⟨sa, sb, sc, sd⟩ k u hS hk
  clear hR
  go_enter Tryd.func19, Tryd.ntmps19
  go_wp2
  go_loopw [3, 4] (fun n i wr => ∃ k : Nat, k ≤ 256 ∧ i = .int .i64 k ∧ n = .int .i64 ((countN ⟨sa, sb, sc, sd⟩ k : Nat) : Int) ∧ Hid (Blk wr w.heap.size ⟨sa, sb, sc, sd⟩) ∧ Below w.heap.size w wr) (fun _ i _ => 256 - (intOf i).toNat)
  case atStart => exact ⟨0, Nat.zero_le _, rfl, by rw [countN_zero]; rfl, hid (heap_new w _), al' w _⟩
  case round =>
    obtain ⟨k, hk, rfl, rfl, bS0, hbl⟩ := hrel
    by_cases hlt : k < 256
    · have hltz : (k : Int) < 256 := by omega
      have hle := countN_le ⟨sa, sb, sc, sd⟩ k
      have hstep := hid (countN_succ ⟨sa, sb, sc, sd⟩ k)
      have GH0 := hid (GH.out k wr hlt)
      obtain ⟨s0, s1, s2, s3, s4, s5, s6, s7⟩ := bS0.out.cells
      generalize countN ⟨sa, sb, sc, sd⟩ k = n at hle hstep
      cases hr : hasB ⟨sa, sb, sc, sd⟩ k with
      | false =>
        rw [hr] at GH0 hstep
        have hS' : Hid (countN ⟨sa, sb, sc, sd⟩ (k + 1) = n) := hid (by rw [hstep.out]; simp)
        clear hstep hr
        go_wp2_with (go_at_call 23; refine (GH0.out).mono ?_; rintro e w1 ⟨rfl, hb1⟩)
        go_roundw
        case rel => exact ⟨k + 1, by omega, by go_num, by rw [hS'.out], hid (bS0.out.keep hb1), bl_step hbl hb1⟩
        case measure => simp [intOf]; omega
      | true =>
        rw [hr] at GH0 hstep
        have hS' : Hid (countN ⟨sa, sb, sc, sd⟩ (k + 1) = n + 1) := hid (by rw [hstep.out]; simp)
        clear hstep hr
        go_wp2_with (go_at_call 23; refine (GH0.out).mono ?_; rintro e w1 ⟨rfl, hb1⟩)
        go_roundw
        case rel => exact ⟨k + 1, by omega, by go_num, by rw [hS'.out]; go_num, hid (bS0.out.keep hb1), bl_step hbl hb1⟩
        case measure => simp [intOf]; omega
    · have hltz : ¬ (k : Int) < 256 := by omega
      rw [hlast.out k (by omega)]
      go_wp2
      go_ret
      exact ⟨rfl, hbl⟩

set_option maxHeartbeats 1000000 in
theorem refLeast (sa sb sc sd : Nat) (w : World) (hS : Fit4 ⟨sa, sb, sc, sd⟩) :
    Calls Tryd.prog 21 #[valB ⟨sa, sb, sc, sd⟩] w fun e w' => e = .returned (.int .i64 (leastB ⟨sa, sb, sc, sd⟩)) ∧ Below w.heap.size w w' := by
  obtain ⟨R, hR⟩ : ∃ R, Hid (leastB ⟨sa, sb, sc, sd⟩ = R) := ⟨_, hid rfl⟩
  rw [show leastB ⟨sa, sb, sc, sd⟩ = R from hR.out]
  have hstart : Hid (R = leastFrom ⟨sa, sb, sc, sd⟩ 0 256) := hid (by rw [← hR.out, leastB_eq])
  have GH : Hid (∀ k u, k < 256 → Calls Tryd.prog 23 #[valB ⟨sa, sb, sc, sd⟩, .int .i64 ((k : Nat) : Int)] u fun e w' => e = .returned (.bool (hasB ⟨sa, sb, sc, sd⟩ k)) ∧ Below u.heap.size u w') := fun k u hk => hasC ⟨sa, sb, sc, sd⟩ k u hS hk
  clear hR
  go_enter Tryd.func21, Tryd.ntmps21
  go_wp2
  go_loopw [3] (fun i wr => ∃ k : Nat, k ≤ 256 ∧ i = .int .i64 k ∧ Hid (R = leastFrom ⟨sa, sb, sc, sd⟩ k (256 - k)) ∧ Hid (Blk wr w.heap.size ⟨sa, sb, sc, sd⟩) ∧ Below w.heap.size w wr) (fun i _ => 256 - (intOf i).toNat)
  case atStart => exact ⟨0, Nat.zero_le _, rfl, hstart, hid (heap_new w _), al' w _⟩
  case round =>
    obtain ⟨k, hk, rfl, hf, bS0, hbl⟩ := hrel
    by_cases hlt : k < 256
    · have hltz : (k : Int) < 256 := by omega
      have hstep := hid (leastFrom_succ ⟨sa, sb, sc, sd⟩ k (256 - (k + 1)))
      have GH0 := hid (GH.out k wr hlt)
      obtain ⟨s0, s1, s2, s3, s4, s5, s6, s7⟩ := bS0.out.cells
      cases hr : hasB ⟨sa, sb, sc, sd⟩ k with
      | false =>
        rw [hr] at GH0 hstep
        have hf' : Hid (R = leastFrom ⟨sa, sb, sc, sd⟩ (k + 1) (256 - (k + 1))) := hid (by
          rw [hf.out, show 256 - k = 256 - (k + 1) + 1 by omega, hstep.out]; simp)
        clear hstep hr hf
        go_wp2_with (go_at_call 23; refine (GH0.out).mono ?_; rintro e w1 ⟨rfl, hb1⟩)
        go_roundw
        case rel => exact ⟨k + 1, by omega, by go_num, hf', hid (bS0.out.keep hb1), bl_step hbl hb1⟩
        case measure => simp [intOf]; omega
      | true =>
        rw [hr] at GH0 hstep
        have hres : R = (k : Int) := by rw [hf.out, show 256 - k = 256 - (k + 1) + 1 by omega, hstep.out]; simp
        clear hstep hr hf
        go_wp2_with (go_at_call 23; refine (GH0.out).mono ?_; rintro e w1 ⟨rfl, hb1⟩)
        go_ret
        exact ⟨by first | rfl | (rw [hres]; rfl), bl_step hbl hb1⟩
    · have hltz : ¬ (k : Int) < 256 := by omega
      have hres : R = -1 := by rw [hf.out, show 256 - k = 0 by omega, leastFrom_zero]
      clear hf
      go_wp2
      go_ret
      exact ⟨by first | rfl | (rw [hres]; rfl), hbl⟩

end Go.Proofs.YtpkndedppfdekaaDoor
