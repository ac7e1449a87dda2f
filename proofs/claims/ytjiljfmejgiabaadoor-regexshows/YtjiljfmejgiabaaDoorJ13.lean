/- The reference: Has, Count, Least. The reference: told: the maths of its loops. -/
import Derived.Test.YtjiljfmejgiabaaDoorJ2
import Derived.Test.YtjiljfmejgiabaaDoorJ12
namespace Go.Proofs.YtjiljfmejgiabaaDoor
open Go.RowKit

theorem refHas (a b c d x : Nat) (w : World) (hS : Fit4 ⟨a, b, c, d⟩) (hx : x < 256) :
    Calls Tryd.prog 38 #[.agg #[.int .u64 a, .int .u64 b, .int .u64 c, .int .u64 d], .int .i64 x] w fun e w' => e = .returned (.bool (hasB ⟨a, b, c, d⟩ x)) ∧ Below w.heap.size w w' := by
  have hcell := word_at a b c d (x / 64) (by omega)
  have hdiv := hasB_div ⟨a, b, c, d⟩ x
  have hn := hS.w (x / 64)
  have hp := wrap_pow (j := x % 64) (by omega)
  have hm0 : 0 < 2 ^ (x % 64) := Nat.two_pow_pos _
  generalize W4.w ⟨a, b, c, d⟩ (x / 64) = n at hcell hdiv hn
  generalize hasB ⟨a, b, c, d⟩ x = r at hdiv ⊢
  generalize 2 ^ (x % 64) = m at hp hm0 hdiv
  have hq := wrap_quo (m := m) hn
  have hr := rem_two (n / m)
  rw [← hdiv] at hr
  generalize n / m = q at hq hr hdiv
  have hm1 : ¬ (m : Int) = 0 := by omega
  clear hdiv hS
  go_enter Tryd.func38, Tryd.ntmps38
  go_wp2
  go_ret
  exact ⟨by first | rfl | rw [hr], (Below.refl _ w).alloc (Nat.le_refl _) _⟩



theorem hasC (S : W4) (x : Nat) (w : World) (hS : Fit4 S) (hx : x < 256) : Calls Tryd.prog 38 #[valB S, .int .i64 x] w fun e w' => e = .returned (.bool (hasB S x)) ∧ Below w.heap.size w w' :=
  refHas S.a S.b S.c S.d x w hS hx
set_option maxHeartbeats 1000000 in
theorem refCount (sa sb sc sd : Nat) (w : World) (hS : Fit4 ⟨sa, sb, sc, sd⟩) :
    Calls Tryd.prog 35 #[valB ⟨sa, sb, sc, sd⟩] w fun e w' => e = .returned (.int .i64 ((countB ⟨sa, sb, sc, sd⟩ : Nat) : Int)) ∧ Below w.heap.size w w' := by
  obtain ⟨R, hR⟩ : ∃ R, Hid (countB ⟨sa, sb, sc, sd⟩ = R) := ⟨_, hid rfl⟩
  rw [show countB ⟨sa, sb, sc, sd⟩ = R from hR.out]
  have hlast : Hid (∀ k, k = 256 → countN ⟨sa, sb, sc, sd⟩ k = R) := hid (fun k hk => by rw [hk, ← hR.out, countB_eq])
  have GH : Hid (∀ k u, k < 256 → Calls Tryd.prog 38 #[valB ⟨sa, sb, sc, sd⟩, .int .i64 ((k : Nat) : Int)] u fun e w' => e = .returned (.bool (hasB ⟨sa, sb, sc, sd⟩ k)) ∧ Below u.heap.size u w') := fun k u hk => hasC ⟨sa, sb, sc, sd⟩ k u hS hk
  clear hR
  go_enter Tryd.func35, Tryd.ntmps35
  go_wp2
  go_loopw [3, 4] (fun n i wr => ∃ k : Nat, k ≤ 256 ∧ i = .int .i64 k ∧ n = .int .i64 ((countN ⟨sa, sb, sc, sd⟩ k : Nat) : Int) ∧ Hid (Blk wr w.heap.size ⟨sa, sb, sc, sd⟩) ∧ Below w.heap.size w wr) (fun _ i _ => 256 - (intOf i).toNat)
  case atStart => exact ⟨0, Nat.zero_le _, rfl, by rw [countN_zero]; rfl, hid (heap_new w _), al' w _⟩
  case round =>
    obtain ⟨k, hk, rfl, rfl, bS0, hbl⟩ := hrel
    by_cases hlt : k < 256
    · have hltz : (k : Int) < 256 := by omega
      have hle := countN_le ⟨sa, sb, sc, sd⟩ k
      have hstep := hid (countN_succ ⟨sa, sb, sc, sd⟩ k)
      have GH0 := hid (GH.out k wr hlt)
      obtain ⟨s0, s1, s2, s3, s4, s5, s6, s7⟩ := bS0.out.cells
      generalize countN ⟨sa, sb, sc, sd⟩ k = n at hle hstep
      cases hr : hasB ⟨sa, sb, sc, sd⟩ k with
      | false =>
        rw [hr] at GH0 hstep
        have hS' : Hid (countN ⟨sa, sb, sc, sd⟩ (k + 1) = n) := hid (by rw [hstep.out]; simp)
        clear hstep hr
        go_wp2_with (go_at_call 38; refine (GH0.out).mono ?_; rintro e w1 ⟨rfl, hb1⟩)
        go_roundw
        case rel => exact ⟨k + 1, by omega, by go_num, by rw [hS'.out], hid (bS0.out.keep hb1), bl_step hbl hb1⟩
        case measure => simp [intOf]; omega
      | true =>
        rw [hr] at GH0 hstep
        have hS' : Hid (countN ⟨sa, sb, sc, sd⟩ (k + 1) = n + 1) := hid (by rw [hstep.out]; simp)
        clear hstep hr
        go_wp2_with (go_at_call 38; refine (GH0.out).mono ?_; rintro e w1 ⟨rfl, hb1⟩)
        go_roundw
        case rel => exact ⟨k + 1, by omega, by go_num, by rw [hS'.out]; go_num, hid (bS0.out.keep hb1), bl_step hbl hb1⟩
        case measure => simp [intOf]; omega
    · have hltz : ¬ (k : Int) < 256 := by omega
      rw [hlast.out k (by omega)]
      go_wp2
      go_ret
      exact ⟨rfl, hbl⟩

set_option maxHeartbeats 1000000 in
theorem refLeast (sa sb sc sd : Nat) (w : World) (hS : Fit4 ⟨sa, sb, sc, sd⟩) :
    Calls Tryd.prog 37 #[valB ⟨sa, sb, sc, sd⟩] w fun e w' => e = .returned (.int .i64 (leastB ⟨sa, sb, sc, sd⟩)) ∧ Below w.heap.size w w' := by
  obtain ⟨R, hR⟩ : ∃ R, Hid (leastB ⟨sa, sb, sc, sd⟩ = R) := ⟨_, hid rfl⟩
  rw [show leastB ⟨sa, sb, sc, sd⟩ = R from hR.out]
  have hstart : Hid (R = leastFrom ⟨sa, sb, sc, sd⟩ 0 256) := hid (by rw [← hR.out, leastB_eq])
  have GH : Hid (∀ k u, k < 256 → Calls Tryd.prog 38 #[valB ⟨sa, sb, sc, sd⟩, .int .i64 ((k : Nat) : Int)] u fun e w' => e = .returned (.bool (hasB ⟨sa, sb, sc, sd⟩ k)) ∧ Below u.heap.size u w') := fun k u hk => hasC ⟨sa, sb, sc, sd⟩ k u hS hk
  clear hR
  go_enter Tryd.func37, Tryd.ntmps37
  go_wp2
  go_loopw [3] (fun i wr => ∃ k : Nat, k ≤ 256 ∧ i = .int .i64 k ∧ Hid (R = leastFrom ⟨sa, sb, sc, sd⟩ k (256 - k)) ∧ Hid (Blk wr w.heap.size ⟨sa, sb, sc, sd⟩) ∧ Below w.heap.size w wr) (fun i _ => 256 - (intOf i).toNat)
  case atStart => exact ⟨0, Nat.zero_le _, rfl, hstart, hid (heap_new w _), al' w _⟩
  case round =>
    obtain ⟨k, hk, rfl, hf, bS0, hbl⟩ := hrel
    by_cases hlt : k < 256
    · have hltz : (k : Int) < 256 := by omega
      have hstep := hid (leastFrom_succ ⟨sa, sb, sc, sd⟩ k (256 - (k + 1)))
      have GH0 := hid (GH.out k wr hlt)
      obtain ⟨s0, s1, s2, s3, s4, s5, s6, s7⟩ := bS0.out.cells
      cases hr : hasB ⟨sa, sb, sc, sd⟩ k with
      | false =>
        rw [hr] at GH0 hstep
        have hf' : Hid (R = leastFrom ⟨sa, sb, sc, sd⟩ (k + 1) (256 - (k + 1))) := hid (by
          rw [hf.out, show 256 - k = 256 - (k + 1) + 1 by omega, hstep.out]; simp)
        clear hstep hr hf
        go_wp2_with (go_at_call 38; refine (GH0.out).mono ?_; rintro e w1 ⟨rfl, hb1⟩)
        go_roundw
        case rel => exact ⟨k + 1, by omega, by go_num, hf', hid (bS0.out.keep hb1), bl_step hbl hb1⟩
        case measure => simp [intOf]; omega
      | true =>
        rw [hr] at GH0 hstep
        have hres : R = (k : Int) := by rw [hf.out, show 256 - k = 256 - (k + 1) + 1 by omega, hstep.out]; simp
        clear hstep hr hf
        go_wp2_with (go_at_call 38; refine (GH0.out).mono ?_; rintro e w1 ⟨rfl, hb1⟩)
        go_ret
        exact ⟨by first | rfl | (rw [hres]; rfl), bl_step hbl hb1⟩
    · have hltz : ¬ (k : Int) < 256 := by omega
      have hres : R = -1 := by rw [hf.out, show 256 - k = 0 by omega, leastFrom_zero]
      clear hf
      go_wp2
      go_ret
      exact ⟨by first | rfl | (rw [hres]; rfl), hbl⟩


end Go.Proofs.YtjiljfmejgiabaaDoor
namespace Go.Proofs.YtjiljfmejgiabaaDoor
open Go.RowKit

theorem tellC_all : ∀ c : Fin 256, inS ⟨#[91, 93, 94, 45, 92, 47]⟩ (UInt8.ofNat c.val) = tellC (UInt8.ofNat c.val) := by decide +kernel
theorem tellA_all : ∀ c : Fin 256, inS ⟨#[46, 42, 43, 63, 40, 41, 91, 93, 124, 92, 47]⟩ (UInt8.ofNat c.val) = tellA (UInt8.ofNat c.val) := by decide +kernel
theorem byte_of (c : UInt8) : c = UInt8.ofNat c.toNat := by simp
theorem tellC_eq : inS ⟨#[91, 93, 94, 45, 92, 47]⟩ = tellC := funext fun c => by
  have := tellC_all ⟨c.toNat, c.toNat_lt⟩
  rwa [← byte_of c] at this
theorem tellA_eq : inS ⟨#[46, 42, 43, 63, 40, 41, 91, 93, 124, 92, 47]⟩ = tellA := funext fun c => by
  have := tellA_all ⟨c.toNat, c.toNat_lt⟩
  rwa [← byte_of c] at this
theorem alone_le (b : Nat) (left : UInt8 → Bool) : (aloneL b left).length ≤ 4 := by
  unfold aloneL
  repeat' split
  all_goals simp
theorem run_step {S : W4} {b k : Nat} (hk : b + k < 256) (hh : hasB S (b + k) = true) (h : k + runN S (b + k) (256 - k) = runN S b 256) : k + 1 + runN S (b + (k + 1)) (256 - (k + 1)) = runN S b 256 := by
  rw [← h]
  obtain ⟨f, hf⟩ : ∃ f, 256 - k = f + 1 := ⟨256 - k - 1, by omega⟩
  rw [hf, show 256 - (k + 1) = f by omega, show b + (k + 1) = b + k + 1 by omega]
  conv => rhs; rw [runN]
  rw [hh, decide_eq_true hk]
  simp
  omega
theorem run_stop {S : W4} {b k : Nat} (hh : 256 ≤ b + k ∨ hasB S (b + k) = false) (h : k + runN S (b + k) (256 - k) = runN S b 256) : k = runN S b 256 := by
  rw [← h]
  cases hf : 256 - k with
  | zero => rw [runN]; omega
  | succ f =>
    rw [runN]
    rcases hh with h1 | h1
    · rw [decide_eq_false (by omega : ¬ b + k < 256)]; simp
    · rw [h1]; simp

theorem told_step {S : W4} {A T : Txt} {b f n : Nat} (hb : b < 256) (hf : 257 ≤ b + f) (hn : n = runN S b 256) (h : A ++ runsL S b f = T) : ∃ f', 257 ≤ b + n + 1 + f' ∧ (A ++ runL b n) ++ runsL S (b + n + 1) f' = T := by
  obtain ⟨f', rfl⟩ : ∃ f', f = f' + 1 := ⟨f - 1, by omega⟩
  refine ⟨f', by omega, ?_⟩
  rw [runsL, if_pos hb, ← hn] at h
  rw [List.append_assoc]
  exact h
theorem told_end {S : W4} {A T : Txt} {b f : Nat} (hb : ¬ b < 256) (h : A ++ runsL S b f = T) : A = T := by
  cases f with
  | zero => rw [runsL] at h; simpa using h
  | succ f => rw [runsL, if_neg hb] at h; simpa using h
theorem runL_0 (b : Nat) : runL b 0 = [] := by simp [runL]
theorem runL_1 (b : Nat) : runL b 1 = aloneL b tellC := by simp [runL]
theorem runL_2 (b : Nat) : runL b 2 = aloneL b tellC ++ aloneL (b + 1) tellC := by simp [runL]
theorem runL_3 (b n : Nat) (h : 2 < n) : runL b n = aloneL b tellC ++ ([45] ++ aloneL (b + n - 1) tellC) := by
  unfold runL
  rw [if_pos (by omega), if_pos h, if_pos (by omega)]


end Go.Proofs.YtjiljfmejgiabaaDoor
