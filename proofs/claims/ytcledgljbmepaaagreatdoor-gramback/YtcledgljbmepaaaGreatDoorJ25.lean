/- The reference: in, alone. byteText: a byte as it is told. The reference: Has, Count, Least. The reference: told: the maths of its loops. -/
import Derived.Test.YtcledgljbmepaaaGreatDoorJ5
import Derived.Test.YtcledgljbmepaaaGreatDoorJ6
import Derived.Test.YtcledgljbmepaaaGreatDoorJ1
import Derived.Deep.RegionHeld3
namespace Go.Proofs.YtcledgljbmepaaaGreatDoor
open Go.RowKit

/-- the digits, one of them cut out -/
abbrev digits16 : ByteArray := ⟨#[48, 49, 50, 51, 52, 53, 54, 55, 56, 57, 97, 98, 99, 100, 101, 102]⟩
set_option maxRecDepth 20000 in
theorem conv_one (b : Nat) (hb : b < 256) (w : World) : (convert 88 9 (.slice (some ⟨w.heap.size, 0, none⟩) 1 1)).run Tryz.prog (w.alloc (.cells #[.int .u8 (b : Int)] 5)) = .ok (.string (strT [UInt8.ofNat b])) (w.alloc (.cells #[.int .u8 (b : Int)] 5)) := by
  refine run_convert_bytes_back _ 88 9 5 _ 1 [UInt8.ofNat b] Tryz.underlying88 Tryz.underlying5 Tryz.underlying9 ?_
  intro j hj
  have hj0 : j = 0 := by simp at hj; omega
  subst hj0
  simp [Addr.add, ofNat_toNat hb]

end Go.Proofs.YtcledgljbmepaaaGreatDoor
namespace Go.Proofs.YtcledgljbmepaaaGreatDoor
open Go.RowKit

theorem digit_at16 : ∀ q : Fin 16, ∀ h : q.val < digits16.size, (digits16[q.val]'h) = digL q.val := by decide +kernel
set_option maxRecDepth 20000 in
theorem idx_digit (q : Nat) (hq : q < 16) (w : World) : (Instr.index 9 (.string ⟨#[48, 49, 50, 51, 52, 53, 54, 55, 56, 57, 97, 98, 99, 100, 101, 102]⟩) (.int .u8 (q : Int))).run Tryz.prog w = .ok (.int .u8 ((digL q).toNat : Int)) w := by
  have h16 : digits16.size = 16 := by decide
  have h := digit_at16 ⟨q, hq⟩ (by rw [h16]; exact hq)
  have h' : q < digits16.size := by rw [h16]; exact hq
  rw [← h]
  simp [Instr.index, run_underlying Tryz.underlying9, asIntOf, go_sem, h16, hq]
set_option maxRecDepth 20000 in
theorem conv_two (b : Nat) (hb : b < 256) (w : World) : (convert 88 9 (.slice (some ⟨w.heap.size, 0, none⟩) 2 2)).run Tryz.prog (w.alloc (.cells #[.int .u8 92, .int .u8 (b : Int)] 5)) = .ok (.string (strT [92, UInt8.ofNat b])) (w.alloc (.cells #[.int .u8 92, .int .u8 (b : Int)] 5)) := by
  refine run_convert_bytes_back _ 88 9 5 _ 2 [92, UInt8.ofNat b] Tryz.underlying88 Tryz.underlying5 Tryz.underlying9 ?_
  intro j hj
  have hj0 : j = 0 ∨ j = 1 := by simp at hj; omega
  rcases hj0 with rfl | rfl
  · simp [Addr.add]
  · simp [Addr.add, ofNat_toNat hb]
set_option maxRecDepth 20000 in
theorem conv_four (x y : UInt8) (w : World) : (convert 88 9 (.slice (some ⟨w.heap.size, 0, none⟩) 4 4)).run Tryz.prog (w.alloc (.cells #[.int .u8 92, .int .u8 120, .int .u8 (x.toNat : Int), .int .u8 (y.toNat : Int)] 5)).drew = .ok (.string (strT [92, 120, x, y])) (w.alloc (.cells #[.int .u8 92, .int .u8 120, .int .u8 (x.toNat : Int), .int .u8 (y.toNat : Int)] 5)).drew := by
  refine run_convert_bytes_back _ 88 9 5 _ 4 [92, 120, x, y] Tryz.underlying88 Tryz.underlying5 Tryz.underlying9 ?_
  intro j hj
  have hj0 : j = 0 ∨ j = 1 ∨ j = 2 ∨ j = 3 := by simp at hj; omega
  rcases hj0 with rfl | rfl | rfl | rfl <;> simp [Addr.add, go_sem]

set_option maxRecDepth 20000 in
set_option maxHeartbeats 2000000 in
theorem byteTextC (b : Nat) (S : ByteArray) (tell : UInt8 → Bool) (w : World) (hb : b < 256) (hT : Tells S tell) :
    Calls Tryz.prog 111 #[.int .u8 (b : Int), .string S] w fun e w' => e = .returned (.string (strT (aloneL b tell))) ∧ Below w.heap.size w w' := by
  by_cases h10 : b = 10
  · subst h10
    rw [show strT (aloneL 10 tell) = ⟨#[92, 110]⟩ from rfl]
    go_enter Tryz.func111, Tryz.ntmps111; go_wp2; go_ret; exact ⟨rfl, Below.refl _ _⟩
  by_cases h9 : b = 9
  · subst h9
    rw [show strT (aloneL 9 tell) = ⟨#[92, 116]⟩ from rfl]
    go_enter Tryz.func111, Tryz.ntmps111; go_wp2; go_ret; exact ⟨rfl, Below.refl _ _⟩
  by_cases h13 : b = 13
  · subst h13
    rw [show strT (aloneL 13 tell) = ⟨#[92, 114]⟩ from rfl]
    go_enter Tryz.func111, Tryz.ntmps111; go_wp2; go_ret; exact ⟨rfl, Below.refl _ _⟩
  have c1 : ((b : Int) == 10) = false := beq_eq_false_iff_ne.2 (by omega)
  have c2 : ((b : Int) == 9) = false := beq_eq_false_iff_ne.2 (by omega)
  have c3 : ((b : Int) == 13) = false := beq_eq_false_iff_ne.2 (by omega)
  have GP := hid (fun u => plainC b S tell u hb hT)
  have GV := hid (fun u => visibleC b u hb)
  by_cases hx : b < 32 ∨ 126 < b
  · have e : aloneL b tell = [92, 120, digL (b / 16), digL (b % 16)] := by
      unfold aloneL
      rw [if_neg h10, if_neg h9, if_neg h13, if_pos hx]
    rw [e]
    have hv : decide (32 ≤ b ∧ b ≤ 126) = false := decide_eq_false (by omega)
    have hp : plainB b tell = false := by unfold plainB; rw [hv]; rfl
    rw [hp] at GP
    rw [hv] at GV
    have hq : (b : Int) / 16 = ((b / 16 : Nat) : Int) := by omega
    have hr : (b : Int) % 16 = ((b % 16 : Nat) : Int) := by omega
    have g1 := idx_digit (b / 16) (by omega)
    have g2 := idx_digit (b % 16) (by omega)
    have hcv := hid (fun u => conv_four (digL (b / 16)) (digL (b % 16)) u)
    have hq1 : b / 16 < 16 := by omega
    have hr1 : b % 16 < 16 := by omega
    clear e hv hp h10 h9 h13 hx
    have hcv1 := hcv.out w
    generalize strT [92, 120, digL (b / 16), digL (b % 16)] = R at hcv1 ⊢
    generalize digL (b / 16) = X at g1 hcv1
    generalize digL (b % 16) = Y at g2 hcv1
    clear hcv
    generalize b / 16 = q at hq hq1 g1
    generalize b % 16 = r at hr hr1 g2
    have hr3 : (b : Int).tmod 16 = (r : Int) := by rw [Int.tmod_eq_emod_of_nonneg (by omega)]; exact hr
    have hq2 : (q : Int) < 16 := by omega
    have hr2 : (r : Int) < 16 := by omega
    have wq : IntKind.u8.wrap (q : Int) = (q : Int) := by rw [IntKind.wrap_u8]; omega
    have wr : IntKind.u8.wrap (r : Int) = (r : Int) := by rw [IntKind.wrap_u8]; omega
    go_enter Tryz.func111, Tryz.ntmps111
    go_wp2_with (first
      | (go_at_call 123; refine (GP.out _).mono ?_; rintro e u1 ⟨rfl, hu⟩; subst u1)
      | (go_at_call 124; refine (GV.out _).mono ?_; rintro e u1 ⟨rfl, hu⟩; subst u1))
    go_region_with (fail)
    all_goals
      go_wp2
      go_ret
      exact ⟨rfl, (al' w _).drew⟩
  · have hv : decide (32 ≤ b ∧ b ≤ 126) = true := decide_eq_true (by omega)
    have hp : plainB b tell = !tell (UInt8.ofNat b) := by unfold plainB; rw [hv]; rfl
    have e : aloneL b tell = if tell (UInt8.ofNat b) then [92, UInt8.ofNat b] else [UInt8.ofNat b] := by
      unfold aloneL
      rw [if_neg h10, if_neg h9, if_neg h13, if_neg hx]
    rw [e]
    rw [hp] at GP
    rw [hv] at GV
    have hc1 := conv_one b hb w
    have hc2 := conv_two b hb w
    clear e hv hp h10 h9 h13 hx
    cases ht : tell (UInt8.ofNat b) with
    | true =>
      rw [ht] at GP
      rw [if_pos rfl]
      generalize strT [92, UInt8.ofNat b] = R at hc2 ⊢
      clear ht hc1
      go_enter Tryz.func111, Tryz.ntmps111
      go_wp2_with (first
        | (go_at_call 123; refine (GP.out _).mono ?_; rintro e u1 ⟨rfl, hu⟩; subst u1)
        | (go_at_call 124; refine (GV.out _).mono ?_; rintro e u1 ⟨rfl, hu⟩; subst u1))
      go_ret
      exact ⟨rfl, al' w _⟩
    | false =>
      rw [ht] at GP
      rw [if_neg Bool.false_ne_true]
      generalize strT [UInt8.ofNat b] = R at hc1 ⊢
      clear ht hc2
      go_enter Tryz.func111, Tryz.ntmps111
      go_wp2_with (first
        | (go_at_call 123; refine (GP.out _).mono ?_; rintro e u1 ⟨rfl, hu⟩; subst u1)
        | (go_at_call 124; refine (GV.out _).mono ?_; rintro e u1 ⟨rfl, hu⟩; subst u1))
      go_ret
      exact ⟨rfl, al' w _⟩

end Go.Proofs.YtcledgljbmepaaaGreatDoor
namespace Go.Proofs.YtcledgljbmepaaaGreatDoor
open Go.RowKit

end Go.Proofs.YtcledgljbmepaaaGreatDoor
namespace Go.Proofs.YtcledgljbmepaaaGreatDoor
open Go.RowKit

theorem alone_le (b : Nat) (left : UInt8 → Bool) : (aloneL b left).length ≤ 4 := by
  unfold aloneL
  repeat' split
  all_goals simp
theorem told_step {S : W4} {A T : Txt} {b f n : Nat} (hb : b < 256) (hf : 257 ≤ b + f) (hn : n = runN S b 256) (h : A ++ runsL S b f = T) : ∃ f', 257 ≤ b + n + 1 + f' ∧ (A ++ runL b n) ++ runsL S (b + n + 1) f' = T := by
  obtain ⟨f', rfl⟩ : ∃ f', f = f' + 1 := ⟨f - 1, by omega⟩
  refine ⟨f', by omega, ?_⟩
  rw [runsL, if_pos hb, ← hn] at h
  rw [List.append_assoc]
  exact h
theorem told_end {S : W4} {A T : Txt} {b f : Nat} (hb : ¬ b < 256) (h : A ++ runsL S b f = T) : A = T := by
  cases f with
  | zero => rw [runsL] at h; simpa using h
  | succ f => rw [runsL, if_neg hb] at h; simpa using h
theorem runL_0 (b : Nat) : runL b 0 = [] := by simp [runL]
theorem runL_1 (b : Nat) : runL b 1 = aloneL b tellC := by simp [runL]
theorem runL_2 (b : Nat) : runL b 2 = aloneL b tellC ++ aloneL (b + 1) tellC := by simp [runL]
theorem runL_3 (b n : Nat) (h : 2 < n) : runL b n = aloneL b tellC ++ ([45] ++ aloneL (b + n - 1) tellC) := by
  unfold runL
  rw [if_pos (by omega), if_pos h, if_pos (by omega)]


end Go.Proofs.YtcledgljbmepaaaGreatDoor
