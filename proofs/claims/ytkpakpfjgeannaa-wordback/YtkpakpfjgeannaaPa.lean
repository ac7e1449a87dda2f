/- Package word's leaves: letter, digit, sign, blank, name, rule. -/
import Derived.Test.YtkpakpfjgeannaaWe
namespace Go.Proofs.Ytkpakpfjgeannaa
open Go.RowKit Go.Maps

/-- how many bytes up to the next byte 10, or the end -/
def nlL : Txt → Nat
  | [] => 0
  | c :: r => if c.toNat = 10 then 0 else 1 + nlL r
/-- how many bytes the blank that stands ahead has; 0: none does -/
def blkL : Txt → Nat
  | [] => 0
  | c :: r => if blnB c.toNat then 1 else if c.toNat = 35 then 1 + nlL r else 0
def nmC : Txt → Nat
  | [] => 0
  | c :: r => if letB c.toNat then (if 16 < namL (c :: r) then 0 else namL (c :: r)) else 0
def rlC : Txt → Nat
  | [] => 0
  | c :: r => if c.toNat = 47 then (match rgL false r with | none => 0 | some n => n + 1) else 0
def sgC : Txt → Nat
  | [] => 0
  | c :: _ => if sgnB c.toNat then 1 else 0
theorem nlL_le : ∀ u : Txt, nlL u ≤ u.length
  | [] => Nat.zero_le _
  | c :: r => by
    have := nlL_le r
    rw [nlL, List.length_cons]
    split <;> omega
theorem skL_true : ∀ r : Txt, skL true r = nlL r + skL false (r.drop (nlL r))
  | [] => rfl
  | c :: r => by
    rw [skL, nlL]
    by_cases h : c.toNat = 10
    · rw [if_pos h, List.drop_zero, skL, h]
      rw [if_neg (by decide), if_pos (by decide)]
      show 1 + skL false r = 0 + (1 + skL false r)
      omega
    · rw [if_neg h, show (c.toNat != 10) = true from bne_iff_ne.2 h, skL_true r, show 1 + nlL r = nlL r + 1 by omega, List.drop_succ_cons]
      omega
/-- a blank ahead is gone past -/
theorem skL_blk : ∀ u : Txt, skL false u = blkL u + skL false (u.drop (blkL u))
  | [] => rfl
  | c :: r => by
    rw [blkL]
    by_cases h : blnB c.toNat = true
    · rw [if_pos h, skL, h, if_pos rfl, if_neg (by intro h9; rw [h9] at h; cases h)]
      rfl
    · have hf : blnB c.toNat = false := by cases e : blnB c.toNat with | false => rfl | true => exact absurd e h
      by_cases h35 : c.toNat = 35
      · rw [if_neg h, if_pos h35, skL, if_pos h35, skL_true r, show 1 + nlL r = nlL r + 1 by omega, List.drop_succ_cons]
        omega
      · rw [if_neg h, if_neg h35, Nat.zero_add, List.drop_zero]
theorem skL_none {u : Txt} (h : blkL u = 0) : skL false u = 0 := by
  cases u with
  | nil => rfl
  | cons c r =>
    rw [blkL] at h
    rw [skL]
    by_cases h1 : blnB c.toNat = true
    · rw [if_pos h1] at h; omega
    · rw [if_neg h1] at h
      by_cases h35 : c.toNat = 35
      · rw [if_pos h35] at h; omega
      · rw [if_neg h35, if_neg h1]
theorem blkL_le (u : Txt) : blkL u ≤ u.length := by
  cases u with
  | nil => exact Nat.zero_le _
  | cons c r =>
    have := nlL_le r
    rw [blkL, List.length_cons]
    split
    · omega
    · split <;> omega

set_option maxRecDepth 20000 in
theorem letterP (b : Nat) (w : World) (hb : b < 256) : Calls Try.prog 35 #[.int .u8 (b : Int)] w fun e w' => e = .returned (.bool (letB b)) ∧ w' = w := by
  rcases (show b = 95 ∨ (65 ≤ b ∧ b ≤ 90) ∨ (97 ≤ b ∧ b ≤ 122) ∨ b < 65 ∨ (90 < b ∧ b < 97 ∧ b ≠ 95) ∨ 122 < b by omega) with h | h | h | h | h | h
  · rw [letB_yes (by omega)]
    subst h
    go_enter Try.func35, Try.ntmps35
    go_wp2
    go_ret
    exact ⟨by simp, rfl⟩
  · rw [letB_yes (by omega)]
    have h0 : ¬ (97 : Int) ≤ (b : Int) := by omega
    have h2 : (65 : Int) ≤ (b : Int) := by omega
    have h3 : (b : Int) ≤ 90 := by omega
    go_enter Try.func35, Try.ntmps35
    go_wp2
    go_ret
    exact ⟨by simp, rfl⟩
  · rw [letB_yes (by omega)]
    have h4 : (97 : Int) ≤ (b : Int) := by omega
    have h5 : (b : Int) ≤ 122 := by omega
    go_enter Try.func35, Try.ntmps35
    go_wp2
    go_ret
    exact ⟨by simp, rfl⟩
  · rw [letB_no (by omega)]
    have h1 : ((b : Int) == 95) = false := by rw [beq_eq_false_iff_ne]; omega
    have h2 : ¬ (65 : Int) ≤ (b : Int) := by omega
    have h4 : ¬ (97 : Int) ≤ (b : Int) := by omega
    go_enter Try.func35, Try.ntmps35
    go_wp2
    go_ret
    exact ⟨by simp, rfl⟩
  · rw [letB_no (by omega)]
    have h1 : ((b : Int) == 95) = false := by rw [beq_eq_false_iff_ne]; omega
    have h2 : (65 : Int) ≤ (b : Int) := by omega
    have h3 : ¬ (b : Int) ≤ 90 := by omega
    have h4 : ¬ (97 : Int) ≤ (b : Int) := by omega
    go_enter Try.func35, Try.ntmps35
    go_wp2
    go_ret
    exact ⟨by simp, rfl⟩
  · rw [letB_no (by omega)]
    have h1 : ((b : Int) == 95) = false := by rw [beq_eq_false_iff_ne]; omega
    have h2 : (65 : Int) ≤ (b : Int) := by omega
    have h3 : ¬ (b : Int) ≤ 90 := by omega
    have h4 : (97 : Int) ≤ (b : Int) := by omega
    have h5 : ¬ (b : Int) ≤ 122 := by omega
    go_enter Try.func35, Try.ntmps35
    go_wp2
    go_ret
    exact ⟨by simp, rfl⟩
set_option maxRecDepth 20000 in
theorem digitP (b : Nat) (w : World) (hb : b < 256) : Calls Try.prog 36 #[.int .u8 (b : Int)] w fun e w' => e = .returned (.bool (digB b)) ∧ w' = w := by
  rcases (show b < 48 ∨ (48 ≤ b ∧ b ≤ 57) ∨ 57 < b by omega) with h | h | h
  · have e1 : digB b = false := by unfold digB; rw [decide_eq_false (by omega)]; rfl
    rw [e1]
    have h1 : ¬ (48 : Int) ≤ (b : Int) := by omega
    go_enter Try.func36, Try.ntmps36
    go_wp2
    go_ret
    exact ⟨by simp, rfl⟩
  · rw [(digB_iff b).2 h]
    have h1 : (48 : Int) ≤ (b : Int) := by omega
    have h2 : (b : Int) ≤ 57 := by omega
    go_enter Try.func36, Try.ntmps36
    go_wp2
    go_ret
    exact ⟨by simp, rfl⟩
  · have e1 : digB b = false := by unfold digB; rw [decide_eq_false (show ¬ b ≤ 57 by omega), Bool.and_false]
    rw [e1]
    have h1 : (48 : Int) ≤ (b : Int) := by omega
    have h2 : ¬ (b : Int) ≤ 57 := by omega
    go_enter Try.func36, Try.ntmps36
    go_wp2
    go_ret
    exact ⟨by simp, rfl⟩

set_option maxRecDepth 20000 in
theorem ixExt (S : ByteArray) (z : Int) (w : World) : (callFunc 38 #[.string S, .int .u8 z]).run Try.prog w = .ok (.value (.int .i64 (Lib.indexByte S.data.toList z.toNat.toUInt8))) w := by
  rw [run_callFunc_indexByte Try.func38 (by kernel_rfl) (by kernel_rfl) (by kernel_rfl) (by kernel_rfl), Lib.run_indexByteString]
  rfl
set_option maxRecDepth 20000 in
theorem ixLite (S : ByteArray) (z : Int) (w : World) : Calls Try.prog 37 #[.string S, .int .u8 z] w fun e w' => e = .returned (.int .i64 (Lib.indexByte S.data.toList z.toNat.toUInt8)) ∧ w' = w := by
  have hx := ixExt S z
  go_enter Try.func37, Try.ntmps37
  go_wp2
  go_ret
  exact ⟨rfl, rfl⟩
set_option maxRecDepth 20000 in
theorem ixC (S : ByteArray) (z : Int) (w : World) : Calls Try.prog 34 #[.string S, .int .u8 z] w fun e w' => e = .returned (.int .i64 (Lib.indexByte S.data.toList z.toNat.toUInt8)) ∧ w' = w := by
  have G := hid (ixLite S z)
  go_enter Try.func34, Try.ntmps34
  go_wp2_with (go_at_call 37; refine (G.out _).mono ?_; rintro e w1 ⟨rfl, hw⟩; subst w1)
  go_ret
  exact ⟨rfl, rfl⟩

end Go.Proofs.Ytkpakpfjgeannaa
