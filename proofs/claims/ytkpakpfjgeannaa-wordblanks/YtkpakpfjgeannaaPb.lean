/- Package word's cutters: sign, blank, name, rule. -/
import Derived.Test.YtkpakpfjgeannaaPa
namespace Go.Proofs.Ytkpakpfjgeannaa
open Go.RowKit Go.Maps

theorem str_head (c : UInt8) (r : Txt) (h' : 0 < (strT (c :: r)).size) : (((strT (c :: r))[0]'h').toNat : Int) = (c.toNat : Int) := by
  have := str_get (s := c :: r) (p := 0) (by simp) h'
  exact this
set_option maxRecDepth 20000 in
set_option maxHeartbeats 1000000 in
theorem signP (c : UInt8) (r : Txt) (w : World) (hs : (c :: r).length ≤ 1000000) : Calls Try.prog 31 #[.string (strT (c :: r))] w fun e w' => e = .returned (.int .i64 (sgC (c :: r) : Int)) ∧ w' = w := by
  have hsz := strT_size (c :: r)
  have h0 : 0 < (strT (c :: r)).size := by rw [hsz, List.length_cons]; omega
  have key := str_head c r h0
  by_cases hsg : c.toNat = 58 ∨ c.toNat = 59 ∨ c.toNat = 124 ∨ c.toNat = 37
  · have e1 : sgC (c :: r) = 1 := by rw [sgC, sgnB_yes hsg, if_pos rfl]
    rw [e1]
    clear e1
    generalize strT (c :: r) = S at *
    generalize (c :: r).length = n at *
    generalize c.toNat = cn at *
    rcases hsg with h9 | h9 | h9 | h9
    all_goals
      subst h9
      go_enter Try.func31, Try.ntmps31
      go_wp2
      go_ret
      exact ⟨rfl, rfl⟩
  · have e1 : sgC (c :: r) = 0 := by rw [sgC, sgnB_no hsg, if_neg (by decide)]
    rw [e1]
    clear e1
    generalize strT (c :: r) = S at *
    generalize (c :: r).length = n at *
    generalize c.toNat = cn at *
    have z1 : ((cn : Int) == 58) = false := by rw [beq_eq_false_iff_ne]; omega
    have z2 : ((cn : Int) == 59) = false := by rw [beq_eq_false_iff_ne]; omega
    have z3 : ((cn : Int) == 124) = false := by rw [beq_eq_false_iff_ne]; omega
    have z4 : ((cn : Int) == 37) = false := by rw [beq_eq_false_iff_ne]; omega
    go_enter Try.func31, Try.ntmps31
    go_wp2
    go_ret
    exact ⟨rfl, rfl⟩
theorem ix_nl : ∀ u : Txt, Lib.indexByte u 10 = if nlL u < u.length then (nlL u : Int) else -1
  | [] => rfl
  | c :: r => by
    rw [Lib.indexByte, nlL, ix_nl r]
    have hle := nlL_le r
    by_cases h : c.toNat = 10
    · have hc : c = 10 := UInt8.toNat_inj.1 h
      rw [if_pos h, hc, if_pos (by decide), if_pos (by rw [List.length_cons]; omega)]
      rfl
    · have hc : (c == 10) = false := by rw [beq_eq_false_iff_ne]; intro h9; rw [h9] at h; exact h rfl
      rw [if_neg h, hc, if_neg (by decide)]
      by_cases h2 : nlL r < r.length
      · rw [if_pos h2, if_neg (by rw [beq_iff_eq]; omega), if_pos (by rw [List.length_cons]; omega)]
        omega
      · rw [if_neg h2, if_pos (by decide), if_neg (by rw [List.length_cons]; omega)]
set_option maxRecDepth 20000 in
set_option maxHeartbeats 1000000 in
theorem blankP (c : UInt8) (r : Txt) (w : World) (hs : (c :: r).length ≤ 1000000) : Calls Try.prog 28 #[.string (strT (c :: r))] w fun e w' => e = .returned (.int .i64 (blkL (c :: r) : Int)) ∧ w' = w := by
  have hsz := strT_size (c :: r)
  have h0 : 0 < (strT (c :: r)).size := by rw [hsz, List.length_cons]; omega
  have key := str_head c r h0
  by_cases hsg : c.toNat = 9 ∨ c.toNat = 10 ∨ c.toNat = 13 ∨ c.toNat = 32
  · have e1 : blkL (c :: r) = 1 := by rw [blkL, blnB_yes hsg, if_pos rfl]
    rw [e1]
    clear e1
    generalize strT (c :: r) = S at *
    generalize (c :: r).length = n at *
    generalize c.toNat = cn at *
    rcases hsg with h9 | h9 | h9 | h9
    all_goals
      subst h9
      go_enter Try.func28, Try.ntmps28
      go_wp2
      go_ret
      exact ⟨rfl, rfl⟩
  have hbn := blnB_no hsg
  by_cases h35 : c.toNat = 35
  · have e1 : blkL (c :: r) = 1 + nlL r := by rw [blkL, hbn, if_neg (by decide), if_pos h35]
    have e2 : nlL (c :: r) = 1 + nlL r := by rw [nlL, if_neg (by omega)]
    have hle := nlL_le (c :: r)
    rw [e1, ← e2]
    have GI := hid (fun u => ixC (strT (c :: r)) 10 u)
    rw [show (strT (c :: r)).data.toList = c :: r from rfl, show ((10 : Int).toNat.toUInt8) = 10 from rfl, ix_nl] at GI
    clear e1 e2 hbn hsg
    generalize nlL (c :: r) = m at *
    generalize strT (c :: r) = S at *
    generalize (c :: r).length = n at *
    generalize c.toNat = cn at *
    subst h35
    by_cases hm : m < n
    · rw [if_pos hm] at GI
      have hmz : (0 : Int) ≤ (m : Int) := by omega
      go_enter Try.func28, Try.ntmps28
      go_wp2_with (go_at_call 34; refine (GI.out w).mono ?_; clear GI; rintro e w1 ⟨rfl, hw⟩; subst w1)
      go_ret
      exact ⟨rfl, rfl⟩
    · rw [if_neg hm] at GI
      have hmn : m = n := by omega
      subst hmn
      go_enter Try.func28, Try.ntmps28
      go_wp2_with (go_at_call 34; refine (GI.out w).mono ?_; clear GI; rintro e w1 ⟨rfl, hw⟩; subst w1)
      go_ret
      exact ⟨rfl, rfl⟩
  · have e1 : blkL (c :: r) = 0 := by rw [blkL, hbn, if_neg (by decide), if_neg h35]
    rw [e1]
    clear e1 hbn
    generalize strT (c :: r) = S at *
    generalize (c :: r).length = n at *
    generalize c.toNat = cn at *
    have z1 : ((cn : Int) == 9) = false := by rw [beq_eq_false_iff_ne]; omega
    have z2 : ((cn : Int) == 10) = false := by rw [beq_eq_false_iff_ne]; omega
    have z3 : ((cn : Int) == 13) = false := by rw [beq_eq_false_iff_ne]; omega
    have z4 : ((cn : Int) == 32) = false := by rw [beq_eq_false_iff_ne]; omega
    have z5 : ((cn : Int) == 35) = false := by rw [beq_eq_false_iff_ne]; omega
    go_enter Try.func28, Try.ntmps28
    go_wp2
    go_ret
    exact ⟨rfl, rfl⟩

end Go.Proofs.Ytkpakpfjgeannaa
