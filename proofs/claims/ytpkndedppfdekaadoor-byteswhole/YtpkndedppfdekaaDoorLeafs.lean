/- One, Has, Count, Least, Span of package bytes. -/
import Derived.Test.YtpkndedppfdekaaDoorWords
import Derived.BigQuiet
namespace Go.Proofs.YtpkndedppfdekaaDoor
open Go.RowKit

/-- the word of a byte: one bit -/
theorem bitC (x : Nat) (w : World) (hx : x < 256) :
    Calls Tryd.prog 26 #[.int .u8 (x : Int)] w fun e w' => e = .returned (.int .u64 ((2 ^ (x % 64) : Nat) : Int)) ∧ w' = w := by
  have hp := wrap_pow (j := x % 64) (by omega)
  have hr : (x : Int) % 64 = ((x % 64 : Nat) : Int) := by omega
  have hrl : x % 64 < 64 := by omega
  generalize hm : 2 ^ (x % 64) = m at hp ⊢
  generalize x % 64 = r at hr hrl hp hm
  go_enter Tryd.func26, Tryd.ntmps26
  go_wp2
  go_ret
  exact ⟨rfl, rfl⟩

set_option maxHeartbeats 1000000 in
theorem oneC (x : Nat) (w : World) (hx : x < 256) :
    Calls Tryd.prog 11 #[.int .u8 (x : Int)] w fun e w' => e = .returned (valB (spanB x x)) ∧ Below w.heap.size w w' := by
  rw [one_word x hx]
  have GB := hid (fun u => bitC x u hx)
  have hq : (x : Int) / 64 = ((x / 64 : Nat) : Int) := by omega
  have hql : x / 64 = 0 ∨ x / 64 = 1 ∨ x / 64 = 2 ∨ x / 64 = 3 := by omega
  generalize hm : 2 ^ (x % 64) = m at GB ⊢
  generalize x / 64 = q at hq hql ⊢
  clear hm
  rcases hql with rfl | rfl | rfl | rfl
  · go_enter Tryd.func11, Tryd.ntmps11
    go_wp2_with (go_at_call 26; refine (GB.out _).mono ?_; rintro e u1 ⟨rfl, hu⟩; subst u1)
    exact bodyPost_ret (v := .agg #[.int .u64 (m : Int), .int .u64 0, .int .u64 0, .int .u64 0]) (by simp [results, Tryd.results11, go_sem]) rfl ⟨rfl, bl_step (al' w _) (al' _ _)⟩
  · go_enter Tryd.func11, Tryd.ntmps11
    go_wp2_with (go_at_call 26; refine (GB.out _).mono ?_; rintro e u1 ⟨rfl, hu⟩; subst u1)
    exact bodyPost_ret (v := .agg #[.int .u64 0, .int .u64 (m : Int), .int .u64 0, .int .u64 0]) (by simp [results, Tryd.results11, go_sem]) rfl ⟨rfl, bl_step (al' w _) (al' _ _)⟩
  · go_enter Tryd.func11, Tryd.ntmps11
    go_wp2_with (go_at_call 26; refine (GB.out _).mono ?_; rintro e u1 ⟨rfl, hu⟩; subst u1)
    exact bodyPost_ret (v := .agg #[.int .u64 0, .int .u64 0, .int .u64 (m : Int), .int .u64 0]) (by simp [results, Tryd.results11, go_sem]) rfl ⟨rfl, bl_step (al' w _) (al' _ _)⟩
  · go_enter Tryd.func11, Tryd.ntmps11
    go_wp2_with (go_at_call 26; refine (GB.out _).mono ?_; rintro e u1 ⟨rfl, hu⟩; subst u1)
    exact bodyPost_ret (v := .agg #[.int .u64 0, .int .u64 0, .int .u64 0, .int .u64 (m : Int)]) (by simp [results, Tryd.results11, go_sem]) rfl ⟨rfl, bl_step (al' w _) (al' _ _)⟩

theorem has_and (n r : Nat) (hn : n < 18446744073709551616) (hr : r < 64) : bits .and .u64 (n : Int) ((2 ^ r : Nat) : Int) = if n.testBit r then ((2 ^ r : Nat) : Int) else 0 := by
  have h2 : 2 ^ r < 18446744073709551616 := Nat.pow_lt_pow_right (a := 2) (by omega) hr
  have e : n &&& 2 ^ r = if n.testBit r then 2 ^ r else 0 := by
    apply Nat.eq_of_testBit_eq
    intro j
    rw [Nat.testBit_and, Nat.testBit_two_pow]
    by_cases hj : r = j
    · subst hj
      cases hb : n.testBit r <;> simp [Nat.testBit_two_pow_self]
    · cases hb : n.testBit r <;> simp [hj]
  rw [u64_and_nat n _ hn h2, e]
  cases n.testBit r <;> simp
theorem not_zero (r : Bool) (m : Nat) (hm : 0 < m) : (!((if r then (m : Int) else 0) == 0)) = r := by
  cases r
  · rfl
  · have : ((m : Int) == 0) = false := beq_eq_false_iff_ne.2 (by omega)
    simp [this]
set_option maxHeartbeats 2000000 in
theorem hasC' (a b c d x : Nat) (w : World) (hS : Fit4 ⟨a, b, c, d⟩) (hx : x < 256) :
    Calls Tryd.prog 22 #[valB ⟨a, b, c, d⟩, .int .u8 (x : Int)] w fun e w' => e = .returned (.bool (hasB ⟨a, b, c, d⟩ x)) ∧ Below w.heap.size w w' := by
  have hq : (x : Int) / 64 = ((x / 64 : Nat) : Int) := by omega
  have hql : x / 64 = 0 ∨ x / 64 = 1 ∨ x / 64 = 2 ∨ x / 64 = 3 := by omega
  have GB := hid (fun u => bitC x u hx)
  have hand := has_and _ (x % 64) (hS.w (x / 64)) (by omega)
  have hpos : 0 < 2 ^ (x % 64) := Nat.two_pow_pos _
  have hh : hasB ⟨a, b, c, d⟩ x = (W4.w ⟨a, b, c, d⟩ (x / 64)).testBit (x % 64) := rfl
  rw [hh]
  generalize (W4.w ⟨a, b, c, d⟩ (x / 64)).testBit (x % 64) = r at hand ⊢
  generalize 2 ^ (x % 64) = m at GB hand hpos ⊢
  generalize x / 64 = q at hq hql hand
  clear hS hh
  have hbd : Below w.heap.size w (w.alloc (.cells #[.int .u64 (a : Int), .int .u64 (b : Int), .int .u64 (c : Int), .int .u64 (d : Int)] 25)).drew := (al' w _).drew
  rcases hql with rfl | rfl | rfl | rfl
  · have hfin : Hid ((!(bits .and .u64 (a : Int) (m : Int) == 0)) = r) := hid (by rw [show bits .and .u64 (a : Int) (m : Int) = if r then (m : Int) else 0 from hand]; exact not_zero r m hpos)
    go_enter Tryd.func22, Tryd.ntmps22
    go_wp2_with fail
    go_region_with (first | (go_at_call 26; refine (GB.out _).mono ?_; rintro e u1 ⟨rfl, hu⟩; subst u1) | fail)
    all_goals
      go_wp2
      go_ret
      exact ⟨congrArg Ending.returned (congrArg Value.bool hfin.out), hbd⟩
  · have hfin : Hid ((!(bits .and .u64 (b : Int) (m : Int) == 0)) = r) := hid (by rw [show bits .and .u64 (b : Int) (m : Int) = if r then (m : Int) else 0 from hand]; exact not_zero r m hpos)
    go_enter Tryd.func22, Tryd.ntmps22
    go_wp2_with fail
    go_region_with (first | (go_at_call 26; refine (GB.out _).mono ?_; rintro e u1 ⟨rfl, hu⟩; subst u1) | fail)
    all_goals
      go_wp2
      go_ret
      exact ⟨congrArg Ending.returned (congrArg Value.bool hfin.out), hbd⟩
  · have hfin : Hid ((!(bits .and .u64 (c : Int) (m : Int) == 0)) = r) := hid (by rw [show bits .and .u64 (c : Int) (m : Int) = if r then (m : Int) else 0 from hand]; exact not_zero r m hpos)
    go_enter Tryd.func22, Tryd.ntmps22
    go_wp2_with fail
    go_region_with (first | (go_at_call 26; refine (GB.out _).mono ?_; rintro e u1 ⟨rfl, hu⟩; subst u1) | fail)
    all_goals
      go_wp2
      go_ret
      exact ⟨congrArg Ending.returned (congrArg Value.bool hfin.out), hbd⟩
  · have hfin : Hid ((!(bits .and .u64 (d : Int) (m : Int) == 0)) = r) := hid (by rw [show bits .and .u64 (d : Int) (m : Int) = if r then (m : Int) else 0 from hand]; exact not_zero r m hpos)
    go_enter Tryd.func22, Tryd.ntmps22
    go_wp2_with fail
    go_region_with (first | (go_at_call 26; refine (GB.out _).mono ?_; rintro e u1 ⟨rfl, hu⟩; subst u1) | fail)
    all_goals
      go_wp2
      go_ret
      exact ⟨congrArg Ending.returned (congrArg Value.bool hfin.out), hbd⟩

end Go.Proofs.YtpkndedppfdekaaDoor
