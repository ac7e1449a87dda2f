/- The contracts of topiaryref05.Has and Put. -/
import Derived.Test.YtpkndedppfdekaaDoorClose
import Derived.Test.YtpkndedppfdekaaDoorMath
import Derived.WalkKit
import Derived.WalkSpells
import Derived.Lib.SmallJoins
namespace Go.Proofs.YtpkndedppfdekaaDoor
open Go.RowKit

/-- a set as a value, and its cells -/
def setCellsB (S : W4) : Array Value := #[.int .u64 S.a, .int .u64 S.b, .int .u64 S.c, .int .u64 S.d]

theorem word_at (a b c d : Nat) (i : Nat) (hi : i < 4) : [Value.int .u64 (a : Int), .int .u64 (b : Int), .int .u64 (c : Int), .int .u64 (d : Int)][i]? = some (.int .u64 ((W4.w ⟨a, b, c, d⟩ i : Nat) : Int)) := by
  have hi' : i = 0 ∨ i = 1 ∨ i = 2 ∨ i = 3 := by omega
  rcases hi' with rfl | rfl | rfl | rfl <;> rfl

theorem wrapU {z : Int} (h0 : 0 ≤ z) (h1 : z < 18446744073709551616) : IntKind.u64.wrap z = z := by
  rw [IntKind.wrap_u64]; omega
theorem pow_lt64 {j : Nat} (h : j < 64) : 2 ^ j < 18446744073709551616 := by
  have : (2 : Nat) ^ j < 2 ^ 64 := Nat.pow_lt_pow_right (by omega) h
  omega
theorem wrap_pow {j : Nat} (h : j < 64) : IntKind.u64.wrap ((2 : Int) ^ j) = ((2 ^ j : Nat) : Int) := by
  rw [wrapU (by exact Int.pow_nonneg (by omega)) (by have := pow_lt64 h; rw [show ((2 : Int) ^ j) = ((2 ^ j : Nat) : Int) by push_cast; rfl]; omega)]
  push_cast; rfl
theorem wrap_quo {n m : Nat} (hn : n < 18446744073709551616) : IntKind.u64.wrap ((n : Int) / (m : Int)) = ((n / m : Nat) : Int) := by
  have : n / m ≤ n := Nat.div_le_self _ _
  rw [show (n : Int) / (m : Int) = ((n / m : Nat) : Int) by push_cast; rfl]
  exact wrapU (Int.natCast_nonneg _) (Int.ofNat_lt.2 (Nat.lt_of_le_of_lt this hn))
theorem rem_two (q : Nat) : (((q : Int) % 2) == 1) = decide (q % 2 = 1) := by
  rw [Bool.eq_iff_iff, beq_iff_eq, decide_eq_true_iff]
  omega

theorem refHas (a b c d x : Nat) (w : World) (hS : Fit4 ⟨a, b, c, d⟩) (hx : x < 256) :
    Calls Tryd.prog 23 #[.agg #[.int .u64 a, .int .u64 b, .int .u64 c, .int .u64 d], .int .i64 x] w fun e w' => e = .returned (.bool (hasB ⟨a, b, c, d⟩ x)) ∧ Below w.heap.size w w' := by
  have hcell := word_at a b c d (x / 64) (by omega)
  have hdiv := hasB_div ⟨a, b, c, d⟩ x
  have hn := hS.w (x / 64)
  have hp := wrap_pow (j := x % 64) (by omega)
  have hm0 : 0 < 2 ^ (x % 64) := Nat.two_pow_pos _
  generalize W4.w ⟨a, b, c, d⟩ (x / 64) = n at hcell hdiv hn
  generalize hasB ⟨a, b, c, d⟩ x = r at hdiv ⊢
  generalize 2 ^ (x % 64) = m at hp hm0 hdiv
  have hq := wrap_quo (m := m) hn
  have hr := rem_two (n / m)
  rw [← hdiv] at hr
  generalize n / m = q at hq hr hdiv
  have hm1 : ¬ (m : Int) = 0 := by omega
  clear hdiv hS
  go_enter Tryd.func23, Tryd.ntmps23
  go_wp2
  go_ret
  exact ⟨by first | rfl | rw [hr], (Below.refl _ w).alloc (Nat.le_refl _) _⟩

end Go.Proofs.YtpkndedppfdekaaDoor
