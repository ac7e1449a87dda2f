/- Contracts of fits, Fits, gone. -/
import Derived.Test.YtbemlnllhedbpaaEdBase
namespace Go.Proofs.Ytbemlnllhedbpaa
open Go.RowKit

def fitsB (l at' n : Int) : Bool := decide (0 ≤ at' ∧ 0 ≤ n ∧ n ≤ l - at')
theorem ret_bool {a b : Bool} (h : a = b) : Ending.returned (.bool a) = .returned (.bool b) := by rw [h]

set_option maxHeartbeats 400000 in
theorem fits28 (s t : ByteArray) (a n : Int) (w : World) (hs : s.size ≤ 9223372036854775807) (ha : a ≤ 9223372036854775807) :
    Calls Try.prog 28 #[.string s, .agg #[.int .i64 a, .int .i64 n, .string t]] w fun e w' => e = .returned (.bool (fitsB s.size a n)) ∧ Below w.heap.size w w' := by
  go_enter Try.func28, Try.ntmps28
  go_wp2
  all_goals go_ret
  all_goals refine ⟨ret_bool ?_, (Below.refl _ _).alloc (Nat.le_refl _) _⟩
  all_goals (unfold fitsB; rw [Bool.eq_iff_iff]; simp; omega)

set_option maxHeartbeats 400000 in
theorem fits23 (s t : ByteArray) (a n : Int) (w : World) (hs : s.size ≤ 9223372036854775807) (ha : a ≤ 9223372036854775807) :
    Calls Try.prog 25 #[.string s, .agg #[.int .i64 a, .int .i64 n, .string t]] w fun e w' => e = .returned (.bool (fitsB s.size a n)) ∧ Below w.heap.size w w' := by
  go_enter Try.func25, Try.ntmps25
  go_wp2
  all_goals go_ret
  all_goals refine ⟨ret_bool ?_, (Below.refl _ _).alloc (Nat.le_refl _) _⟩
  all_goals (unfold fitsB; rw [Bool.eq_iff_iff]; simp; omega)

end Go.Proofs.Ytbemlnllhedbpaa
