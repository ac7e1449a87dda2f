/- bit, One of package bytes. -/
import Derived.Test.YtjiljfmejgiabaaWords
import Derived.BigQuiet
namespace Go.Proofs.Ytjiljfmejgiabaa
open Go.RowKit

/-- the word of a byte: one bit -/
theorem bitC (x : Nat) (w : World) (hx : x < 256) :
    Calls Try.prog 39 #[.int .u8 (x : Int)] w fun e w' => e = .returned (.int .u64 ((2 ^ (x % 64) : Nat) : Int)) ∧ w' = w := by
  have hp := wrap_pow (j := x % 64) (by omega)
  have hr : (x : Int) % 64 = ((x % 64 : Nat) : Int) := by omega
  have hrl : x % 64 < 64 := by omega
  generalize hm : 2 ^ (x % 64) = m at hp ⊢
  generalize x % 64 = r at hr hrl hp hm
  go_enter Try.func39, Try.ntmps39
  go_wp2
  go_ret
  exact ⟨rfl, rfl⟩

set_option maxHeartbeats 1000000 in
theorem oneC (x : Nat) (w : World) (hx : x < 256) :
    Calls Try.prog 34 #[.int .u8 (x : Int)] w fun e w' => e = .returned (valB (spanB x x)) ∧ Below w.heap.size w w' := by
  rw [one_word x hx]
  have GB := hid (fun u => bitC x u hx)
  have hq : (x : Int) / 64 = ((x / 64 : Nat) : Int) := by omega
  have hql : x / 64 = 0 ∨ x / 64 = 1 ∨ x / 64 = 2 ∨ x / 64 = 3 := by omega
  generalize hm : 2 ^ (x % 64) = m at GB ⊢
  generalize x / 64 = q at hq hql ⊢
  clear hm
  rcases hql with rfl | rfl | rfl | rfl
  · go_enter Try.func34, Try.ntmps34
    go_wp2_with (go_at_call 39; refine (GB.out _).mono ?_; rintro e u1 ⟨rfl, hu⟩; subst u1)
    exact bodyPost_ret (v := .agg #[.int .u64 (m : Int), .int .u64 0, .int .u64 0, .int .u64 0]) (by simp [results, Try.results34, go_sem]) rfl ⟨rfl, bl_step (al' w _) (al' _ _)⟩
  · go_enter Try.func34, Try.ntmps34
    go_wp2_with (go_at_call 39; refine (GB.out _).mono ?_; rintro e u1 ⟨rfl, hu⟩; subst u1)
    exact bodyPost_ret (v := .agg #[.int .u64 0, .int .u64 (m : Int), .int .u64 0, .int .u64 0]) (by simp [results, Try.results34, go_sem]) rfl ⟨rfl, bl_step (al' w _) (al' _ _)⟩
  · go_enter Try.func34, Try.ntmps34
    go_wp2_with (go_at_call 39; refine (GB.out _).mono ?_; rintro e u1 ⟨rfl, hu⟩; subst u1)
    exact bodyPost_ret (v := .agg #[.int .u64 0, .int .u64 0, .int .u64 (m : Int), .int .u64 0]) (by simp [results, Try.results34, go_sem]) rfl ⟨rfl, bl_step (al' w _) (al' _ _)⟩
  · go_enter Try.func34, Try.ntmps34
    go_wp2_with (go_at_call 39; refine (GB.out _).mono ?_; rintro e u1 ⟨rfl, hu⟩; subst u1)
    exact bodyPost_ret (v := .agg #[.int .u64 0, .int .u64 0, .int .u64 0, .int .u64 (m : Int)]) (by simp [results, Try.results34, go_sem]) rfl ⟨rfl, bl_step (al' w _) (al' _ _)⟩

end Go.Proofs.Ytjiljfmejgiabaa
