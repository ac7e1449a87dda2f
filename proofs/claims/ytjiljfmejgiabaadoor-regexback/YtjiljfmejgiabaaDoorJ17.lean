/- The contract of math/bits.TrailingZeros64, where its table lies as it was laid. The contract of math/bits.OnesCount64. -/
import Derived.Test.YtjiljfmejgiabaaDoorJ3
import Derived.Test.YtjiljfmejgiabaaDoorJ16
import Derived.Test.YtjiljfmejgiabaaDoorJ2
import Derived.Test.YtjiljfmejgiabaaDoorJ14
import Derived.Laws.BitsAllLaws
import Derived.Laws.Bits128
namespace Go.Proofs.YtjiljfmejgiabaaDoor
open Go.RowKit

set_option maxHeartbeats 1000000 in
theorem tz_core (x k idx : Nat) (w : World) (hx0 : ((x : Int) == 0) = false)
    (key : IntKind.u64.wrap (bits BinOp.and IntKind.u64 (x : Int) (IntKind.u64.wrap (-(x : Int))) * 285870213051353865) / 288230376151711744 = (idx : Int))
    (hi : idx < 64) (hk : k < 64) (hcell : w.cell? ⟨0, idx, none⟩ = some (.int .u8 k)) :
    Calls Tryd.prog 46 #[.int .u64 x] w fun e w' => e = .returned (.int .i64 k) ∧ w' = w := by
  go_enter Tryd.func46, Tryd.ntmps46
  go_wp2_with (simp only [key])
  go_ret
  exact ⟨rfl, rfl⟩
theorem tzC (x : Nat) (w : World) (hx : x < 18446744073709551616) (h0 : x ≠ 0) (hT : Tab w) :
    Calls Tryd.prog 46 #[.int .u64 x] w fun e w' => e = .returned (.int .i64 ((Lib.ctz 64 x : Nat) : Int)) ∧ w' = w := by
  obtain ⟨hlow, hk⟩ := Lib.lowest_bit 64 x h0 hx
  obtain ⟨hi, htab⟩ := Lib.deBruijn64_at _ hk
  have hcell := hT _ hi
  rw [htab] at hcell
  exact tz_core x _ _ w (by simp; omega) (tz64_key x _ hx h0 hlow) hi hk hcell

end Go.Proofs.YtjiljfmejgiabaaDoor
namespace Go.Proofs.YtjiljfmejgiabaaDoor
open Go.RowKit

theorem and_u64 {a m : Nat} {z y : Int} (hz : z = a) (hy : y = m) (ha : a < 18446744073709551616) (hm : m < 18446744073709551616) : bits .and .u64 z y = ((a &&& m : Nat) : Int) := by
  rw [hz, hy]; exact u64_and_nat a m ha hm
theorem wrap_u {a : Nat} {z : Int} (hz : z = a) (ha : a < 18446744073709551616) : IntKind.u64.wrap z = (a : Int) := by
  rw [hz]; exact wrapU (by omega) (by omega)

set_option maxHeartbeats 1000000 in
theorem onesC (n : Nat) (w : World) (hn : n < 18446744073709551616) :
    Calls Tryd.prog 43 #[.int .u64 n] w fun e w' => e = .returned (.int .i64 ((sumB 8 n : Nat) : Int)) ∧ w' = w := by
  have o1 := ones1 n
  have o2 := ones2 n
  have o3 := ones3 n
  obtain ⟨x4, x5, x6, e4, e5, e6, hs, l6, l3, l4, l5⟩ := ones4 n
  have k1 := and_u64 (a := n / 2) (m := 6148914691236517205) (z := (n : Int) / 2) (y := 6148914691236517205) (by omega) rfl (by omega) (by omega)
  have k2 := and_u64 (a := n) (m := 6148914691236517205) (z := (n : Int)) (y := 6148914691236517205) rfl rfl (by omega) (by omega)
  have b1 : (n / 2 &&& 6148914691236517205) ≤ 6148914691236517205 := Nat.and_le_right
  have b2 : (n &&& 6148914691236517205) ≤ 6148914691236517205 := Nat.and_le_right
  generalize mapB pf1 8 n = x1 at o1 o2
  generalize (n / 2 &&& 6148914691236517205) = p1 at o1 k1 b1
  generalize (n &&& 6148914691236517205) = p2 at o1 k2 b2
  have w1 := wrap_u (a := x1) (z := (p1 : Int) + (p2 : Int)) (by omega) (by omega)
  have k3 := and_u64 (a := x1 / 4) (m := 3689348814741910323) (z := (x1 : Int) / 4) (y := 3689348814741910323) (by omega) rfl (by omega) (by omega)
  have k4 := and_u64 (a := x1) (m := 3689348814741910323) (z := (x1 : Int)) (y := 3689348814741910323) rfl rfl (by omega) (by omega)
  have b3 : (x1 / 4 &&& 3689348814741910323) ≤ 3689348814741910323 := Nat.and_le_right
  have b4 : (x1 &&& 3689348814741910323) ≤ 3689348814741910323 := Nat.and_le_right
  generalize mapB (fun b => pf2 (pf1 b)) 8 n = x2 at o2 o3
  generalize (x1 / 4 &&& 3689348814741910323) = p3 at o2 k3 b3
  generalize (x1 &&& 3689348814741910323) = p4 at o2 k4 b4
  have w2 := wrap_u (a := x2) (z := (p3 : Int) + (p4 : Int)) (by omega) (by omega)
  have w3 := wrap_u (a := x2 / 16 + x2) (z := (x2 : Int) / 16 + (x2 : Int)) (by omega) (by omega)
  have k5 := and_u64 (a := x2 / 16 + x2) (m := 1085102592571150095) (z := ((x2 / 16 + x2 : Nat) : Int)) (y := 1085102592571150095) rfl rfl (by omega) (by omega)
  rw [o3] at k5
  generalize x2 / 16 + x2 = y2 at w3 k5
  generalize mapB pop8 8 n = x3 at k5 e4 l3
  have w4 := wrap_u (a := x4) (z := (x3 : Int) + (x3 : Int) / 256) (by omega) (by omega)
  have w5 := wrap_u (a := x5) (z := (x4 : Int) + (x4 : Int) / 65536) (by omega) (by omega)
  have w6 := wrap_u (a := x6) (z := (x5 : Int) + (x5 : Int) / 4294967296) (by omega) (by omega)
  have k7 : bits .and .i64 (x6 : Int) 127 = ((sumB 8 n : Nat) : Int) := by
    rw [i64_and127]; omega
  generalize sumB 8 n = r at hs k7 ⊢
  clear o1 o2 o3 e4 e5 e6 b1 b2 b3 b4 l3 l4 l5
  go_enter Tryd.func43, Tryd.ntmps43
  go_wp2
  go_ret
  exact ⟨rfl, rfl⟩

end Go.Proofs.YtjiljfmejgiabaaDoor
