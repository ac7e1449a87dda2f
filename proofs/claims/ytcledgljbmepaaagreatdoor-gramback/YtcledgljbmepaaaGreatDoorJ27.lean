/- The contract of math/bits.OnesCount64. Count and Least of package bytes: a range over the words. And of package bytes. The reference: told, where it is a class (toldAll). -/
import Derived.Test.YtcledgljbmepaaaGreatDoorJ1
import Derived.Test.YtcledgljbmepaaaGreatDoorJ6
import Derived.Test.YtcledgljbmepaaaGreatDoorJ26
import Derived.Test.YtcledgljbmepaaaGreatDoorJ3
import Derived.Test.YtcledgljbmepaaaGreatDoorJ25
import Derived.Laws.BitsAllLaws
import Derived.Laws.Bits128
namespace Go.Proofs.YtcledgljbmepaaaGreatDoor
open Go.RowKit

theorem and_u64 {a m : Nat} {z y : Int} (hz : z = a) (hy : y = m) (ha : a < 18446744073709551616) (hm : m < 18446744073709551616) : bits .and .u64 z y = ((a &&& m : Nat) : Int) := by
  rw [hz, hy]; exact u64_and_nat a m ha hm
theorem wrap_u {a : Nat} {z : Int} (hz : z = a) (ha : a < 18446744073709551616) : IntKind.u64.wrap z = (a : Int) := by
  rw [hz]; exact wrapU (by omega) (by omega)

set_option maxRecDepth 20000 in
set_option maxHeartbeats 1000000 in
theorem onesC (n : Nat) (w : World) (hn : n < 18446744073709551616) :
    Calls Tryz.prog 122 #[.int .u64 n] w fun e w' => e = .returned (.int .i64 ((sumB 8 n : Nat) : Int)) ∧ w' = w := by
  have o1 := ones1 n
  have o2 := ones2 n
  have o3 := ones3 n
  obtain ⟨x4, x5, x6, e4, e5, e6, hs, l6, l3, l4, l5⟩ := ones4 n
  have k1 := and_u64 (a := n / 2) (m := 6148914691236517205) (z := (n : Int) / 2) (y := 6148914691236517205) (by omega) rfl (by omega) (by omega)
  have k2 := and_u64 (a := n) (m := 6148914691236517205) (z := (n : Int)) (y := 6148914691236517205) rfl rfl (by omega) (by omega)
  have b1 : (n / 2 &&& 6148914691236517205) ≤ 6148914691236517205 := Nat.and_le_right
  have b2 : (n &&& 6148914691236517205) ≤ 6148914691236517205 := Nat.and_le_right
  generalize mapB pf1 8 n = x1 at o1 o2
  generalize (n / 2 &&& 6148914691236517205) = p1 at o1 k1 b1
  generalize (n &&& 6148914691236517205) = p2 at o1 k2 b2
  have w1 := wrap_u (a := x1) (z := (p1 : Int) + (p2 : Int)) (by omega) (by omega)
  have k3 := and_u64 (a := x1 / 4) (m := 3689348814741910323) (z := (x1 : Int) / 4) (y := 3689348814741910323) (by omega) rfl (by omega) (by omega)
  have k4 := and_u64 (a := x1) (m := 3689348814741910323) (z := (x1 : Int)) (y := 3689348814741910323) rfl rfl (by omega) (by omega)
  have b3 : (x1 / 4 &&& 3689348814741910323) ≤ 3689348814741910323 := Nat.and_le_right
  have b4 : (x1 &&& 3689348814741910323) ≤ 3689348814741910323 := Nat.and_le_right
  generalize mapB (fun b => pf2 (pf1 b)) 8 n = x2 at o2 o3
  generalize (x1 / 4 &&& 3689348814741910323) = p3 at o2 k3 b3
  generalize (x1 &&& 3689348814741910323) = p4 at o2 k4 b4
  have w2 := wrap_u (a := x2) (z := (p3 : Int) + (p4 : Int)) (by omega) (by omega)
  have w3 := wrap_u (a := x2 / 16 + x2) (z := (x2 : Int) / 16 + (x2 : Int)) (by omega) (by omega)
  have k5 := and_u64 (a := x2 / 16 + x2) (m := 1085102592571150095) (z := ((x2 / 16 + x2 : Nat) : Int)) (y := 1085102592571150095) rfl rfl (by omega) (by omega)
  rw [o3] at k5
  generalize x2 / 16 + x2 = y2 at w3 k5
  generalize mapB pop8 8 n = x3 at k5 e4 l3
  have w4 := wrap_u (a := x4) (z := (x3 : Int) + (x3 : Int) / 256) (by omega) (by omega)
  have w5 := wrap_u (a := x5) (z := (x4 : Int) + (x4 : Int) / 65536) (by omega) (by omega)
  have w6 := wrap_u (a := x6) (z := (x5 : Int) + (x5 : Int) / 4294967296) (by omega) (by omega)
  have k7 : bits .and .i64 (x6 : Int) 127 = ((sumB 8 n : Nat) : Int) := by
    rw [i64_and127]; omega
  generalize sumB 8 n = r at hs k7 ⊢
  clear o1 o2 o3 e4 e5 e6 b1 b2 b3 b4 l3 l4 l5
  go_enter Tryz.func122, Tryz.ntmps122
  go_wp2
  go_ret
  exact ⟨rfl, rfl⟩

end Go.Proofs.YtcledgljbmepaaaGreatDoor
namespace Go.Proofs.YtcledgljbmepaaaGreatDoor
open Go.RowKit

def cumW (p q r s k : Nat) : Nat := (if 0 < k then p else 0) + (if 1 < k then q else 0) + (if 2 < k then r else 0) + (if 3 < k then s else 0)

set_option maxRecDepth 20000 in
set_option maxHeartbeats 1000000 in
theorem countC (sa sb sc sd : Nat) (w : World) (hS : Fit4 ⟨sa, sb, sc, sd⟩) :
    Calls Tryz.prog 110 #[valB ⟨sa, sb, sc, sd⟩] w fun e w' => e = .returned (.int .i64 ((countB ⟨sa, sb, sc, sd⟩ : Nat) : Int)) ∧ Below w.heap.size w w' := by
  have hle : countB ⟨sa, sb, sc, sd⟩ ≤ 256 := by rw [countB_eq]; exact countN_le _ _
  rw [count_words] at hle ⊢
  simp only at hle ⊢
  have G0 : Hid (∀ u, Calls Tryz.prog 122 #[.int .u64 (sa : Int)] u fun e w' => e = .returned (.int .i64 ((sumB 8 sa : Nat) : Int)) ∧ w' = u) := hid (fun u => onesC sa u hS.1)
  have G1 : Hid (∀ u, Calls Tryz.prog 122 #[.int .u64 (sb : Int)] u fun e w' => e = .returned (.int .i64 ((sumB 8 sb : Nat) : Int)) ∧ w' = u) := hid (fun u => onesC sb u hS.2)
  have G2 : Hid (∀ u, Calls Tryz.prog 122 #[.int .u64 (sc : Int)] u fun e w' => e = .returned (.int .i64 ((sumB 8 sc : Nat) : Int)) ∧ w' = u) := hid (fun u => onesC sc u hS.3)
  have G3 : Hid (∀ u, Calls Tryz.prog 122 #[.int .u64 (sd : Int)] u fun e w' => e = .returned (.int .i64 ((sumB 8 sd : Nat) : Int)) ∧ w' = u) := hid (fun u => onesC sd u hS.4)
  generalize sumB 8 sa = pa at G0 hle ⊢
  generalize sumB 8 sb = pb at G1 hle ⊢
  generalize sumB 8 sc = pc at G2 hle ⊢
  generalize sumB 8 sd = pd at G3 hle ⊢
  have ix0 : ∀ u, (Instr.index 110 (.agg #[.int .u64 (sa : Int), .int .u64 (sb : Int), .int .u64 (sc : Int), .int .u64 (sd : Int)]) (.int .i64 0)).run Tryz.prog u = .ok (.int .u64 (sa : Int)) u := fun u => index4 sa sb sc sd 0 sa u rfl
  have ix1 : ∀ u, (Instr.index 110 (.agg #[.int .u64 (sa : Int), .int .u64 (sb : Int), .int .u64 (sc : Int), .int .u64 (sd : Int)]) (.int .i64 1)).run Tryz.prog u = .ok (.int .u64 (sb : Int)) u := fun u => index4 sa sb sc sd 1 sb u rfl
  have ix2 : ∀ u, (Instr.index 110 (.agg #[.int .u64 (sa : Int), .int .u64 (sb : Int), .int .u64 (sc : Int), .int .u64 (sd : Int)]) (.int .i64 2)).run Tryz.prog u = .ok (.int .u64 (sc : Int)) u := fun u => index4 sa sb sc sd 2 sc u rfl
  have ix3 : ∀ u, (Instr.index 110 (.agg #[.int .u64 (sa : Int), .int .u64 (sb : Int), .int .u64 (sc : Int), .int .u64 (sd : Int)]) (.int .i64 3)).run Tryz.prog u = .ok (.int .u64 (sd : Int)) u := fun u => index4 sa sb sc sd 3 sd u rfl
  clear hS
  go_enter Tryz.func110, Tryz.ntmps110
  go_wp2
  go_loopw [3, 7] (fun n i wr => ∃ k : Nat, k ≤ 4 ∧ i = .int .i64 k ∧ n = .int .i64 ((cumW pa pb pc pd k : Nat) : Int) ∧ Below w.heap.size w wr) (fun _ i _ => 4 - (intOf i).toNat)
  case atStart => exact ⟨0, Nat.zero_le _, rfl, rfl, al' w _⟩
  case round =>
    obtain ⟨k, hk, rfl, rfl, hbl⟩ := hrel
    have hk5 : k = 0 ∨ k = 1 ∨ k = 2 ∨ k = 3 ∨ k = 4 := by omega
    rcases hk5 with rfl | rfl | rfl | rfl | rfl
    · have e0 : cumW pa pb pc pd 0 = 0 := by simp [cumW]
      have e1 : cumW pa pb pc pd 1 = pa := by simp [cumW]
      rw [e0]
      go_wp2_with (go_at_call 122; refine (G0.out _).mono ?_; rintro e u1 ⟨rfl, hu⟩; subst u1)
      go_roundw
      case rel => exact ⟨1, by omega, rfl, by rw [e1] <;> go_num, hbl⟩
      case measure => simp [intOf]
    · have e0 : cumW pa pb pc pd 1 = pa := by simp [cumW]
      have e1 : cumW pa pb pc pd 2 = pa + pb := by simp [cumW]
      rw [e0]
      go_wp2_with (go_at_call 122; refine (G1.out _).mono ?_; rintro e u1 ⟨rfl, hu⟩; subst u1)
      go_roundw
      case rel => exact ⟨2, by omega, rfl, by rw [e1] <;> go_num, hbl⟩
      case measure => simp [intOf]
    · have e0 : cumW pa pb pc pd 2 = pa + pb := by simp [cumW]
      have e1 : cumW pa pb pc pd 3 = pa + pb + pc := by simp [cumW]
      rw [e0]
      go_wp2_with (go_at_call 122; refine (G2.out _).mono ?_; rintro e u1 ⟨rfl, hu⟩; subst u1)
      go_roundw
      case rel => exact ⟨3, by omega, rfl, by rw [e1] <;> go_num, hbl⟩
      case measure => simp [intOf]
    · have e0 : cumW pa pb pc pd 3 = pa + pb + pc := by simp [cumW]
      have e1 : cumW pa pb pc pd 4 = pa + pb + pc + pd := by simp [cumW]
      rw [e0]
      go_wp2_with (go_at_call 122; refine (G3.out _).mono ?_; rintro e u1 ⟨rfl, hu⟩; subst u1)
      go_roundw
      case rel => exact ⟨4, by omega, rfl, by rw [e1] <;> go_num, hbl⟩
      case measure => simp [intOf]
    · have e0 : cumW pa pb pc pd 4 = pa + pb + pc + pd := by simp [cumW]
      rw [e0]
      go_wp2
      go_ret
      exact ⟨rfl, hbl⟩

set_option maxRecDepth 20000 in
set_option maxHeartbeats 1000000 in
theorem leastE (sa sb sc sd : Nat) (w : World) (hS : Fit4 ⟨sa, sb, sc, sd⟩) (hT : Tab w) :
    Calls Tryz.prog 112 #[valB ⟨sa, sb, sc, sd⟩] w fun e w' => e = .returned (.int .i64 (leastB ⟨sa, sb, sc, sd⟩)) ∧ w' = w.alloc (.cells #[.int .u64 (sa : Int), .int .u64 (sb : Int), .int .u64 (sc : Int), .int .u64 (sd : Int)] 110) := by
  have hw := hid (fun i => @least_word ⟨sa, sb, sc, sd⟩ hS i)
  have hz := hid (@least_zero ⟨sa, sb, sc, sd⟩)
  have G0 : Hid (∀ u, sa ≠ 0 → Tab u → Lib.ctz 64 sa < 64 ∧ Calls Tryz.prog 125 #[.int .u64 (sa : Int)] u fun e w' => e = .returned (.int .i64 ((Lib.ctz 64 sa : Nat) : Int)) ∧ w' = u) := hid (fun u h0 hu => ⟨(ctz_bits h0 hS.1).1, tzC sa u hS.1 h0 hu⟩)
  have G1 : Hid (∀ u, sb ≠ 0 → Tab u → Lib.ctz 64 sb < 64 ∧ Calls Tryz.prog 125 #[.int .u64 (sb : Int)] u fun e w' => e = .returned (.int .i64 ((Lib.ctz 64 sb : Nat) : Int)) ∧ w' = u) := hid (fun u h0 hu => ⟨(ctz_bits h0 hS.2).1, tzC sb u hS.2 h0 hu⟩)
  have G2 : Hid (∀ u, sc ≠ 0 → Tab u → Lib.ctz 64 sc < 64 ∧ Calls Tryz.prog 125 #[.int .u64 (sc : Int)] u fun e w' => e = .returned (.int .i64 ((Lib.ctz 64 sc : Nat) : Int)) ∧ w' = u) := hid (fun u h0 hu => ⟨(ctz_bits h0 hS.3).1, tzC sc u hS.3 h0 hu⟩)
  have G3 : Hid (∀ u, sd ≠ 0 → Tab u → Lib.ctz 64 sd < 64 ∧ Calls Tryz.prog 125 #[.int .u64 (sd : Int)] u fun e w' => e = .returned (.int .i64 ((Lib.ctz 64 sd : Nat) : Int)) ∧ w' = u) := hid (fun u h0 hu => ⟨(ctz_bits h0 hS.4).1, tzC sd u hS.4 h0 hu⟩)
  have ix0 : ∀ u, (Instr.index 110 (.agg #[.int .u64 (sa : Int), .int .u64 (sb : Int), .int .u64 (sc : Int), .int .u64 (sd : Int)]) (.int .i64 0)).run Tryz.prog u = .ok (.int .u64 (sa : Int)) u := fun u => index4 sa sb sc sd 0 sa u rfl
  have ix1 : ∀ u, (Instr.index 110 (.agg #[.int .u64 (sa : Int), .int .u64 (sb : Int), .int .u64 (sc : Int), .int .u64 (sd : Int)]) (.int .i64 1)).run Tryz.prog u = .ok (.int .u64 (sb : Int)) u := fun u => index4 sa sb sc sd 1 sb u rfl
  have ix2 : ∀ u, (Instr.index 110 (.agg #[.int .u64 (sa : Int), .int .u64 (sb : Int), .int .u64 (sc : Int), .int .u64 (sd : Int)]) (.int .i64 2)).run Tryz.prog u = .ok (.int .u64 (sc : Int)) u := fun u => index4 sa sb sc sd 2 sc u rfl
  have ix3 : ∀ u, (Instr.index 110 (.agg #[.int .u64 (sa : Int), .int .u64 (sb : Int), .int .u64 (sc : Int), .int .u64 (sd : Int)]) (.int .i64 3)).run Tryz.prog u = .ok (.int .u64 (sd : Int)) u := fun u => index4 sa sb sc sd 3 sd u rfl
  have hT0 := hid hT
  generalize leastB ⟨sa, sb, sc, sd⟩ = L at hw hz ⊢
  clear hS hT
  go_enter Tryz.func112, Tryz.ntmps112
  go_wp2
  go_loopw [6] (fun i wr => ∃ k : Nat, k ≤ 4 ∧ i = .int .i64 k ∧ (∀ j, j < k → W4.w ⟨sa, sb, sc, sd⟩ j = 0) ∧ Hid (wr = w.alloc (.cells #[.int .u64 (sa : Int), .int .u64 (sb : Int), .int .u64 (sc : Int), .int .u64 (sd : Int)] 110))) (fun i _ => 4 - (intOf i).toNat)
  case atStart => exact ⟨0, Nat.zero_le _, rfl, fun j hj => absurd hj (Nat.not_lt_zero _), hid rfl⟩
  case round =>
    obtain ⟨k, hk, rfl, hlow, hwr⟩ := hrel
    have hbl : Below w.heap.size w wr := by rw [hwr.out]; exact al' w _
    have hlow := hid hlow
    have hk5 : k = 0 ∨ k = 1 ∨ k = 2 ∨ k = 3 ∨ k = 4 := by omega
    rcases hk5 with rfl | rfl | rfl | rfl | rfl
    · by_cases h0 : sa = 0
      · have hcz : ((sa : Int) == 0) = true := beq_iff_eq.2 (by omega)
        have hlow' : Hid (∀ j, j < 1 → W4.w ⟨sa, sb, sc, sd⟩ j = 0) := hid (fun j hj => by
          rcases Nat.lt_or_ge j 0 with h | h
          · exact hlow.out j h
          · have : j = 0 := by omega
            subst this; exact h0)
        clear h0
        go_wp2
        go_roundw
        case rel => exact ⟨1, by omega, rfl, hlow'.out, hwr⟩
        case measure => simp [intOf]
      · have hcz : ((sa : Int) == 0) = false := beq_eq_false_iff_ne.2 (by omega)
        have hL := hw.out 0 (by omega) h0 hlow.out
        obtain ⟨hc64, GT⟩ := G0.out wr h0 (hT0.out.keep hbl)
        have GT := hid GT
        rw [show W4.w ⟨sa, sb, sc, sd⟩ 0 = sa from rfl] at hL
        generalize Lib.ctz 64 sa = z at hL hc64 GT
        clear hw hz
        go_wp2_with (go_at_call 125; refine GT.out.mono ?_; rintro e u1 ⟨rfl, hu⟩; subst u1)
        go_ret
        exact ⟨by rw [hL]; first | rfl | simp | (congr 2; omega), hwr.out⟩
    · by_cases h0 : sb = 0
      · have hcz : ((sb : Int) == 0) = true := beq_iff_eq.2 (by omega)
        have hlow' : Hid (∀ j, j < 2 → W4.w ⟨sa, sb, sc, sd⟩ j = 0) := hid (fun j hj => by
          rcases Nat.lt_or_ge j 1 with h | h
          · exact hlow.out j h
          · have : j = 1 := by omega
            subst this; exact h0)
        clear h0
        go_wp2
        go_roundw
        case rel => exact ⟨2, by omega, rfl, hlow'.out, hwr⟩
        case measure => simp [intOf]
      · have hcz : ((sb : Int) == 0) = false := beq_eq_false_iff_ne.2 (by omega)
        have hL := hw.out 1 (by omega) h0 hlow.out
        obtain ⟨hc64, GT⟩ := G1.out wr h0 (hT0.out.keep hbl)
        have GT := hid GT
        rw [show W4.w ⟨sa, sb, sc, sd⟩ 1 = sb from rfl] at hL
        generalize Lib.ctz 64 sb = z at hL hc64 GT
        clear hw hz
        go_wp2_with (go_at_call 125; refine GT.out.mono ?_; rintro e u1 ⟨rfl, hu⟩; subst u1)
        go_ret
        exact ⟨by rw [hL]; first | rfl | simp | (congr 2; omega), hwr.out⟩
    · by_cases h0 : sc = 0
      · have hcz : ((sc : Int) == 0) = true := beq_iff_eq.2 (by omega)
        have hlow' : Hid (∀ j, j < 3 → W4.w ⟨sa, sb, sc, sd⟩ j = 0) := hid (fun j hj => by
          rcases Nat.lt_or_ge j 2 with h | h
          · exact hlow.out j h
          · have : j = 2 := by omega
            subst this; exact h0)
        clear h0
        go_wp2
        go_roundw
        case rel => exact ⟨3, by omega, rfl, hlow'.out, hwr⟩
        case measure => simp [intOf]
      · have hcz : ((sc : Int) == 0) = false := beq_eq_false_iff_ne.2 (by omega)
        have hL := hw.out 2 (by omega) h0 hlow.out
        obtain ⟨hc64, GT⟩ := G2.out wr h0 (hT0.out.keep hbl)
        have GT := hid GT
        rw [show W4.w ⟨sa, sb, sc, sd⟩ 2 = sc from rfl] at hL
        generalize Lib.ctz 64 sc = z at hL hc64 GT
        clear hw hz
        go_wp2_with (go_at_call 125; refine GT.out.mono ?_; rintro e u1 ⟨rfl, hu⟩; subst u1)
        go_ret
        exact ⟨by rw [hL]; first | rfl | simp | (congr 2; omega), hwr.out⟩
    · by_cases h0 : sd = 0
      · have hcz : ((sd : Int) == 0) = true := beq_iff_eq.2 (by omega)
        have hlow' : Hid (∀ j, j < 4 → W4.w ⟨sa, sb, sc, sd⟩ j = 0) := hid (fun j hj => by
          rcases Nat.lt_or_ge j 3 with h | h
          · exact hlow.out j h
          · have : j = 3 := by omega
            subst this; exact h0)
        clear h0
        go_wp2
        go_roundw
        case rel => exact ⟨4, by omega, rfl, hlow'.out, hwr⟩
        case measure => simp [intOf]
      · have hcz : ((sd : Int) == 0) = false := beq_eq_false_iff_ne.2 (by omega)
        have hL := hw.out 3 (by omega) h0 hlow.out
        obtain ⟨hc64, GT⟩ := G3.out wr h0 (hT0.out.keep hbl)
        have GT := hid GT
        rw [show W4.w ⟨sa, sb, sc, sd⟩ 3 = sd from rfl] at hL
        generalize Lib.ctz 64 sd = z at hL hc64 GT
        clear hw hz
        go_wp2_with (go_at_call 125; refine GT.out.mono ?_; rintro e u1 ⟨rfl, hu⟩; subst u1)
        go_ret
        exact ⟨by rw [hL]; first | rfl | simp | (congr 2; omega), hwr.out⟩
    · have hL := hz.out (fun j hj => hlow.out j hj)
      clear hw hz
      go_wp2
      go_ret
      exact ⟨by rw [hL]; first | rfl | simp, hwr.out⟩

set_option maxRecDepth 20000 in
theorem leastC (sa sb sc sd : Nat) (w : World) (hS : Fit4 ⟨sa, sb, sc, sd⟩) (hT : Tab w) :
    Calls Tryz.prog 112 #[valB ⟨sa, sb, sc, sd⟩] w fun e w' => e = .returned (.int .i64 (leastB ⟨sa, sb, sc, sd⟩)) ∧ Below w.heap.size w w' :=
  (leastE sa sb sc sd w hS hT).mono fun _ _ ⟨he, hw⟩ => ⟨he, by rw [hw]; exact al' w _⟩

end Go.Proofs.YtcledgljbmepaaaGreatDoor
namespace Go.Proofs.YtcledgljbmepaaaGreatDoor
open Go.RowKit

set_option maxRecDepth 20000 in
set_option maxHeartbeats 1000000 in
theorem andC (sa sb sc sd ta tb tc td : Nat) (w : World) (hS : Fit4 ⟨sa, sb, sc, sd⟩) (hT : Fit4 ⟨ta, tb, tc, td⟩) :
    Calls Tryz.prog 130 #[valB ⟨sa, sb, sc, sd⟩, valB ⟨ta, tb, tc, td⟩] w fun e w' => e = .returned (valB (andB ⟨sa, sb, sc, sd⟩ ⟨ta, tb, tc, td⟩)) ∧ Below w.heap.size w w' := by
  rw [and_words _ _ hS]
  have k0 := u64_and_nat sa ta hS.1 hT.1
  have k1 := u64_and_nat sb tb hS.2 hT.2
  have k2 := u64_and_nat sc tc hS.3 hT.3
  have k3 := u64_and_nat sd td hS.4 hT.4
  simp only
  generalize sa &&& ta = ra at k0 ⊢
  generalize sb &&& tb = rb at k1 ⊢
  generalize sc &&& tc = rc at k2 ⊢
  generalize sd &&& td = rd at k3 ⊢
  clear hS hT
  have ix0 : ∀ u, (Instr.index 110 (.agg #[.int .u64 (ta : Int), .int .u64 (tb : Int), .int .u64 (tc : Int), .int .u64 (td : Int)]) (.int .i64 0)).run Tryz.prog u = .ok (.int .u64 (ta : Int)) u := fun u => index4 ta tb tc td 0 ta u rfl
  have ix1 : ∀ u, (Instr.index 110 (.agg #[.int .u64 (ta : Int), .int .u64 (tb : Int), .int .u64 (tc : Int), .int .u64 (td : Int)]) (.int .i64 1)).run Tryz.prog u = .ok (.int .u64 (tb : Int)) u := fun u => index4 ta tb tc td 1 tb u rfl
  have ix2 : ∀ u, (Instr.index 110 (.agg #[.int .u64 (ta : Int), .int .u64 (tb : Int), .int .u64 (tc : Int), .int .u64 (td : Int)]) (.int .i64 2)).run Tryz.prog u = .ok (.int .u64 (tc : Int)) u := fun u => index4 ta tb tc td 2 tc u rfl
  have ix3 : ∀ u, (Instr.index 110 (.agg #[.int .u64 (ta : Int), .int .u64 (tb : Int), .int .u64 (tc : Int), .int .u64 (td : Int)]) (.int .i64 3)).run Tryz.prog u = .ok (.int .u64 (td : Int)) u := fun u => index4 ta tb tc td 3 td u rfl
  go_enter Tryz.func130, Tryz.ntmps130
  go_wp2
  go_loopw [8] (fun i wr => ∃ k : Nat, k ≤ 4 ∧ i = .int .i64 k ∧ Hid (Blk wr w.heap.size (mixW ⟨ra, rb, rc, rd⟩ ⟨sa, sb, sc, sd⟩ k)) ∧ Hid (Blk wr (w.heap.size + 2) noneB) ∧ Below w.heap.size w wr) (fun i _ => 4 - (intOf i).toNat)
  case atStart => exact ⟨0, Nat.zero_le _, rfl, hid (three_blocks w _ _ _).1, hid (three_blocks w _ _ _).2.2, bl_step (bl_step (al' w _) (al' _ _)) (al' _ _)⟩
  case round =>
    obtain ⟨k, hk, rfl, bS0, bR0, hbl⟩ := hrel
    have hk5 : k = 0 ∨ k = 1 ∨ k = 2 ∨ k = 3 ∨ k = 4 := by omega
    rcases hk5 with rfl | rfl | rfl | rfl | rfl
    · have bS0' : Blk wr w.heap.size ⟨sa, sb, sc, sd⟩ := bS0.out
      obtain ⟨s0, s1, s2, s3, s4, s5, s6, s7⟩ := bS0'.cells
      have bS1 : Blk (wr.setCell ⟨w.heap.size, 0, none⟩ (.int .u64 (ra : Int))) w.heap.size ⟨ra, sb, sc, sd⟩ := heap_setCell bS0'
      have bR1 : Blk (wr.setCell ⟨w.heap.size, 0, none⟩ (.int .u64 (ra : Int))) (w.heap.size + 2) noneB := (Below.heap_setCell _ _ _ _ (by simp)).trans bR0.out
      have bS1 := hid bS1
      have bR1 := hid bR1
      clear bS0'
      go_wp2
      go_roundw
      case rel => exact ⟨1, by omega, rfl, bS1, bR1, bl_set hbl _ _ _ (Nat.le_refl _)⟩
      case measure => simp [intOf]
    · have bS0' : Blk wr w.heap.size ⟨ra, sb, sc, sd⟩ := bS0.out
      obtain ⟨s0, s1, s2, s3, s4, s5, s6, s7⟩ := bS0'.cells
      have bS1 : Blk (wr.setCell ⟨w.heap.size, 1, none⟩ (.int .u64 (rb : Int))) w.heap.size ⟨ra, rb, sc, sd⟩ := heap_setCell bS0'
      have bR1 : Blk (wr.setCell ⟨w.heap.size, 1, none⟩ (.int .u64 (rb : Int))) (w.heap.size + 2) noneB := (Below.heap_setCell _ _ _ _ (by simp)).trans bR0.out
      have bS1 := hid bS1
      have bR1 := hid bR1
      clear bS0'
      go_wp2
      go_roundw
      case rel => exact ⟨2, by omega, rfl, bS1, bR1, bl_set hbl _ _ _ (Nat.le_refl _)⟩
      case measure => simp [intOf]
    · have bS0' : Blk wr w.heap.size ⟨ra, rb, sc, sd⟩ := bS0.out
      obtain ⟨s0, s1, s2, s3, s4, s5, s6, s7⟩ := bS0'.cells
      have bS1 : Blk (wr.setCell ⟨w.heap.size, 2, none⟩ (.int .u64 (rc : Int))) w.heap.size ⟨ra, rb, rc, sd⟩ := heap_setCell bS0'
      have bR1 : Blk (wr.setCell ⟨w.heap.size, 2, none⟩ (.int .u64 (rc : Int))) (w.heap.size + 2) noneB := (Below.heap_setCell _ _ _ _ (by simp)).trans bR0.out
      have bS1 := hid bS1
      have bR1 := hid bR1
      clear bS0'
      go_wp2
      go_roundw
      case rel => exact ⟨3, by omega, rfl, bS1, bR1, bl_set hbl _ _ _ (Nat.le_refl _)⟩
      case measure => simp [intOf]
    · have bS0' : Blk wr w.heap.size ⟨ra, rb, rc, sd⟩ := bS0.out
      obtain ⟨s0, s1, s2, s3, s4, s5, s6, s7⟩ := bS0'.cells
      have bS1 : Blk (wr.setCell ⟨w.heap.size, 3, none⟩ (.int .u64 (rd : Int))) w.heap.size ⟨ra, rb, rc, rd⟩ := heap_setCell bS0'
      have bR1 : Blk (wr.setCell ⟨w.heap.size, 3, none⟩ (.int .u64 (rd : Int))) (w.heap.size + 2) noneB := (Below.heap_setCell _ _ _ _ (by simp)).trans bR0.out
      have bS1 := hid bS1
      have bR1 := hid bR1
      clear bS0'
      go_wp2
      go_roundw
      case rel => exact ⟨4, by omega, rfl, bS1, bR1, bl_set hbl _ _ _ (Nat.le_refl _)⟩
      case measure => simp [intOf]
    · obtain ⟨o0, o1, o2, o3, o4, o5, o6, o7⟩ := Blk.cells (show Blk wr w.heap.size ⟨ra, rb, rc, rd⟩ from bS0.out)
      obtain ⟨r0, r1, r2, r3, r4, r5, r6, r7⟩ := Blk.cells (sa := 0) (sb := 0) (sc := 0) (sd := 0) bR0.out
      go_wp2
      refine bodyPost_ret (v := .agg #[.int .u64 ra, .int .u64 rb, .int .u64 rc, .int .u64 rd]) (by simp [results, Tryz.results130, go_sem, r0, r1, r2, r3]) rfl ⟨rfl, bl_put hbl ⟨ra, rb, rc, rd⟩ (by omega)⟩

end Go.Proofs.YtcledgljbmepaaaGreatDoor
namespace Go.Proofs.YtcledgljbmepaaaGreatDoor
open Go.RowKit

end Go.Proofs.YtcledgljbmepaaaGreatDoor
