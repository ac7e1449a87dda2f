/- Has of package bytes. A run as it is told; how far it goes. -/
import Derived.Test.YtjiljfmejgiabaaDoorJ15
import Derived.Test.YtjiljfmejgiabaaDoorJ12
import Derived.Test.YtjiljfmejgiabaaDoorJ14
import Derived.Deep.RegionHeld3
namespace Go.Proofs.YtjiljfmejgiabaaDoor
open Go.RowKit

theorem has_and (n r : Nat) (hn : n < 18446744073709551616) (hr : r < 64) : bits .and .u64 (n : Int) ((2 ^ r : Nat) : Int) = if n.testBit r then ((2 ^ r : Nat) : Int) else 0 := by
  have h2 : 2 ^ r < 18446744073709551616 := Nat.pow_lt_pow_right (a := 2) (by omega) hr
  have e : n &&& 2 ^ r = if n.testBit r then 2 ^ r else 0 := by
    apply Nat.eq_of_testBit_eq
    intro j
    rw [Nat.testBit_and, Nat.testBit_two_pow]
    by_cases hj : r = j
    · subst hj
      cases hb : n.testBit r <;> simp [Nat.testBit_two_pow_self]
    · cases hb : n.testBit r <;> simp [hj]
  rw [u64_and_nat n _ hn h2, e]
  cases n.testBit r <;> simp
theorem not_zero (r : Bool) (m : Nat) (hm : 0 < m) : (!((if r then (m : Int) else 0) == 0)) = r := by
  cases r
  · rfl
  · have : ((m : Int) == 0) = false := beq_eq_false_iff_ne.2 (by omega)
    simp [this]
set_option maxHeartbeats 2000000 in
theorem hasC' (a b c d x : Nat) (w : World) (hS : Fit4 ⟨a, b, c, d⟩) (hx : x < 256) :
    Calls Tryd.prog 59 #[valB ⟨a, b, c, d⟩, .int .u8 (x : Int)] w fun e w' => e = .returned (.bool (hasB ⟨a, b, c, d⟩ x)) ∧ Below w.heap.size w w' := by
  have hq : (x : Int) / 64 = ((x / 64 : Nat) : Int) := by omega
  have hql : x / 64 = 0 ∨ x / 64 = 1 ∨ x / 64 = 2 ∨ x / 64 = 3 := by omega
  have GB := hid (fun u => bitC x u hx)
  have hand := has_and _ (x % 64) (hS.w (x / 64)) (by omega)
  have hpos : 0 < 2 ^ (x % 64) := Nat.two_pow_pos _
  have hh : hasB ⟨a, b, c, d⟩ x = (W4.w ⟨a, b, c, d⟩ (x / 64)).testBit (x % 64) := rfl
  rw [hh]
  generalize (W4.w ⟨a, b, c, d⟩ (x / 64)).testBit (x % 64) = r at hand ⊢
  generalize 2 ^ (x % 64) = m at GB hand hpos ⊢
  generalize x / 64 = q at hq hql hand
  clear hS hh
  have hbd : Below w.heap.size w (w.alloc (.cells #[.int .u64 (a : Int), .int .u64 (b : Int), .int .u64 (c : Int), .int .u64 (d : Int)] 44)).drew := (al' w _).drew
  rcases hql with rfl | rfl | rfl | rfl
  · have hfin : Hid ((!(bits .and .u64 (a : Int) (m : Int) == 0)) = r) := hid (by rw [show bits .and .u64 (a : Int) (m : Int) = if r then (m : Int) else 0 from hand]; exact not_zero r m hpos)
    go_enter Tryd.func59, Tryd.ntmps59
    go_wp2_with fail
    go_region_with (first | (go_at_call 58; refine (GB.out _).mono ?_; rintro e u1 ⟨rfl, hu⟩; subst u1) | fail)
    all_goals
      go_wp2
      go_ret
      exact ⟨congrArg Ending.returned (congrArg Value.bool hfin.out), hbd⟩
  · have hfin : Hid ((!(bits .and .u64 (b : Int) (m : Int) == 0)) = r) := hid (by rw [show bits .and .u64 (b : Int) (m : Int) = if r then (m : Int) else 0 from hand]; exact not_zero r m hpos)
    go_enter Tryd.func59, Tryd.ntmps59
    go_wp2_with fail
    go_region_with (first | (go_at_call 58; refine (GB.out _).mono ?_; rintro e u1 ⟨rfl, hu⟩; subst u1) | fail)
    all_goals
      go_wp2
      go_ret
      exact ⟨congrArg Ending.returned (congrArg Value.bool hfin.out), hbd⟩
  · have hfin : Hid ((!(bits .and .u64 (c : Int) (m : Int) == 0)) = r) := hid (by rw [show bits .and .u64 (c : Int) (m : Int) = if r then (m : Int) else 0 from hand]; exact not_zero r m hpos)
    go_enter Tryd.func59, Tryd.ntmps59
    go_wp2_with fail
    go_region_with (first | (go_at_call 58; refine (GB.out _).mono ?_; rintro e u1 ⟨rfl, hu⟩; subst u1) | fail)
    all_goals
      go_wp2
      go_ret
      exact ⟨congrArg Ending.returned (congrArg Value.bool hfin.out), hbd⟩
  · have hfin : Hid ((!(bits .and .u64 (d : Int) (m : Int) == 0)) = r) := hid (by rw [show bits .and .u64 (d : Int) (m : Int) = if r then (m : Int) else 0 from hand]; exact not_zero r m hpos)
    go_enter Tryd.func59, Tryd.ntmps59
    go_wp2_with fail
    go_region_with (first | (go_at_call 58; refine (GB.out _).mono ?_; rintro e u1 ⟨rfl, hu⟩; subst u1) | fail)
    all_goals
      go_wp2
      go_ret
      exact ⟨congrArg Ending.returned (congrArg Value.bool hfin.out), hbd⟩


end Go.Proofs.YtjiljfmejgiabaaDoor
namespace Go.Proofs.YtjiljfmejgiabaaDoor
open Go.RowKit

set_option maxHeartbeats 2000000 in
theorem runEndC (sa sb sc sd m : Nat) (w : World) (hS : Fit4 ⟨sa, sb, sc, sd⟩) (hm : m < 256) (hh : hasB ⟨sa, sb, sc, sd⟩ m = true) :
    Calls Tryd.prog 49 #[valB ⟨sa, sb, sc, sd⟩, .int .u8 (m : Int)] w fun e w' => e = .returned (.int .u8 ((m + runN ⟨sa, sb, sc, sd⟩ m 256 - 1 : Nat) : Int)) ∧ Below w.heap.size w w' := by
  have GH : Hid (∀ (x : Nat) (u : World), x < 256 → Calls Tryd.prog 59 #[valB ⟨sa, sb, sc, sd⟩, .int .u8 (x : Int)] u fun e w' => e = .returned (.bool (hasB ⟨sa, sb, sc, sd⟩ x)) ∧ Below u.heap.size u w') := hid (fun x u hx => hasC' sa sb sc sd x u hS hx)
  have hfin := hid (fun j => @run_is ⟨sa, sb, sc, sd⟩ m j)
  obtain ⟨N, hN⟩ : ∃ N, Hid (runN ⟨sa, sb, sc, sd⟩ m 256 = N) := ⟨_, hid rfl⟩
  rw [hN.out]
  go_enter Tryd.func49, Tryd.ntmps49
  go_wp2
  go_loopw [5] (fun t wr => ∃ T : Nat, m ≤ T ∧ T < 256 ∧ t = .int .u8 (T : Int) ∧ Hid (∀ i, i ≤ T - m → hasB ⟨sa, sb, sc, sd⟩ (m + i) = true) ∧ Hid (Blk wr w.heap.size ⟨sa, sb, sc, sd⟩) ∧ Below w.heap.size w wr) (fun t _ => 256 - (intOf t).toNat)
  case atStart =>
    refine ⟨m, Nat.le_refl _, hm, rfl, hid (fun i hi => ?_), hid (heap_new w _), al' w _⟩
    have : i = 0 := by omega
    subst this
    exact hh
  case round =>
    obtain ⟨T, hmT, hT, rfl, hin, bS, hbl⟩ := hrel
    obtain ⟨s0, s1, s2, s3, s4, s5, s6, s7⟩ := bS.out.cells
    by_cases h255 : T = 255
    · have hres : m + N - 1 = T := by
        have h1 := hfin.out (T - m) (by omega) hin.out (fun h => by omega)
        have h2 := hN.out
        omega
      have hz : ¬ (T : Int) < 255 := by omega
      have hres' := hid hres
      clear h255 hres
      go_wp2
      go_ret
      exact ⟨ret_u8 (by rw [hres'.out]), hbl⟩
    · have hz : (T : Int) < 255 := by omega
      have GH0 := hid (GH.out (T + 1) wr (by omega))
      rw [show ((T + 1 : Nat) : Int) = (T : Int) + 1 by push_cast; rfl] at GH0
      cases hn : hasB ⟨sa, sb, sc, sd⟩ (T + 1) with
      | true =>
        rw [hn] at GH0
        have hin' : Hid (∀ i, i ≤ T + 1 - m → hasB ⟨sa, sb, sc, sd⟩ (m + i) = true) := hid (fun i hi => by
          by_cases e : m + i = T + 1
          · rw [e]; exact hn
          · exact hin.out i (by omega))
        clear hn
        go_wp2_with (go_at_call 59; refine GH0.out.mono ?_; rintro e w1 ⟨rfl, hb1⟩)
        go_roundw
        case rel => exact ⟨T + 1, by omega, by omega, by go_num, hin', hid (bS.out.keep hb1), bl_step hbl hb1⟩
        case measure => simp [intOf]; omega
      | false =>
        rw [hn] at GH0
        have hres : m + N - 1 = T := by
          have h1 := hfin.out (T - m) (by omega) hin.out (fun h => by rw [show m + (T - m) + 1 = T + 1 by omega]; exact hn)
          have h2 := hN.out
          omega
        have hres' := hid hres
        clear hn hres
        go_wp2_with (go_at_call 59; refine GH0.out.mono ?_; rintro e w1 ⟨rfl, hb1⟩)
        go_ret
        exact ⟨ret_u8 (by rw [hres'.out]), bl_step hbl hb1⟩

set_option maxHeartbeats 2000000 in
theorem runTextC (b n : Nat) (w : World) (h0 : 0 < n) (hb : b + n ≤ 256) :
    Calls Tryd.prog 50 #[.int .u8 (b : Int), .int .u8 ((b + n - 1 : Nat) : Int)] w fun e w' => e = .returned (.string (strT (runL b n))) ∧ Below w.heap.size w w' := by
  have G1 := hid (fun u => byteTextC b classS tellC u (by omega) tells_class)
  have G2 := hid (fun u => byteTextC (b + n - 1) classS tellC u (by omega) tells_class)
  have l1 : (strT (aloneL b tellC)).size ≤ 4 := by rw [strT_size]; exact alone_le _ _
  have l2 : (strT (aloneL (b + n - 1) tellC)).size ≤ 4 := by rw [strT_size]; exact alone_le _ _
  by_cases e1 : n = 1
  · subst e1
    rw [runL_1]
    rw [show b + 1 - 1 = b by omega] at G2 ⊢
    generalize strT (aloneL b tellC) = X at G1 G2 ⊢
    go_enter Tryd.func50, Tryd.ntmps50
    go_wp2_with (first
      | (go_at_call 31; refine (G1.out w1).mono ?_; rintro e w2 ⟨rfl, hb2⟩)
      | (go_at_call 31; refine (G1.out w).mono ?_; rintro e w1 ⟨rfl, hb1⟩))
    go_ret
    exact ⟨rfl, bl_step hb1 hb2⟩
  by_cases e2 : n = 2
  · subst e2
    have l2' := l2
    rw [runL_2, ← strT_app]
    rw [show b + 2 - 1 = b + 1 by omega] at G2 l2' ⊢
    generalize strT (aloneL b tellC) = X at G1 l1 ⊢
    generalize strT (aloneL (b + 1) tellC) = Y at G2 l2' ⊢
    have k1 := fun u => run_cat X Y u (by omega)
    have hd : ((b + 1 : Nat) : Int) - (b : Int) = 1 := by omega
    have hlt : b + 1 < 256 := by omega
    generalize hL : b + 1 = L at G2 hd hlt ⊢
    clear l2 hL e1
    go_enter Tryd.func50, Tryd.ntmps50
    go_wp2_with (first
      | (go_at_call 31; refine (G2.out w1).mono ?_; rintro e w2 ⟨rfl, hb2⟩)
      | (go_at_call 31; refine (G1.out w).mono ?_; rintro e w1 ⟨rfl, hb1⟩))
    go_ret
    exact ⟨rfl, bl_step hb1 hb2⟩
  · rw [runL_3 b n (by omega), ← strT_app, ← strT_app]
    have hd : ((b + n - 1 : Nat) : Int) - (b : Int) = ((n - 1 : Nat) : Int) := by omega
    have hd2 : 2 ≤ n - 1 := by omega
    have hlt : b + n - 1 < 256 := by omega
    generalize strT (aloneL b tellC) = X at G1 l1 ⊢
    generalize strT (aloneL (b + n - 1) tellC) = Y at G2 l2 ⊢
    have hD : strT [45] = ⟨#[45]⟩ := rfl
    rw [hD, ← ByteArray.append_assoc]
    have hD1 : (⟨#[45]⟩ : ByteArray).size = 1 := rfl
    have k1 := fun u => run_cat X ⟨#[45]⟩ u (by omega)
    have k2 := fun u => run_cat (X ++ ⟨#[45]⟩) Y u (by rw [ByteArray.size_append]; omega)
    generalize b + n - 1 = L at G2 hd hlt ⊢
    generalize n - 1 = d at hd hd2
    have c0 : ((d : Int) == 0) = false := beq_eq_false_iff_ne.2 (by omega)
    have c1 : ((d : Int) == 1) = false := beq_eq_false_iff_ne.2 (by omega)
    clear e1 e2 hD hD1 h0
    go_enter Tryd.func50, Tryd.ntmps50
    go_wp2_with (first
      | (go_at_call 31; refine (G2.out w1).mono ?_; rintro e w2 ⟨rfl, hb2⟩)
      | (go_at_call 31; refine (G1.out w).mono ?_; rintro e w1 ⟨rfl, hb1⟩))
    go_ret
    exact ⟨rfl, bl_step hb1 hb2⟩

end Go.Proofs.YtjiljfmejgiabaaDoor
