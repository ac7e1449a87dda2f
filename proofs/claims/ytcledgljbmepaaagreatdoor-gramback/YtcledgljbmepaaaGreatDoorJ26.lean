/- The runs of a set, taken out one by one. Has of package bytes. A run as it is told; how far it goes. The contract of math/bits.TrailingZeros64, where its table lies as it was laid. -/
import Derived.Test.YtcledgljbmepaaaGreatDoorJ25
import Derived.Test.YtcledgljbmepaaaGreatDoorJ4
import Derived.Test.YtcledgljbmepaaaGreatDoorJ7
import Derived.Test.YtcledgljbmepaaaGreatDoorJ2
import Derived.Deep.RegionHeld3
namespace Go.Proofs.YtcledgljbmepaaaGreatDoor

/-- the bytes of S from b on -/
def highB (S : W4) (b : Nat) : W4 := mkB fun x => decide (b ≤ x) && hasB S x
theorem highB_fit (S : W4) (b : Nat) : Fit4 (highB S b) := mkB_fit _
theorem highB_has (S : W4) (b x : Nat) (hx : x < 256) : hasB (highB S b) x = (decide (b ≤ x) && hasB S x) := by unfold highB; rw [mkB_has _ x hx]
theorem highB_zero {S : W4} (hS : Fit4 S) : highB S 0 = S := (mkB_eq hS fun x _ => by simp).symm
theorem first_in (S : W4) : ∀ k b, b + k = 256 → (∀ x, b ≤ x → x < 256 → hasB S x = false) ∨ ∃ m, b ≤ m ∧ m < 256 ∧ hasB S m = true ∧ ∀ x, b ≤ x → x < m → hasB S x = false
  | 0, b, h => Or.inl fun x h1 h2 => by omega
  | k + 1, b, h => by
    cases hb : hasB S b with
    | true => exact Or.inr ⟨b, Nat.le_refl _, by omega, hb, fun x h1 h2 => by omega⟩
    | false =>
      rcases first_in S k (b + 1) (by omega) with h1 | ⟨m, h1, h2, h3, h4⟩
      · refine Or.inl fun x hx1 hx2 => ?_
        by_cases e : x = b
        · subst e; exact hb
        · exact h1 x (by omega) hx2
      · refine Or.inr ⟨m, by omega, h2, h3, fun x hx1 hx2 => ?_⟩
        by_cases e : x = b
        · subst e; exact hb
        · exact h4 x (by omega) hx2
theorem run_none {S : W4} {b : Nat} (h : hasB S b = false) : runN S b 256 = 0 := by
  unfold runN
  rw [h]
  simp
theorem told_skip {S : W4} {A T : Txt} : ∀ (k b m f : Nat), b + k = m → m ≤ 256 → (∀ x, b ≤ x → x < m → hasB S x = false) → 257 ≤ b + f → A ++ runsL S b f = T → ∃ f', 257 ≤ m + f' ∧ A ++ runsL S m f' = T
  | 0, b, m, f, h, _, _, hf, hA => ⟨f, by omega, by rw [← h]; exact hA⟩
  | k + 1, b, m, f, h, hm, hno, hf, hA => by
    obtain ⟨f1, hf1, hA1⟩ := told_step (n := 0) (by omega) hf (run_none (hno b (Nat.le_refl _) (by omega))).symm hA
    rw [runL_0, List.append_nil] at hA1
    exact told_skip k (b + 1) m f1 (by omega) hm (fun x h1 h2 => hno x (by omega) h2) (by omega) hA1
theorem high_least {S : W4} {b m : Nat} (h1 : b ≤ m) (h2 : m < 256) (h3 : hasB S m = true) (h4 : ∀ x, b ≤ x → x < m → hasB S x = false) : leastB (highB S b) = (m : Int) :=
  least_at (by rw [highB_has S b m h2, h3]; simp [h1]) h2 fun x hx => by
    rw [highB_has S b x (by omega)]
    by_cases e : b ≤ x
    · rw [h4 x e hx]; simp
    · simp [e]
theorem high_none {S : W4} {b : Nat} (h : ∀ x, b ≤ x → x < 256 → hasB S x = false) : leastB (highB S b) = -1 :=
  least_none fun x hx => by
    rw [highB_has S b x hx]
    by_cases e : b ≤ x
    · rw [h x e hx]; simp
    · simp [e]
theorem run_pos {S : W4} {m : Nat} (h2 : m < 256) (h3 : hasB S m = true) : 0 < runN S m 256 := by
  show 0 < runN S m (255 + 1)
  unfold runN
  rw [h3, decide_eq_true h2]
  simp
theorem run_le {S : W4} {m : Nat} : m + runN S m 256 ≤ 256 ∨ runN S m 256 = 0 := by
  rcases Nat.eq_zero_or_pos (runN S m 256) with h | h
  · exact Or.inr h
  · have := (runN_in S 256 m (m + runN S m 256 - 1) (by omega) (by omega)).1
    omega
/-- the run from m on, taken out -/
theorem high_take {S : W4} {b m n : Nat} (h1 : b ≤ m) (hn : n = runN S m 256) (hp : 0 < n) (h4 : ∀ x, b ≤ x → x < m → hasB S x = false) : andB (highB S b) (notB (spanB m (m + n - 1))) = highB S (m + n + 1) := by
  have hin := runN_in S 256 m
  have hend := runN_end S 256 m (by omega)
  rw [← hn] at hin hend
  unfold andB
  conv => rhs; unfold highB
  refine mkB_congr fun x hx => ?_
  unfold notB spanB highB
  rw [mkB_has _ x hx, mkB_has _ x hx, mkB_has _ x hx]
  by_cases e1 : x < m
  · by_cases e0 : b ≤ x
    · rw [h4 x e0 e1]; simp
    · simp [e0, show ¬ m + n + 1 ≤ x by omega]
  · by_cases e2 : x < m + n
    · simp [show m ≤ x by omega, show x ≤ m + n - 1 by omega, show ¬ m + n + 1 ≤ x by omega]
    · by_cases e3 : x = m + n
      · subst e3
        rw [hend hx]
        simp
      · simp [show b ≤ x by omega, show ¬ x ≤ m + n - 1 by omega, show m + n + 1 ≤ x by omega]
/-- of what is from m on the run is the same -/
theorem high_run {S : W4} {b m j : Nat} (h1 : b ≤ m) (hj : m + j < 256) : hasB (highB S b) (m + j) = hasB S (m + j) := by
  rw [highB_has S b (m + j) hj]
  simp [show b ≤ m + j by omega]
/-- how far a run goes -/
theorem run_is {S : W4} {m j : Nat} (hj : m + j < 256) (hin : ∀ i, i ≤ j → hasB S (m + i) = true) (hend : m + j + 1 < 256 → hasB S (m + j + 1) = false) : runN S m 256 = j + 1 := by
  have h1 := runN_in S 256 m
  have h2 := runN_end S 256 m (by omega)
  rcases Nat.lt_trichotomy (runN S m 256) (j + 1) with h | h | h
  · have := hin (runN S m 256) (by omega)
    rw [h2 (by omega)] at this
    cases this
  · exact h
  · have := h1 (m + (j + 1)) (by omega) (by omega)
    have h3 := hend (by omega)
    rw [show m + j + 1 = m + (j + 1) by omega, this.2] at h3
    cases h3
theorem dot_count : countB (notB (spanB 10 10)) = 255 ∧ hasB (notB (spanB 10 10)) 10 = false := by
  have h := count_both (spanB 10 10)
  have h1 : hasB (spanB 10 10) 10 = true := by unfold spanB; rw [mkB_has _ 10 (by omega)]; rfl
  refine ⟨?_, by unfold notB; rw [mkB_has _ 10 (by omega), h1]; rfl⟩
  have h2 : countB (spanB 10 10) = 1 := by decide +kernel
  omega
theorem toldL_dot {S : W4} (hS : Fit4 S) (h1 : ¬ countB S = 1) : toldL S = if S = notB (spanB 10 10) then [46] else 91 :: (runsL S 0 257 ++ [93]) := by
  unfold toldL
  rw [if_neg h1]
  by_cases e : countB S = 255 ∧ hasB S 10 = false
  · rw [if_pos e, if_pos (dot_of_count hS e.1 e.2)]
  · rw [if_neg e, if_neg (fun h => e (by rw [h]; exact dot_count))]

end Go.Proofs.YtcledgljbmepaaaGreatDoor
namespace Go.Proofs.YtcledgljbmepaaaGreatDoor
open Go.RowKit

theorem has_and (n r : Nat) (hn : n < 18446744073709551616) (hr : r < 64) : bits .and .u64 (n : Int) ((2 ^ r : Nat) : Int) = if n.testBit r then ((2 ^ r : Nat) : Int) else 0 := by
  have h2 : 2 ^ r < 18446744073709551616 := Nat.pow_lt_pow_right (a := 2) (by omega) hr
  have e : n &&& 2 ^ r = if n.testBit r then 2 ^ r else 0 := by
    apply Nat.eq_of_testBit_eq
    intro j
    rw [Nat.testBit_and, Nat.testBit_two_pow]
    by_cases hj : r = j
    · subst hj
      cases hb : n.testBit r <;> simp [Nat.testBit_two_pow_self]
    · cases hb : n.testBit r <;> simp [hj]
  rw [u64_and_nat n _ hn h2, e]
  cases n.testBit r <;> simp
theorem not_zero (r : Bool) (m : Nat) (hm : 0 < m) : (!((if r then (m : Int) else 0) == 0)) = r := by
  cases r
  · rfl
  · have : ((m : Int) == 0) = false := beq_eq_false_iff_ne.2 (by omega)
    simp [this]
set_option maxRecDepth 20000 in
set_option maxHeartbeats 2000000 in
theorem hasC' (a b c d x : Nat) (w : World) (hS : Fit4 ⟨a, b, c, d⟩) (hx : x < 256) :
    Calls Tryz.prog 140 #[valB ⟨a, b, c, d⟩, .int .u8 (x : Int)] w fun e w' => e = .returned (.bool (hasB ⟨a, b, c, d⟩ x)) ∧ Below w.heap.size w w' := by
  have hq : (x : Int) / 64 = ((x / 64 : Nat) : Int) := by omega
  have hql : x / 64 = 0 ∨ x / 64 = 1 ∨ x / 64 = 2 ∨ x / 64 = 3 := by omega
  have GB := hid (fun u => bitC x u hx)
  have hand := has_and _ (x % 64) (hS.w (x / 64)) (by omega)
  have hpos : 0 < 2 ^ (x % 64) := Nat.two_pow_pos _
  have hh : hasB ⟨a, b, c, d⟩ x = (W4.w ⟨a, b, c, d⟩ (x / 64)).testBit (x % 64) := rfl
  rw [hh]
  generalize (W4.w ⟨a, b, c, d⟩ (x / 64)).testBit (x % 64) = r at hand ⊢
  generalize 2 ^ (x % 64) = m at GB hand hpos ⊢
  generalize x / 64 = q at hq hql hand
  clear hS hh
  have hbd : Below w.heap.size w (w.alloc (.cells #[.int .u64 (a : Int), .int .u64 (b : Int), .int .u64 (c : Int), .int .u64 (d : Int)] 110)).drew := (al' w _).drew
  rcases hql with rfl | rfl | rfl | rfl
  · have hfin : Hid ((!(bits .and .u64 (a : Int) (m : Int) == 0)) = r) := hid (by rw [show bits .and .u64 (a : Int) (m : Int) = if r then (m : Int) else 0 from hand]; exact not_zero r m hpos)
    go_enter Tryz.func140, Tryz.ntmps140
    go_wp2_with fail
    go_region_with (first | (go_at_call 139; refine (GB.out _).mono ?_; rintro e u1 ⟨rfl, hu⟩; subst u1) | fail)
    all_goals
      go_wp2
      go_ret
      exact ⟨congrArg Ending.returned (congrArg Value.bool hfin.out), hbd⟩
  · have hfin : Hid ((!(bits .and .u64 (b : Int) (m : Int) == 0)) = r) := hid (by rw [show bits .and .u64 (b : Int) (m : Int) = if r then (m : Int) else 0 from hand]; exact not_zero r m hpos)
    go_enter Tryz.func140, Tryz.ntmps140
    go_wp2_with fail
    go_region_with (first | (go_at_call 139; refine (GB.out _).mono ?_; rintro e u1 ⟨rfl, hu⟩; subst u1) | fail)
    all_goals
      go_wp2
      go_ret
      exact ⟨congrArg Ending.returned (congrArg Value.bool hfin.out), hbd⟩
  · have hfin : Hid ((!(bits .and .u64 (c : Int) (m : Int) == 0)) = r) := hid (by rw [show bits .and .u64 (c : Int) (m : Int) = if r then (m : Int) else 0 from hand]; exact not_zero r m hpos)
    go_enter Tryz.func140, Tryz.ntmps140
    go_wp2_with fail
    go_region_with (first | (go_at_call 139; refine (GB.out _).mono ?_; rintro e u1 ⟨rfl, hu⟩; subst u1) | fail)
    all_goals
      go_wp2
      go_ret
      exact ⟨congrArg Ending.returned (congrArg Value.bool hfin.out), hbd⟩
  · have hfin : Hid ((!(bits .and .u64 (d : Int) (m : Int) == 0)) = r) := hid (by rw [show bits .and .u64 (d : Int) (m : Int) = if r then (m : Int) else 0 from hand]; exact not_zero r m hpos)
    go_enter Tryz.func140, Tryz.ntmps140
    go_wp2_with fail
    go_region_with (first | (go_at_call 139; refine (GB.out _).mono ?_; rintro e u1 ⟨rfl, hu⟩; subst u1) | fail)
    all_goals
      go_wp2
      go_ret
      exact ⟨congrArg Ending.returned (congrArg Value.bool hfin.out), hbd⟩


end Go.Proofs.YtcledgljbmepaaaGreatDoor
namespace Go.Proofs.YtcledgljbmepaaaGreatDoor
open Go.RowKit

set_option maxRecDepth 20000 in
set_option maxHeartbeats 2000000 in
theorem runEndC (sa sb sc sd m : Nat) (w : World) (hS : Fit4 ⟨sa, sb, sc, sd⟩) (hm : m < 256) (hh : hasB ⟨sa, sb, sc, sd⟩ m = true) :
    Calls Tryz.prog 128 #[valB ⟨sa, sb, sc, sd⟩, .int .u8 (m : Int)] w fun e w' => e = .returned (.int .u8 ((m + runN ⟨sa, sb, sc, sd⟩ m 256 - 1 : Nat) : Int)) ∧ Below w.heap.size w w' := by
  have GH : Hid (∀ (x : Nat) (u : World), x < 256 → Calls Tryz.prog 140 #[valB ⟨sa, sb, sc, sd⟩, .int .u8 (x : Int)] u fun e w' => e = .returned (.bool (hasB ⟨sa, sb, sc, sd⟩ x)) ∧ Below u.heap.size u w') := hid (fun x u hx => hasC' sa sb sc sd x u hS hx)
  have hfin := hid (fun j => @run_is ⟨sa, sb, sc, sd⟩ m j)
  obtain ⟨N, hN⟩ : ∃ N, Hid (runN ⟨sa, sb, sc, sd⟩ m 256 = N) := ⟨_, hid rfl⟩
  rw [hN.out]
  go_enter Tryz.func128, Tryz.ntmps128
  go_wp2
  go_loopw [5] (fun t wr => ∃ T : Nat, m ≤ T ∧ T < 256 ∧ t = .int .u8 (T : Int) ∧ Hid (∀ i, i ≤ T - m → hasB ⟨sa, sb, sc, sd⟩ (m + i) = true) ∧ Hid (Blk wr w.heap.size ⟨sa, sb, sc, sd⟩) ∧ Below w.heap.size w wr) (fun t _ => 256 - (intOf t).toNat)
  case atStart =>
    refine ⟨m, Nat.le_refl _, hm, rfl, hid (fun i hi => ?_), hid (heap_new w _), al' w _⟩
    have : i = 0 := by omega
    subst this
    exact hh
  case round =>
    obtain ⟨T, hmT, hT, rfl, hin, bS, hbl⟩ := hrel
    obtain ⟨s0, s1, s2, s3, s4, s5, s6, s7⟩ := bS.out.cells
    by_cases h255 : T = 255
    · have hres : m + N - 1 = T := by
        have h1 := hfin.out (T - m) (by omega) hin.out (fun h => by omega)
        have h2 := hN.out
        omega
      have hz : ¬ (T : Int) < 255 := by omega
      have hres' := hid hres
      clear h255 hres
      go_wp2
      go_ret
      exact ⟨ret_u8 (by rw [hres'.out]), hbl⟩
    · have hz : (T : Int) < 255 := by omega
      have GH0 := hid (GH.out (T + 1) wr (by omega))
      rw [show ((T + 1 : Nat) : Int) = (T : Int) + 1 by push_cast; rfl] at GH0
      cases hn : hasB ⟨sa, sb, sc, sd⟩ (T + 1) with
      | true =>
        rw [hn] at GH0
        have hin' : Hid (∀ i, i ≤ T + 1 - m → hasB ⟨sa, sb, sc, sd⟩ (m + i) = true) := hid (fun i hi => by
          by_cases e : m + i = T + 1
          · rw [e]; exact hn
          · exact hin.out i (by omega))
        clear hn
        go_wp2_with (go_at_call 140; refine GH0.out.mono ?_; rintro e w1 ⟨rfl, hb1⟩)
        go_roundw
        case rel => exact ⟨T + 1, by omega, by omega, by go_num, hin', hid (bS.out.keep hb1), bl_step hbl hb1⟩
        case measure => simp [intOf]; omega
      | false =>
        rw [hn] at GH0
        have hres : m + N - 1 = T := by
          have h1 := hfin.out (T - m) (by omega) hin.out (fun h => by rw [show m + (T - m) + 1 = T + 1 by omega]; exact hn)
          have h2 := hN.out
          omega
        have hres' := hid hres
        clear hn hres
        go_wp2_with (go_at_call 140; refine GH0.out.mono ?_; rintro e w1 ⟨rfl, hb1⟩)
        go_ret
        exact ⟨ret_u8 (by rw [hres'.out]), bl_step hbl hb1⟩

set_option maxRecDepth 20000 in
set_option maxHeartbeats 2000000 in
theorem runTextC (b n : Nat) (w : World) (h0 : 0 < n) (hb : b + n ≤ 256) :
    Calls Tryz.prog 129 #[.int .u8 (b : Int), .int .u8 ((b + n - 1 : Nat) : Int)] w fun e w' => e = .returned (.string (strT (runL b n))) ∧ Below w.heap.size w w' := by
  have G1 := hid (fun u => byteTextC b classS tellC u (by omega) tells_class)
  have G2 := hid (fun u => byteTextC (b + n - 1) classS tellC u (by omega) tells_class)
  have l1 : (strT (aloneL b tellC)).size ≤ 4 := by rw [strT_size]; exact alone_le _ _
  have l2 : (strT (aloneL (b + n - 1) tellC)).size ≤ 4 := by rw [strT_size]; exact alone_le _ _
  by_cases e1 : n = 1
  · subst e1
    rw [runL_1]
    rw [show b + 1 - 1 = b by omega] at G2 ⊢
    generalize strT (aloneL b tellC) = X at G1 G2 ⊢
    go_enter Tryz.func129, Tryz.ntmps129
    go_wp2_with (first
      | (go_at_call 111; refine (G1.out w1).mono ?_; rintro e w2 ⟨rfl, hb2⟩)
      | (go_at_call 111; refine (G1.out w).mono ?_; rintro e w1 ⟨rfl, hb1⟩))
    go_ret
    exact ⟨rfl, bl_step hb1 hb2⟩
  by_cases e2 : n = 2
  · subst e2
    have l2' := l2
    rw [runL_2, ← strT_app]
    rw [show b + 2 - 1 = b + 1 by omega] at G2 l2' ⊢
    generalize strT (aloneL b tellC) = X at G1 l1 ⊢
    generalize strT (aloneL (b + 1) tellC) = Y at G2 l2' ⊢
    have k1 := fun u => run_cat X Y u (by omega)
    have hd : ((b + 1 : Nat) : Int) - (b : Int) = 1 := by omega
    have hlt : b + 1 < 256 := by omega
    generalize hL : b + 1 = L at G2 hd hlt ⊢
    clear l2 hL e1
    go_enter Tryz.func129, Tryz.ntmps129
    go_wp2_with (first
      | (go_at_call 111; refine (G2.out w1).mono ?_; rintro e w2 ⟨rfl, hb2⟩)
      | (go_at_call 111; refine (G1.out w).mono ?_; rintro e w1 ⟨rfl, hb1⟩))
    go_ret
    exact ⟨rfl, bl_step hb1 hb2⟩
  · rw [runL_3 b n (by omega), ← strT_app, ← strT_app]
    have hd : ((b + n - 1 : Nat) : Int) - (b : Int) = ((n - 1 : Nat) : Int) := by omega
    have hd2 : 2 ≤ n - 1 := by omega
    have hlt : b + n - 1 < 256 := by omega
    generalize strT (aloneL b tellC) = X at G1 l1 ⊢
    generalize strT (aloneL (b + n - 1) tellC) = Y at G2 l2 ⊢
    have hD : strT [45] = ⟨#[45]⟩ := rfl
    rw [hD, ← ByteArray.append_assoc]
    have hD1 : (⟨#[45]⟩ : ByteArray).size = 1 := rfl
    have k1 := fun u => run_cat X ⟨#[45]⟩ u (by omega)
    have k2 := fun u => run_cat (X ++ ⟨#[45]⟩) Y u (by rw [ByteArray.size_append]; omega)
    generalize b + n - 1 = L at G2 hd hlt ⊢
    generalize n - 1 = d at hd hd2
    have c0 : ((d : Int) == 0) = false := beq_eq_false_iff_ne.2 (by omega)
    have c1 : ((d : Int) == 1) = false := beq_eq_false_iff_ne.2 (by omega)
    clear e1 e2 hD hD1 h0
    go_enter Tryz.func129, Tryz.ntmps129
    go_wp2_with (first
      | (go_at_call 111; refine (G2.out w1).mono ?_; rintro e w2 ⟨rfl, hb2⟩)
      | (go_at_call 111; refine (G1.out w).mono ?_; rintro e w1 ⟨rfl, hb1⟩))
    go_ret
    exact ⟨rfl, bl_step hb1 hb2⟩

end Go.Proofs.YtcledgljbmepaaaGreatDoor
namespace Go.Proofs.YtcledgljbmepaaaGreatDoor
open Go.RowKit

set_option maxRecDepth 20000 in
set_option maxHeartbeats 1000000 in
theorem tz_core (x k idx : Nat) (w : World) (hx0 : ((x : Int) == 0) = false)
    (key : IntKind.u64.wrap (bits BinOp.and IntKind.u64 (x : Int) (IntKind.u64.wrap (-(x : Int))) * 285870213051353865) / 288230376151711744 = (idx : Int))
    (hi : idx < 64) (hk : k < 64) (hcell : w.cell? ⟨1, idx, none⟩ = some (.int .u8 k)) :
    Calls Tryz.prog 125 #[.int .u64 x] w fun e w' => e = .returned (.int .i64 k) ∧ w' = w := by
  go_enter Tryz.func125, Tryz.ntmps125
  go_wp2_with (simp only [key])
  go_ret
  exact ⟨rfl, rfl⟩
set_option maxRecDepth 20000 in
theorem tzC (x : Nat) (w : World) (hx : x < 18446744073709551616) (h0 : x ≠ 0) (hT : Tab w) :
    Calls Tryz.prog 125 #[.int .u64 x] w fun e w' => e = .returned (.int .i64 ((Lib.ctz 64 x : Nat) : Int)) ∧ w' = w := by
  obtain ⟨hlow, hk⟩ := Lib.lowest_bit 64 x h0 hx
  obtain ⟨hi, htab⟩ := Lib.deBruijn64_at _ hk
  have hcell := hT _ hi
  rw [htab] at hcell
  exact tz_core x _ _ w (by simp; omega) (tz64_key x _ hx h0 hlow) hi hk hcell

end Go.Proofs.YtcledgljbmepaaaGreatDoor
