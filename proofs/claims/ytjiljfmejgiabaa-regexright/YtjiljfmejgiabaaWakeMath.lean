/- The least byte of a set; the chapter's example. -/
import Derived.Test.YtjiljfmejgiabaaParts
import Derived.Lib.TrailingZeros
namespace Go.Proofs.Ytjiljfmejgiabaa

theorem leastFrom_at (S : W4) (m : Nat) (hm : hasB S m = true) : ∀ n k, k ≤ m → m < k + n → (∀ x, k ≤ x → x < m → hasB S x = false) → leastFrom S k n = (m : Int)
  | 0, k, h1, h2, _ => absurd h2 (by omega)
  | n + 1, k, h1, h2, h3 => by
    rw [leastFrom_succ]
    by_cases e : k = m
    · subst e; rw [hm]; simp
    · rw [h3 k (Nat.le_refl _) (by omega)]
      simp only [Bool.false_eq_true, if_false]
      exact leastFrom_at S m hm n (k + 1) (by omega) (by omega) fun x hx hxm => h3 x (by omega) hxm
theorem least_at {S : W4} {m : Nat} (hm : hasB S m = true) (h : m < 256) (hlow : ∀ x, x < m → hasB S x = false) : leastB S = (m : Int) := by
  rw [leastB_eq]
  exact leastFrom_at S m hm 256 0 (by omega) (by omega) fun x _ hx => hlow x hx
theorem leastFrom_none (S : W4) : ∀ n k, (∀ x, k ≤ x → x < k + n → hasB S x = false) → leastFrom S k n = -1
  | 0, k, _ => leastFrom_zero S k
  | n + 1, k, h => by
    rw [leastFrom_succ, h k (Nat.le_refl _) (by omega)]
    simp only [Bool.false_eq_true, if_false]
    exact leastFrom_none S n (k + 1) fun x hx hxn => h x (by omega) (by omega)
theorem least_none {S : W4} (h : ∀ x, x < 256 → hasB S x = false) : leastB S = -1 := by
  rw [leastB_eq]
  exact leastFrom_none S 256 0 fun x _ hx => h x (by omega)

theorem ctz_bits {x : Nat} (h0 : x ≠ 0) (hx : x < 18446744073709551616) : Lib.ctz 64 x < 64 ∧ x.testBit (Lib.ctz 64 x) = true ∧ ∀ j, j < Lib.ctz 64 x → x.testBit j = false := by
  obtain ⟨hlow, hlt⟩ := Lib.lowest_bit 64 x h0 hx
  refine ⟨hlt, ?_, fun j hj => ?_⟩
  · have h1 : (x &&& (2 ^ 64 - x)).testBit (Lib.ctz 64 x) = true := by rw [hlow, Nat.testBit_two_pow_self]
    rw [Nat.testBit_and, Bool.and_eq_true] at h1
    exact h1.1
  · obtain ⟨m, hm, _⟩ := Lib.ctzFrom_spec 64 x (by omega) hx
    have e : Lib.ctz 64 x = Lib.ctzFrom 64 x := by simp [Lib.ctz, h0]
    rw [e] at hj
    generalize Lib.ctzFrom 64 x = t at hm hj
    rw [hm, Nat.testBit_two_pow_mul]
    simp; omega
theorem least_word {S : W4} (hS : Fit4 S) (i : Nat) (hi : i < 4) (h0 : S.w i ≠ 0) (hlow : ∀ k, k < i → S.w k = 0) : leastB S = ((64 * i + Lib.ctz 64 (S.w i) : Nat) : Int) := by
  obtain ⟨h1, h2, h3⟩ := ctz_bits h0 (hS.w i)
  refine least_at ?_ (by omega) fun x hx => ?_
  · unfold hasB
    rw [show (64 * i + Lib.ctz 64 (S.w i)) / 64 = i by omega, show (64 * i + Lib.ctz 64 (S.w i)) % 64 = Lib.ctz 64 (S.w i) by omega]
    exact h2
  · unfold hasB
    by_cases e : x / 64 < i
    · rw [hlow _ e, Nat.zero_testBit]
    · have e1 : x / 64 = i := by omega
      rw [e1]
      exact h3 _ (by omega)
theorem least_zero {S : W4} (h : ∀ k, k < 4 → S.w k = 0) : leastB S = -1 :=
  least_none fun x hx => by unfold hasB; rw [h _ (by omega), Nat.zero_testBit]

theorem span_ac : spanB 97 99 = ⟨0, 60129542144, 0, 0⟩ := by
  have h : ∀ x : Fin 256, hasB ⟨0, 60129542144, 0, 0⟩ x = (decide (97 ≤ x.val) && decide (x.val ≤ 99)) := by decide +kernel
  exact (mkB_eq ⟨by decide, by decide, by decide, by decide⟩ fun x hx => h ⟨x, hx⟩).symm
theorem span_bd : spanB 98 100 = ⟨0, 120259084288, 0, 0⟩ := by
  have h : ∀ x : Fin 256, hasB ⟨0, 120259084288, 0, 0⟩ x = (decide (98 ≤ x.val) && decide (x.val ≤ 100)) := by decide +kernel
  exact (mkB_eq ⟨by decide, by decide, by decide, by decide⟩ fun x hx => h ⟨x, hx⟩).symm
theorem parts_wakes : (partsB [spanB 97 99, spanB 98 100]).length = 4 := by
  unfold partsB
  rw [List.length_map, span_ac, span_bd]
  decide +kernel

end Go.Proofs.Ytjiljfmejgiabaa
