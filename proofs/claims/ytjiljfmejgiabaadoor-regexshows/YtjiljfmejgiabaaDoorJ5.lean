/- The least byte of a set; the chapter's example. A set as it is told, and as it is read. -/
import Derived.Test.YtjiljfmejgiabaaDoorJ4
import Derived.Test.YtjiljfmejgiabaaDoorJ2
import Derived.Lib.TrailingZeros
namespace Go.Proofs.YtjiljfmejgiabaaDoor

theorem leastFrom_at (S : W4) (m : Nat) (hm : hasB S m = true) : ∀ n k, k ≤ m → m < k + n → (∀ x, k ≤ x → x < m → hasB S x = false) → leastFrom S k n = (m : Int)
  | 0, k, h1, h2, _ => absurd h2 (by omega)
  | n + 1, k, h1, h2, h3 => by
    rw [leastFrom_succ]
    by_cases e : k = m
    · subst e; rw [hm]; simp
    · rw [h3 k (Nat.le_refl _) (by omega)]
      simp only [Bool.false_eq_true, if_false]
      exact leastFrom_at S m hm n (k + 1) (by omega) (by omega) fun x hx hxm => h3 x (by omega) hxm
theorem least_at {S : W4} {m : Nat} (hm : hasB S m = true) (h : m < 256) (hlow : ∀ x, x < m → hasB S x = false) : leastB S = (m : Int) := by
  rw [leastB_eq]
  exact leastFrom_at S m hm 256 0 (by omega) (by omega) fun x _ hx => hlow x hx
theorem leastFrom_none (S : W4) : ∀ n k, (∀ x, k ≤ x → x < k + n → hasB S x = false) → leastFrom S k n = -1
  | 0, k, _ => leastFrom_zero S k
  | n + 1, k, h => by
    rw [leastFrom_succ, h k (Nat.le_refl _) (by omega)]
    simp only [Bool.false_eq_true, if_false]
    exact leastFrom_none S n (k + 1) fun x hx hxn => h x (by omega) (by omega)
theorem least_none {S : W4} (h : ∀ x, x < 256 → hasB S x = false) : leastB S = -1 := by
  rw [leastB_eq]
  exact leastFrom_none S 256 0 fun x _ hx => h x (by omega)

theorem ctz_bits {x : Nat} (h0 : x ≠ 0) (hx : x < 18446744073709551616) : Lib.ctz 64 x < 64 ∧ x.testBit (Lib.ctz 64 x) = true ∧ ∀ j, j < Lib.ctz 64 x → x.testBit j = false := by
  obtain ⟨hlow, hlt⟩ := Lib.lowest_bit 64 x h0 hx
  refine ⟨hlt, ?_, fun j hj => ?_⟩
  · have h1 : (x &&& (2 ^ 64 - x)).testBit (Lib.ctz 64 x) = true := by rw [hlow, Nat.testBit_two_pow_self]
    rw [Nat.testBit_and, Bool.and_eq_true] at h1
    exact h1.1
  · obtain ⟨m, hm, _⟩ := Lib.ctzFrom_spec 64 x (by omega) hx
    have e : Lib.ctz 64 x = Lib.ctzFrom 64 x := by simp [Lib.ctz, h0]
    rw [e] at hj
    generalize Lib.ctzFrom 64 x = t at hm hj
    rw [hm, Nat.testBit_two_pow_mul]
    simp; omega
theorem least_word {S : W4} (hS : Fit4 S) (i : Nat) (hi : i < 4) (h0 : S.w i ≠ 0) (hlow : ∀ k, k < i → S.w k = 0) : leastB S = ((64 * i + Lib.ctz 64 (S.w i) : Nat) : Int) := by
  obtain ⟨h1, h2, h3⟩ := ctz_bits h0 (hS.w i)
  refine least_at ?_ (by omega) fun x hx => ?_
  · unfold hasB
    rw [show (64 * i + Lib.ctz 64 (S.w i)) / 64 = i by omega, show (64 * i + Lib.ctz 64 (S.w i)) % 64 = Lib.ctz 64 (S.w i) by omega]
    exact h2
  · unfold hasB
    by_cases e : x / 64 < i
    · rw [hlow _ e, Nat.zero_testBit]
    · have e1 : x / 64 = i := by omega
      rw [e1]
      exact h3 _ (by omega)
theorem least_zero {S : W4} (h : ∀ k, k < 4 → S.w k = 0) : leastB S = -1 :=
  least_none fun x hx => by unfold hasB; rw [h _ (by omega), Nat.zero_testBit]

theorem span_ac : spanB 97 99 = ⟨0, 60129542144, 0, 0⟩ := by
  have h : ∀ x : Fin 256, hasB ⟨0, 60129542144, 0, 0⟩ x = (decide (97 ≤ x.val) && decide (x.val ≤ 99)) := by decide +kernel
  exact (mkB_eq ⟨by decide, by decide, by decide, by decide⟩ fun x hx => h ⟨x, hx⟩).symm
theorem span_bd : spanB 98 100 = ⟨0, 120259084288, 0, 0⟩ := by
  have h : ∀ x : Fin 256, hasB ⟨0, 120259084288, 0, 0⟩ x = (decide (98 ≤ x.val) && decide (x.val ≤ 100)) := by decide +kernel
  exact (mkB_eq ⟨by decide, by decide, by decide, by decide⟩ fun x hx => h ⟨x, hx⟩).symm
theorem parts_wakes : (partsB [spanB 97 99, spanB 98 100]).length = 4 := by
  unfold partsB
  rw [List.length_map, span_ac, span_bd]
  decide +kernel

end Go.Proofs.YtjiljfmejgiabaaDoor
namespace Go.Proofs.YtjiljfmejgiabaaDoor

/-- the items of a class, up to its ] -/
def itemsF : Nat → Bool → W4 → Txt → Option (W4 × Txt)
  | 0, _, _, _ => none
  | n + 1, first, acc, s =>
    if !first && s.head? == some 93 then some (acc, s.tail) else
    match signF leftC s with
    | none => none
    | some (a, s1) =>
      if s1.head? == some 45 then
        match signF leftC s1.tail with
        | none => none
        | some (b, s2) => if b < a then none else itemsF n false (orB acc (spanB a b)) s2
      else itemsF n false (orB acc (spanB a a)) s1
/-- of a class, behind its [ -/
def classF (n : Nat) (s : Txt) : Option (W4 × Txt) :=
  if s.head? == some 94 then
    match itemsF n true noneB s.tail with
    | none => none
    | some (S, r) => if notB S = noneB then none else some (notB S, r)
  else
    match itemsF n true noneB s with
    | none => none
    | some (S, r) => if S = noneB then none else some (S, r)
/-- how many of the bytes from b on, one behind the other, are in it -/
def runN (S : W4) : Nat → Nat → Nat
  | _, 0 => 0
  | b, f + 1 => if b < 256 && hasB S b then runN S (b + 1) f + 1 else 0
/-- a run as it is told -/
def runL (b n : Nat) : Txt :=
  (if 0 < n then aloneL b tellC else []) ++ ((if 2 < n then [45] else []) ++ (if 1 < n then aloneL (b + n - 1) tellC else []))
/-- the runs from b on -/
def runsL (S : W4) : Nat → Nat → Txt
  | _, 0 => []
  | b, f + 1 => if b < 256 then runL b (runN S b 256) ++ runsL S (b + runN S b 256 + 1) f else []
def toldL (S : W4) : Txt :=
  if countB S = 1 then aloneL (leastB S).toNat tellA
  else if countB S = 255 ∧ hasB S 10 = false then [46]
  else 91 :: (runsL S 0 257 ++ [93])

theorem runN_le (S : W4) : ∀ f b, runN S b f ≤ f
  | 0, b => by simp [runN]
  | f + 1, b => by
    have := runN_le S f (b + 1)
    unfold runN; split <;> omega
theorem runN_in (S : W4) : ∀ f b x, b ≤ x → x < b + runN S b f → x < 256 ∧ hasB S x = true
  | 0, b, x, h1, h2 => by simp [runN] at h2; omega
  | f + 1, b, x, h1, h2 => by
    unfold runN at h2
    split at h2
    · rename_i h
      simp only [Bool.and_eq_true, decide_eq_true_eq] at h
      by_cases e : x = b
      · subst e; exact h
      · exact runN_in S f (b + 1) x (by omega) (by omega)
    · omega
theorem runN_end (S : W4) : ∀ f b, 256 ≤ b + f → b + runN S b f < 256 → hasB S (b + runN S b f) = false
  | 0, b, h1, h2 => by simp [runN] at h2; omega
  | f + 1, b, h1, h2 => by
    unfold runN at h2 ⊢
    split
    · rename_i h
      rw [if_pos h] at h2
      have := runN_end S f (b + 1) (by omega) (by omega)
      rwa [show b + (runN S (b + 1) f + 1) = b + 1 + runN S (b + 1) f by omega]
    · rename_i h
      rw [if_neg h] at h2
      simp only [Bool.and_eq_true, decide_eq_true_eq, not_and] at h
      simpa using h (by omega)
/-- the bytes of S below b -/
def lowB (S : W4) (b : Nat) : W4 := mkB fun x => decide (x < b) && hasB S x
theorem lowB_zero (S : W4) : lowB S 0 = noneB := (mkB_eq noneB_fit fun x _ => by rw [noneB_has]; simp).symm
theorem lowB_all {S : W4} (hS : Fit4 S) (b : Nat) (h : 256 ≤ b) : lowB S b = S := (mkB_eq hS fun x hx => by simp; omega).symm
theorem lowB_run {S : W4} {b n : Nat} (h1 : ∀ x, b ≤ x → x < b + n → hasB S x = true) (h2 : b + n < 256 → hasB S (b + n) = false) (hn : 0 < n) : orB (lowB S b) (spanB b (b + n - 1)) = lowB S (b + n + 1) := by
  unfold orB
  conv => rhs; unfold lowB
  refine mkB_congr fun x hx => ?_
  unfold lowB spanB
  rw [mkB_has _ x hx, mkB_has _ x hx]
  by_cases e1 : x < b
  · simp [e1, show x < b + n + 1 by omega, show ¬ b ≤ x by omega]
  · by_cases e2 : x < b + n
    · simp [h1 x (by omega) e2, show b ≤ x by omega, show x ≤ b + n - 1 by omega, show x < b + n + 1 by omega]
    · by_cases e3 : x = b + n
      · subst e3
        simp [h2 hx]
        omega
      · simp [e1, show ¬ x < b + n + 1 by omega]
        omega
theorem lowB_skip {S : W4} {b : Nat} (h : b < 256 → hasB S b = false) : lowB S b = lowB S (b + 1) := by
  unfold lowB
  refine mkB_congr fun x hx => ?_
  by_cases e : x = b
  · subst e; simp [h hx]
  · congr 1
    rw [decide_eq_decide]
    omega

end Go.Proofs.YtjiljfmejgiabaaDoor
