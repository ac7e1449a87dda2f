/- The runs of a set, taken out one by one. Sets of bytes word by word: or, and, not, one; how many bits a word has. -/
import Derived.Test.YtjiljfmejgiabaaDoorJ13
import Derived.Test.YtjiljfmejgiabaaDoorJ7
import Derived.Test.YtjiljfmejgiabaaDoorJ1
namespace Go.Proofs.YtjiljfmejgiabaaDoor

/-- the bytes of S from b on -/
def highB (S : W4) (b : Nat) : W4 := mkB fun x => decide (b ≤ x) && hasB S x
theorem highB_fit (S : W4) (b : Nat) : Fit4 (highB S b) := mkB_fit _
theorem highB_has (S : W4) (b x : Nat) (hx : x < 256) : hasB (highB S b) x = (decide (b ≤ x) && hasB S x) := by unfold highB; rw [mkB_has _ x hx]
theorem highB_zero {S : W4} (hS : Fit4 S) : highB S 0 = S := (mkB_eq hS fun x _ => by simp).symm
theorem first_in (S : W4) : ∀ k b, b + k = 256 → (∀ x, b ≤ x → x < 256 → hasB S x = false) ∨ ∃ m, b ≤ m ∧ m < 256 ∧ hasB S m = true ∧ ∀ x, b ≤ x → x < m → hasB S x = false
  | 0, b, h => Or.inl fun x h1 h2 => by omega
  | k + 1, b, h => by
    cases hb : hasB S b with
    | true => exact Or.inr ⟨b, Nat.le_refl _, by omega, hb, fun x h1 h2 => by omega⟩
    | false =>
      rcases first_in S k (b + 1) (by omega) with h1 | ⟨m, h1, h2, h3, h4⟩
      · refine Or.inl fun x hx1 hx2 => ?_
        by_cases e : x = b
        · subst e; exact hb
        · exact h1 x (by omega) hx2
      · refine Or.inr ⟨m, by omega, h2, h3, fun x hx1 hx2 => ?_⟩
        by_cases e : x = b
        · subst e; exact hb
        · exact h4 x (by omega) hx2
theorem run_none {S : W4} {b : Nat} (h : hasB S b = false) : runN S b 256 = 0 := by
  unfold runN
  rw [h]
  simp
theorem told_skip {S : W4} {A T : Txt} : ∀ (k b m f : Nat), b + k = m → m ≤ 256 → (∀ x, b ≤ x → x < m → hasB S x = false) → 257 ≤ b + f → A ++ runsL S b f = T → ∃ f', 257 ≤ m + f' ∧ A ++ runsL S m f' = T
  | 0, b, m, f, h, _, _, hf, hA => ⟨f, by omega, by rw [← h]; exact hA⟩
  | k + 1, b, m, f, h, hm, hno, hf, hA => by
    obtain ⟨f1, hf1, hA1⟩ := told_step (n := 0) (by omega) hf (run_none (hno b (Nat.le_refl _) (by omega))).symm hA
    rw [runL_0, List.append_nil] at hA1
    exact told_skip k (b + 1) m f1 (by omega) hm (fun x h1 h2 => hno x (by omega) h2) (by omega) hA1
theorem high_least {S : W4} {b m : Nat} (h1 : b ≤ m) (h2 : m < 256) (h3 : hasB S m = true) (h4 : ∀ x, b ≤ x → x < m → hasB S x = false) : leastB (highB S b) = (m : Int) :=
  least_at (by rw [highB_has S b m h2, h3]; simp [h1]) h2 fun x hx => by
    rw [highB_has S b x (by omega)]
    by_cases e : b ≤ x
    · rw [h4 x e hx]; simp
    · simp [e]
theorem high_none {S : W4} {b : Nat} (h : ∀ x, b ≤ x → x < 256 → hasB S x = false) : leastB (highB S b) = -1 :=
  least_none fun x hx => by
    rw [highB_has S b x hx]
    by_cases e : b ≤ x
    · rw [h x e hx]; simp
    · simp [e]
theorem run_pos {S : W4} {m : Nat} (h2 : m < 256) (h3 : hasB S m = true) : 0 < runN S m 256 := by
  show 0 < runN S m (255 + 1)
  unfold runN
  rw [h3, decide_eq_true h2]
  simp
theorem run_le {S : W4} {m : Nat} : m + runN S m 256 ≤ 256 ∨ runN S m 256 = 0 := by
  rcases Nat.eq_zero_or_pos (runN S m 256) with h | h
  · exact Or.inr h
  · have := (runN_in S 256 m (m + runN S m 256 - 1) (by omega) (by omega)).1
    omega
/-- the run from m on, taken out -/
theorem high_take {S : W4} {b m n : Nat} (h1 : b ≤ m) (hn : n = runN S m 256) (hp : 0 < n) (h4 : ∀ x, b ≤ x → x < m → hasB S x = false) : andB (highB S b) (notB (spanB m (m + n - 1))) = highB S (m + n + 1) := by
  have hin := runN_in S 256 m
  have hend := runN_end S 256 m (by omega)
  rw [← hn] at hin hend
  unfold andB
  conv => rhs; unfold highB
  refine mkB_congr fun x hx => ?_
  unfold notB spanB highB
  rw [mkB_has _ x hx, mkB_has _ x hx, mkB_has _ x hx]
  by_cases e1 : x < m
  · by_cases e0 : b ≤ x
    · rw [h4 x e0 e1]; simp
    · simp [e0, show ¬ m + n + 1 ≤ x by omega]
  · by_cases e2 : x < m + n
    · simp [show m ≤ x by omega, show x ≤ m + n - 1 by omega, show ¬ m + n + 1 ≤ x by omega]
    · by_cases e3 : x = m + n
      · subst e3
        rw [hend hx]
        simp
      · simp [show b ≤ x by omega, show ¬ x ≤ m + n - 1 by omega, show m + n + 1 ≤ x by omega]
/-- of what is from m on the run is the same -/
theorem high_run {S : W4} {b m j : Nat} (h1 : b ≤ m) (hj : m + j < 256) : hasB (highB S b) (m + j) = hasB S (m + j) := by
  rw [highB_has S b (m + j) hj]
  simp [show b ≤ m + j by omega]
/-- how far a run goes -/
theorem run_is {S : W4} {m j : Nat} (hj : m + j < 256) (hin : ∀ i, i ≤ j → hasB S (m + i) = true) (hend : m + j + 1 < 256 → hasB S (m + j + 1) = false) : runN S m 256 = j + 1 := by
  have h1 := runN_in S 256 m
  have h2 := runN_end S 256 m (by omega)
  rcases Nat.lt_trichotomy (runN S m 256) (j + 1) with h | h | h
  · have := hin (runN S m 256) (by omega)
    rw [h2 (by omega)] at this
    cases this
  · exact h
  · have := h1 (m + (j + 1)) (by omega) (by omega)
    have h3 := hend (by omega)
    rw [show m + j + 1 = m + (j + 1) by omega, this.2] at h3
    cases h3
theorem dot_count : countB (notB (spanB 10 10)) = 255 ∧ hasB (notB (spanB 10 10)) 10 = false := by
  have h := count_both (spanB 10 10)
  have h1 : hasB (spanB 10 10) 10 = true := by unfold spanB; rw [mkB_has _ 10 (by omega)]; rfl
  refine ⟨?_, by unfold notB; rw [mkB_has _ 10 (by omega), h1]; rfl⟩
  have h2 : countB (spanB 10 10) = 1 := by decide +kernel
  omega
theorem toldL_dot {S : W4} (hS : Fit4 S) (h1 : ¬ countB S = 1) : toldL S = if S = notB (spanB 10 10) then [46] else 91 :: (runsL S 0 257 ++ [93]) := by
  unfold toldL
  rw [if_neg h1]
  by_cases e : countB S = 255 ∧ hasB S 10 = false
  · rw [if_pos e, if_pos (dot_of_count hS e.1 e.2)]
  · rw [if_neg e, if_neg (fun h => e (by rw [h]; exact dot_count))]

end Go.Proofs.YtjiljfmejgiabaaDoor
namespace Go.Proofs.YtjiljfmejgiabaaDoor

theorem or_words (S T : W4) (hS : Fit4 S) (hT : Fit4 T) : orB S T = ⟨S.a ||| T.a, S.b ||| T.b, S.c ||| T.c, S.d ||| T.d⟩ := by
  have lt : ∀ m n : Nat, m < 18446744073709551616 → n < 18446744073709551616 → m ||| n < 18446744073709551616 := fun m n hm hn => Nat.or_lt_two_pow (n := 64) hm hn
  refine (mkB_eq ⟨lt _ _ hS.a hT.a, lt _ _ hS.b hT.b, lt _ _ hS.c hT.c, lt _ _ hS.d hT.d⟩ fun x hx => ?_).symm
  unfold hasB
  have h4 : x / 64 = 0 ∨ x / 64 = 1 ∨ x / 64 = 2 ∨ x / 64 = 3 := by omega
  rcases h4 with h | h | h | h <;> rw [h] <;> exact Nat.testBit_or _ _ _
theorem and_words (S T : W4) (hS : Fit4 S) : andB S T = ⟨S.a &&& T.a, S.b &&& T.b, S.c &&& T.c, S.d &&& T.d⟩ := by
  have lt : ∀ m n : Nat, m < 18446744073709551616 → m &&& n < 18446744073709551616 := fun m n hm => Nat.lt_of_le_of_lt Nat.and_le_left hm
  refine (mkB_eq ⟨lt _ _ hS.a, lt _ _ hS.b, lt _ _ hS.c, lt _ _ hS.d⟩ fun x hx => ?_).symm
  unfold hasB
  have h4 : x / 64 = 0 ∨ x / 64 = 1 ∨ x / 64 = 2 ∨ x / 64 = 3 := by omega
  rcases h4 with h | h | h | h <;> rw [h] <;> exact Nat.testBit_and _ _ _
theorem not_bit (n j : Nat) (hn : n < 18446744073709551616) (hj : j < 64) : (18446744073709551615 - n).testBit j = !n.testBit j := by
  have := Nat.testBit_two_pow_sub_succ (n := 64) (x := n) hn j
  rw [show (2 : Nat) ^ 64 - (n + 1) = 18446744073709551615 - n by omega] at this
  rw [this]
  simp [hj]
theorem not_words (S : W4) (hS : Fit4 S) : notB S = ⟨18446744073709551615 - S.a, 18446744073709551615 - S.b, 18446744073709551615 - S.c, 18446744073709551615 - S.d⟩ := by
  have lt : ∀ n : Nat, 18446744073709551615 - n < 18446744073709551616 := fun n => by omega
  refine (mkB_eq ⟨lt _, lt _, lt _, lt _⟩ fun x hx => ?_).symm
  unfold hasB
  have h4 : x / 64 = 0 ∨ x / 64 = 1 ∨ x / 64 = 2 ∨ x / 64 = 3 := by omega
  rcases h4 with h | h | h | h <;> rw [h]
  · exact not_bit _ _ hS.a (by omega)
  · exact not_bit _ _ hS.b (by omega)
  · exact not_bit _ _ hS.c (by omega)
  · exact not_bit _ _ hS.d (by omega)
theorem xor_all (n : Nat) (hn : n < 18446744073709551616) : n ^^^ 18446744073709551615 = 18446744073709551615 - n := by
  refine word_ext (Nat.xor_lt_two_pow (n := 64) hn (by decide)) (by omega) fun j hj => ?_
  rw [Nat.testBit_xor, not_bit n j hn hj]
  have : (18446744073709551615 : Nat).testBit j = true := by
    have h := not_bit 0 j (by omega) hj
    rw [Nat.zero_testBit] at h
    exact h
  rw [this]
  cases n.testBit j <;> rfl
theorem one_word (x : Nat) (hx : x < 256) : spanB x x = noneB.set (x / 64) (2 ^ (x % 64)) := by
  have h0 : noneB.w (x / 64) = 0 := by
    have h4 : x / 64 = 0 ∨ x / 64 = 1 ∨ x / 64 = 2 ∨ x / 64 = 3 := by omega
    rcases h4 with h | h | h | h <;> rw [h] <;> rfl
  have h1 : putB noneB x = noneB.set (x / 64) (2 ^ (x % 64)) := by
    unfold putB
    rw [noneB_has, h0]
    simp
  rw [← h1]
  refine (mkB_eq (putB_fit noneB_fit x) fun y hy => ?_).symm
  rw [putB_has _ x y hx hy, noneB_has, Bool.false_or, Bool.eq_iff_iff]
  simp only [Bool.and_eq_true, decide_eq_true_eq]
  omega

/-! ### how many bits -/
/-- the bits of the first k bytes of a number, byte by byte -/
def mapB (f : Nat → Nat) : Nat → Nat → Nat
  | 0, _ => 0
  | k + 1, n => f (n % 256) + 256 * mapB f k (n / 256)
theorem mapB_succ (f : Nat → Nat) (k n : Nat) : mapB f (k + 1) n = f (n % 256) + 256 * mapB f k (n / 256) := rfl
def maskB (c : Nat) : Nat → Nat
  | 0 => 0
  | k + 1 => c + 256 * maskB c k
theorem and_split (a c d m : Nat) (hc : c < 2 ^ m) : a &&& (c + 2 ^ m * d) = (a % 2 ^ m &&& c) + 2 ^ m * (a / 2 ^ m &&& d) := by
  have h1 : (a % 2 ^ m &&& c) < 2 ^ m := Nat.lt_of_le_of_lt Nat.and_le_right hc
  apply Nat.eq_of_testBit_eq
  intro j
  rw [Nat.testBit_and, Nat.add_comm c, Nat.testBit_two_pow_mul_add _ hc, Nat.add_comm (a % 2 ^ m &&& c), Nat.testBit_two_pow_mul_add _ h1]
  by_cases hj : j < m
  · rw [if_pos hj, if_pos hj, Nat.testBit_and, Nat.testBit_mod_two_pow]
    simp [hj]
  · rw [if_neg hj, if_neg hj, Nat.testBit_and, Nat.testBit_div_two_pow]
    rw [show j - m + m = j by omega]
theorem and_split8 (a c d : Nat) (hc : c < 256) : a &&& (c + 256 * d) = (a % 256 &&& c) + 256 * (a / 256 &&& d) := and_split a c d 8 hc
theorem and_low (a c m : Nat) (hc : c < 2 ^ m) : a &&& c = a % 2 ^ m &&& c := by
  have := and_split a c 0 m hc
  rw [Nat.mul_zero, Nat.add_zero] at this
  rw [this, Nat.and_zero]; omega
/-- a shift by s bits, masked so that nothing comes from the next byte -/
theorem shift_mask (s c : Nat) (hs : s ≤ 8) (hc : c < 2 ^ (8 - s)) : ∀ k n, (n / 2 ^ s &&& maskB c k) = mapB (fun b => b / 2 ^ s &&& c) k n
  | 0, n => by rw [maskB, mapB, Nat.and_zero]
  | k + 1, n => by
    have hc8 : c < 256 := Nat.lt_of_lt_of_le hc (by have : (2 : Nat) ^ (8 - s) ≤ 2 ^ 8 := Nat.pow_le_pow_right (by omega) (by omega); omega)
    rw [maskB, mapB, and_split8 _ _ _ hc8]
    have h1 : n / 2 ^ s / 256 = n / 256 / 2 ^ s := by rw [Nat.div_div_eq_div_mul, Nat.div_div_eq_div_mul, Nat.mul_comm]
    rw [h1, shift_mask s c hs hc k (n / 256)]
    congr 1
    rw [and_low _ c (8 - s) hc, and_low (n % 256 / 2 ^ s) c (8 - s) hc]
    congr 1
    have h2 : (2 : Nat) ^ s * 2 ^ (8 - s) = 256 := by rw [← Nat.pow_add, show s + (8 - s) = 8 by omega]
    have h3 : n % 256 / 2 ^ s = n / 2 ^ s % 2 ^ (8 - s) := by
      rw [← h2, Nat.mod_mul_right_div_self]
    rw [h3]
    rw [Nat.mod_mod_of_dvd _ (Nat.pow_dvd_pow 2 (by omega : 8 - s ≤ 8) |> fun h => by simpa using h), Nat.mod_mod]
theorem mapB_add (f g : Nat → Nat) : ∀ k n, mapB f k n + mapB g k n = mapB (fun b => f b + g b) k n
  | 0, _ => rfl
  | k + 1, n => by rw [mapB, mapB, mapB, ← mapB_add f g k]; omega
theorem mapB_comp (f g : Nat → Nat) (hf : ∀ b, b < 256 → f b < 256) : ∀ k n, mapB g k (mapB f k n) = mapB (fun b => g (f b)) k n
  | 0, _ => rfl
  | k + 1, n => by
    have hb := hf (n % 256) (by omega)
    rw [mapB, mapB_succ f, mapB_succ (fun b => g (f b)), show (f (n % 256) + 256 * mapB f k (n / 256)) % 256 = f (n % 256) by omega, show (f (n % 256) + 256 * mapB f k (n / 256)) / 256 = mapB f k (n / 256) by omega, mapB_comp f g hf k]
theorem mapB_low {f : Nat → Nat} (hf : ∀ b, b < 256 → f b < 256 ∧ f b % 16 ≤ 4) (k n : Nat) : mapB f k n % 16 ≤ 4 := by
  cases k with
  | zero => simp [mapB]
  | succ k => have := hf (n % 256) (by omega); rw [mapB]; omega
/-- the third step: nothing is carried -/
theorem step3 {f : Nat → Nat} (hf : ∀ b, b < 256 → f b < 256 ∧ f b % 16 ≤ 4) (hf2 : ∀ b, b < 256 → f b ≤ 68) : ∀ k n, (mapB f k n / 16 + mapB f k n) &&& maskB 15 k = mapB (fun b => (f b / 16 + f b) % 16) k n
  | 0, n => by rw [maskB, mapB, Nat.and_zero, mapB]
  | k + 1, n => by
    have h1 := hf (n % 256) (by omega)
    have h2 := hf2 (n % 256) (by omega)
    have h3 := mapB_low hf k (n / 256)
    have ih := step3 hf hf2 k (n / 256)
    rw [maskB, mapB_succ, mapB_succ (fun b => (f b / 16 + f b) % 16), ← ih, and_split8 _ _ _ (by omega)]
    generalize mapB f k (n / 256) = y at h3
    generalize f (n % 256) = c at h1 h2
    have e1 : ((c + 256 * y) / 16 + (c + 256 * y)) / 256 = y / 16 + y := by omega
    have e2 : ((c + 256 * y) / 16 + (c + 256 * y)) % 256 &&& 15 = (c / 16 + c) % 16 := by
      rw [show (15 : Nat) = 2 ^ 4 - 1 from rfl, Nat.and_two_pow_sub_one_eq_mod]
      omega
    rw [e1, e2]

def pf1 (b : Nat) : Nat := (b / 2 &&& 85) + (b &&& 85)
def pf2 (b : Nat) : Nat := (b / 4 &&& 51) + (b &&& 51)
def pop8 (b : Nat) : Nat := (pf2 (pf1 b) / 16 + pf2 (pf1 b)) % 16
/-- the bits of a number below a place -/
def bitsN (n : Nat) : Nat → Nat
  | 0 => 0
  | k + 1 => bitsN n k + (if n.testBit k then 1 else 0)
theorem bytes_all : ∀ b : Fin 256, pf1 b < 256 ∧ pf2 (pf1 b) < 256 ∧ pf2 (pf1 b) % 16 ≤ 4 ∧ pf2 (pf1 b) ≤ 68 ∧ pop8 b = bitsN b 8 ∧ pop8 b ≤ 8 := by decide +kernel
theorem bytes_at (b : Nat) (h : b < 256) : pf1 b < 256 ∧ pf2 (pf1 b) < 256 ∧ pf2 (pf1 b) % 16 ≤ 4 ∧ pf2 (pf1 b) ≤ 68 ∧ pop8 b = bitsN b 8 ∧ pop8 b ≤ 8 := bytes_all ⟨b, h⟩
theorem mask85 : maskB 85 8 = 6148914691236517205 := by decide +kernel
theorem mask51 : maskB 51 8 = 3689348814741910323 := by decide +kernel
theorem mask15 : maskB 15 8 = 1085102592571150095 := by decide +kernel
theorem ones1 (n : Nat) : (n / 2 &&& 6148914691236517205) + (n &&& 6148914691236517205) = mapB pf1 8 n := by
  have h1 := shift_mask 1 85 (by omega) (by decide) 8 n
  have h2 := shift_mask 0 85 (by omega) (by decide) 8 n
  rw [mask85] at h1 h2
  rw [Nat.pow_zero, Nat.div_one] at h2
  rw [show n / 2 = n / 2 ^ 1 by rw [Nat.pow_one], h1, h2, mapB_add]
  unfold pf1
  simp only [Nat.pow_one, Nat.div_one]
theorem ones2 (n : Nat) : (mapB pf1 8 n / 4 &&& 3689348814741910323) + (mapB pf1 8 n &&& 3689348814741910323) = mapB (fun b => pf2 (pf1 b)) 8 n := by
  have h1 := shift_mask 2 51 (by omega) (by decide) 8 (mapB pf1 8 n)
  have h2 := shift_mask 0 51 (by omega) (by decide) 8 (mapB pf1 8 n)
  rw [mask51] at h1 h2
  rw [Nat.pow_zero, Nat.div_one] at h2
  rw [show mapB pf1 8 n / 4 = mapB pf1 8 n / 2 ^ 2 by rfl, h1, h2, mapB_add]
  rw [← mapB_comp pf1 pf2 (fun b hb => (bytes_at b hb).1)]
  unfold pf2
  simp only [Nat.div_one, show (2 : Nat) ^ 2 = 4 from rfl]
theorem ones3 (n : Nat) : (mapB (fun b => pf2 (pf1 b)) 8 n / 16 + mapB (fun b => pf2 (pf1 b)) 8 n) &&& 1085102592571150095 = mapB pop8 8 n := by
  rw [← mask15]
  exact step3 (f := fun b => pf2 (pf1 b)) (fun b hb => ⟨(bytes_at b hb).2.1, (bytes_at b hb).2.2.1⟩) (fun b hb => (bytes_at b hb).2.2.2.1) 8 n
def sumB : Nat → Nat → Nat
  | 0, _ => 0
  | k + 1, n => pop8 (n % 256) + sumB k (n / 256)
theorem dv (a t : Nat) (h : a < 256) : (a + 256 * t) / 256 = t := by omega
theorem add_dig {a b s t x y : Nat} (hx : x = a + 256 * s) (hy : y = b + 256 * t) : x + y = (a + b) + 256 * (s + t) := by omega
theorem dig_le {h t x m : Nat} (hx : x = h + 256 * t) (hh : h ≤ 8) (ht : t ≤ m) : x ≤ 8 + 256 * m := by omega
theorem ones_sum {h0 h1 h2 h3 h4 h5 h6 h7 t0 t1 t2 t3 t4 t5 t6 t7 : Nat} (b0 : h0 ≤ 8) (b1 : h1 ≤ 8) (b2 : h2 ≤ 8) (b3 : h3 ≤ 8) (b4 : h4 ≤ 8) (b5 : h5 ≤ 8) (b6 : h6 ≤ 8) (b7 : h7 ≤ 8)
    (g7 : t7 = h7 + 256 * 0) (g6 : t6 = h6 + 256 * t7) (g5 : t5 = h5 + 256 * t6) (g4 : t4 = h4 + 256 * t5) (g3 : t3 = h3 + 256 * t4) (g2 : t2 = h2 + 256 * t3) (g1 : t1 = h1 + 256 * t2) (g0 : t0 = h0 + 256 * t1) :
    (t0 + t0 / 256 + (t0 + t0 / 256) / 65536 + (t0 + t0 / 256 + (t0 + t0 / 256) / 65536) / 4294967296) % 128 = h0 + (h1 + (h2 + (h3 + (h4 + (h5 + (h6 + (h7 + 0))))))) ∧
    t0 + t0 / 256 + (t0 + t0 / 256) / 65536 + (t0 + t0 / 256 + (t0 + t0 / 256) / 65536) / 4294967296 < 9223372036854775808 ∧ t0 < 9223372036854775808 ∧ t0 + t0 / 256 < 9223372036854775808 ∧ t0 + t0 / 256 + (t0 + t0 / 256) / 65536 < 9223372036854775808 := by
  have q0 : t0 / 256 = t1 := by rw [g0]; exact dv _ _ (by omega)
  have u0 := add_dig g0 g1
  have u1 := add_dig g1 g2
  have u2 := add_dig g2 g3
  have u3 := add_dig g3 g4
  have u4 := add_dig g4 g5
  have u5 := add_dig g5 g6
  have u6 := add_dig g6 g7
  have u7 : t7 + 0 = (h7 + 0) + 256 * (0 + 0) := by rw [g7]
  have z7 : t7 ≤ 8 := by omega
  have z6 := dig_le g6 b6 z7
  have z5 := dig_le g5 b5 z6
  have z4 := dig_le g4 b4 z5
  have z3 := dig_le g3 b3 z4
  have z2 := dig_le g2 b2 z3
  have z1 := dig_le g1 b1 z2
  have z0 := dig_le g0 b0 z1
  clear g0 g1 g2 g3 g4 g5 g6 g7
  have r0 : (t0 + t1) / 65536 = t2 + t3 := by
    rw [show (65536 : Nat) = 256 * 256 from rfl, ← Nat.div_div_eq_div_mul, u0, dv _ _ (by omega), u1, dv _ _ (by omega)]
  have v0 := add_dig u0 u2
  have v1 := add_dig u1 u3
  have v2 := add_dig u2 u4
  have v3 := add_dig u3 u5
  have v4 := add_dig u4 u6
  clear u0 u1 u2 u3 u4 u5 u6 u7
  have s0 : (t0 + t1 + (t2 + t3)) / 4294967296 = t4 + t5 + (t6 + t7) := by
    rw [show (4294967296 : Nat) = 256 * (256 * (256 * 256)) from rfl, ← Nat.div_div_eq_div_mul, v0, dv _ _ (by omega), ← Nat.div_div_eq_div_mul, v1, dv _ _ (by omega), ← Nat.div_div_eq_div_mul, v2, dv _ _ (by omega), v3, dv _ _ (by omega)]
  have x0 := add_dig v0 v4
  clear v0 v1 v2 v3 v4
  rw [q0, r0, s0]
  refine ⟨?_, ?_, ?_, ?_, ?_⟩
  · rw [x0]; clear x0 s0 r0 q0 z0 z1 z2 z3 z4 z5 z6 z7; omega
  all_goals (clear x0 s0 r0 q0; omega)
theorem ones4 (n : Nat) : ∃ x4 x5 x6, x4 = mapB pop8 8 n + mapB pop8 8 n / 256 ∧ x5 = x4 + x4 / 65536 ∧ x6 = x5 + x5 / 4294967296 ∧ x6 % 128 = sumB 8 n ∧ x6 < 9223372036854775808 ∧ mapB pop8 8 n < 9223372036854775808 ∧ x4 < 9223372036854775808 ∧ x5 < 9223372036854775808 := by
  refine ⟨_, _, _, rfl, rfl, rfl, ?_⟩
  have b0 := (bytes_at (n % 256) (by omega)).2.2.2.2.2
  have b1 := (bytes_at (n / 256 % 256) (by omega)).2.2.2.2.2
  have b2 := (bytes_at (n / 256 / 256 % 256) (by omega)).2.2.2.2.2
  have b3 := (bytes_at (n / 256 / 256 / 256 % 256) (by omega)).2.2.2.2.2
  have b4 := (bytes_at (n / 256 / 256 / 256 / 256 % 256) (by omega)).2.2.2.2.2
  have b5 := (bytes_at (n / 256 / 256 / 256 / 256 / 256 % 256) (by omega)).2.2.2.2.2
  have b6 := (bytes_at (n / 256 / 256 / 256 / 256 / 256 / 256 % 256) (by omega)).2.2.2.2.2
  have b7 := (bytes_at (n / 256 / 256 / 256 / 256 / 256 / 256 / 256 % 256) (by omega)).2.2.2.2.2
  simp only [mapB, sumB]
  generalize pop8 (n % 256) = h0 at b0
  generalize pop8 (n / 256 % 256) = h1 at b1
  generalize pop8 (n / 256 / 256 % 256) = h2 at b2
  generalize pop8 (n / 256 / 256 / 256 % 256) = h3 at b3
  generalize pop8 (n / 256 / 256 / 256 / 256 % 256) = h4 at b4
  generalize pop8 (n / 256 / 256 / 256 / 256 / 256 % 256) = h5 at b5
  generalize pop8 (n / 256 / 256 / 256 / 256 / 256 / 256 % 256) = h6 at b6
  generalize pop8 (n / 256 / 256 / 256 / 256 / 256 / 256 / 256 % 256) = h7 at b7
  clear n
  exact ones_sum b0 b1 b2 b3 b4 b5 b6 b7 rfl rfl rfl rfl rfl rfl rfl rfl

theorem bitsN_split (n : Nat) : ∀ m, bitsN n (8 + m) = bitsN (n % 256) 8 + bitsN (n / 256) m
  | 0 => by
    have low : ∀ k, k ≤ 8 → bitsN n k = bitsN (n % 256) k := by
      intro k
      induction k with
      | zero => intro _; rfl
      | succ k ih =>
        intro hk
        rw [bitsN, bitsN, ih (by omega)]
        have := Nat.testBit_mod_two_pow n 8 k
        rw [show (2 : Nat) ^ 8 = 256 from rfl] at this
        rw [this]
        simp [show k < 8 by omega]
    exact low 8 (Nat.le_refl _)
  | m + 1 => by
    have ih := bitsN_split n m
    have h1 : bitsN n (8 + (m + 1)) = bitsN n (8 + m) + (if n.testBit (8 + m) then 1 else 0) := rfl
    have h2 : bitsN (n / 256) (m + 1) = bitsN (n / 256) m + (if (n / 256).testBit m then 1 else 0) := rfl
    have h3 : (n / 256).testBit m = n.testBit (8 + m) := by
      have := Nat.testBit_div_two_pow (n := 8) n m
      rw [show (2 : Nat) ^ 8 = 256 from rfl] at this
      rw [this, Nat.add_comm m 8]
    rw [h1, h2, h3, ih]
    omega
theorem sumB_bits : ∀ k n, sumB k n = bitsN n (8 * k)
  | 0, _ => rfl
  | k + 1, n => by
    rw [sumB, sumB_bits k, show 8 * (k + 1) = 8 + 8 * k by omega, bitsN_split, (bytes_at (n % 256) (by omega)).2.2.2.2.1]
theorem count_word (S : W4) (i : Nat) (hi : i < 4) : ∀ j, j ≤ 64 → countN S (64 * i + j) = countN S (64 * i) + bitsN (S.w i) j
  | 0, _ => rfl
  | j + 1, hj => by
    have ih := count_word S i hi j (by omega)
    rw [← Nat.add_assoc, countN_succ, ih, bitsN]
    unfold hasB
    rw [show (64 * i + j) / 64 = i by omega, show (64 * i + j) % 64 = j by omega]
    omega
/-- how many bytes a set has, word by word -/
theorem count_words (S : W4) : countB S = sumB 8 S.a + sumB 8 S.b + sumB 8 S.c + sumB 8 S.d := by
  have h0 := count_word S 0 (by omega) 64 (Nat.le_refl _)
  have h1 := count_word S 1 (by omega) 64 (Nat.le_refl _)
  have h2 := count_word S 2 (by omega) 64 (Nat.le_refl _)
  have h3 := count_word S 3 (by omega) 64 (Nat.le_refl _)
  rw [sumB_bits, sumB_bits, sumB_bits, sumB_bits, countB_eq]
  simp only [Nat.mul_zero, Nat.zero_add, countN_zero, Nat.mul_one, Nat.reduceMul, Nat.reduceAdd] at h0 h1 h2 h3 ⊢
  rw [h3, h2, h1, h0]
  rfl

end Go.Proofs.YtjiljfmejgiabaaDoor
