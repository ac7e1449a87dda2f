/- A set as it is told, and as it is read. -/
import Derived.Test.YtjiljfmejgiabaaRxSign
import Derived.Test.YtjiljfmejgiabaaWakeMath
import Derived.Test.YtjiljfmejgiabaaBase
namespace Go.Proofs.Ytjiljfmejgiabaa

/-- the items of a class, up to its ] -/
def itemsF : Nat → Bool → W4 → Txt → Option (W4 × Txt)
  | 0, _, _, _ => none
  | n + 1, first, acc, s =>
    if !first && s.head? == some 93 then some (acc, s.tail) else
    match signF leftC s with
    | none => none
    | some (a, s1) =>
      if s1.head? == some 45 then
        match signF leftC s1.tail with
        | none => none
        | some (b, s2) => if b < a then none else itemsF n false (orB acc (spanB a b)) s2
      else itemsF n false (orB acc (spanB a a)) s1
/-- of a class, behind its [ -/
def classF (n : Nat) (s : Txt) : Option (W4 × Txt) :=
  if s.head? == some 94 then
    match itemsF n true noneB s.tail with
    | none => none
    | some (S, r) => if notB S = noneB then none else some (notB S, r)
  else
    match itemsF n true noneB s with
    | none => none
    | some (S, r) => if S = noneB then none else some (S, r)
/-- how many of the bytes from b on, one behind the other, are in it -/
def runN (S : W4) : Nat → Nat → Nat
  | _, 0 => 0
  | b, f + 1 => if b < 256 && hasB S b then runN S (b + 1) f + 1 else 0
/-- a run as it is told -/
def runL (b n : Nat) : Txt :=
  (if 0 < n then aloneL b tellC else []) ++ ((if 2 < n then [45] else []) ++ (if 1 < n then aloneL (b + n - 1) tellC else []))
/-- the runs from b on -/
def runsL (S : W4) : Nat → Nat → Txt
  | _, 0 => []
  | b, f + 1 => if b < 256 then runL b (runN S b 256) ++ runsL S (b + runN S b 256 + 1) f else []
def toldL (S : W4) : Txt :=
  if countB S = 1 then aloneL (leastB S).toNat tellA
  else if countB S = 255 ∧ hasB S 10 = false then [46]
  else 91 :: (runsL S 0 257 ++ [93])

theorem runN_le (S : W4) : ∀ f b, runN S b f ≤ f
  | 0, b => by simp [runN]
  | f + 1, b => by
    have := runN_le S f (b + 1)
    unfold runN; split <;> omega
theorem runN_in (S : W4) : ∀ f b x, b ≤ x → x < b + runN S b f → x < 256 ∧ hasB S x = true
  | 0, b, x, h1, h2 => by simp [runN] at h2; omega
  | f + 1, b, x, h1, h2 => by
    unfold runN at h2
    split at h2
    · rename_i h
      simp only [Bool.and_eq_true, decide_eq_true_eq] at h
      by_cases e : x = b
      · subst e; exact h
      · exact runN_in S f (b + 1) x (by omega) (by omega)
    · omega
theorem runN_end (S : W4) : ∀ f b, 256 ≤ b + f → b + runN S b f < 256 → hasB S (b + runN S b f) = false
  | 0, b, h1, h2 => by simp [runN] at h2; omega
  | f + 1, b, h1, h2 => by
    unfold runN at h2 ⊢
    split
    · rename_i h
      rw [if_pos h] at h2
      have := runN_end S f (b + 1) (by omega) (by omega)
      rwa [show b + (runN S (b + 1) f + 1) = b + 1 + runN S (b + 1) f by omega]
    · rename_i h
      rw [if_neg h] at h2
      simp only [Bool.and_eq_true, decide_eq_true_eq, not_and] at h
      simpa using h (by omega)
/-- the bytes of S below b -/
def lowB (S : W4) (b : Nat) : W4 := mkB fun x => decide (x < b) && hasB S x
theorem lowB_zero (S : W4) : lowB S 0 = noneB := (mkB_eq noneB_fit fun x _ => by rw [noneB_has]; simp).symm
theorem lowB_all {S : W4} (hS : Fit4 S) (b : Nat) (h : 256 ≤ b) : lowB S b = S := (mkB_eq hS fun x hx => by simp; omega).symm
theorem lowB_run {S : W4} {b n : Nat} (h1 : ∀ x, b ≤ x → x < b + n → hasB S x = true) (h2 : b + n < 256 → hasB S (b + n) = false) (hn : 0 < n) : orB (lowB S b) (spanB b (b + n - 1)) = lowB S (b + n + 1) := by
  unfold orB
  conv => rhs; unfold lowB
  refine mkB_congr fun x hx => ?_
  unfold lowB spanB
  rw [mkB_has _ x hx, mkB_has _ x hx]
  by_cases e1 : x < b
  · simp [e1, show x < b + n + 1 by omega, show ¬ b ≤ x by omega]
  · by_cases e2 : x < b + n
    · simp [h1 x (by omega) e2, show b ≤ x by omega, show x ≤ b + n - 1 by omega, show x < b + n + 1 by omega]
    · by_cases e3 : x = b + n
      · subst e3
        simp [h2 hx]
        omega
      · simp [e1, show ¬ x < b + n + 1 by omega]
        omega
theorem lowB_skip {S : W4} {b : Nat} (h : b < 256 → hasB S b = false) : lowB S b = lowB S (b + 1) := by
  unfold lowB
  refine mkB_congr fun x hx => ?_
  by_cases e : x = b
  · subst e; simp [h hx]
  · congr 1
    rw [decide_eq_decide]
    omega

end Go.Proofs.Ytjiljfmejgiabaa
