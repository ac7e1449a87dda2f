/- A set as it is told, and as it is read. What is told of a set is read to that set. -/
import Derived.Test.YtgbecehggdkkmaaJ6
import Derived.Test.YtgbecehggdkkmaaJ7
import Derived.Test.YtgbecehggdkkmaaJ2
namespace Go.Proofs.Ytgbecehggdkkmaa

/-- the items of a class, up to its ] -/
def itemsF : Nat → Bool → W4 → Txt → Option (W4 × Txt)
  | 0, _, _, _ => none
  | n + 1, first, acc, s =>
    if !first && s.head? == some 93 then some (acc, s.tail) else
    match signF leftC s with
    | none => none
    | some (a, s1) =>
      if s1.head? == some 45 then
        match signF leftC s1.tail with
        | none => none
        | some (b, s2) => if b < a then none else itemsF n false (orB acc (spanB a b)) s2
      else itemsF n false (orB acc (spanB a a)) s1
/-- of a class, behind its [ -/
def classF (n : Nat) (s : Txt) : Option (W4 × Txt) :=
  if s.head? == some 94 then
    match itemsF n true noneB s.tail with
    | none => none
    | some (S, r) => if notB S = noneB then none else some (notB S, r)
  else
    match itemsF n true noneB s with
    | none => none
    | some (S, r) => if S = noneB then none else some (S, r)
/-- how many of the bytes from b on, one behind the other, are in it -/
def runN (S : W4) : Nat → Nat → Nat
  | _, 0 => 0
  | b, f + 1 => if b < 256 && hasB S b then runN S (b + 1) f + 1 else 0
/-- a run as it is told -/
def runL (b n : Nat) : Txt :=
  (if 0 < n then aloneL b tellC else []) ++ ((if 2 < n then [45] else []) ++ (if 1 < n then aloneL (b + n - 1) tellC else []))
/-- the runs from b on -/
def runsL (S : W4) : Nat → Nat → Txt
  | _, 0 => []
  | b, f + 1 => if b < 256 then runL b (runN S b 256) ++ runsL S (b + runN S b 256 + 1) f else []
def toldL (S : W4) : Txt :=
  if countB S = 1 then aloneL (leastB S).toNat tellA
  else if countB S = 255 ∧ hasB S 10 = false then [46]
  else 91 :: (runsL S 0 257 ++ [93])

theorem runN_le (S : W4) : ∀ f b, runN S b f ≤ f
  | 0, b => by simp [runN]
  | f + 1, b => by
    have := runN_le S f (b + 1)
    unfold runN; split <;> omega
theorem runN_in (S : W4) : ∀ f b x, b ≤ x → x < b + runN S b f → x < 256 ∧ hasB S x = true
  | 0, b, x, h1, h2 => by simp [runN] at h2; omega
  | f + 1, b, x, h1, h2 => by
    unfold runN at h2
    split at h2
    · rename_i h
      simp only [Bool.and_eq_true, decide_eq_true_eq] at h
      by_cases e : x = b
      · subst e; exact h
      · exact runN_in S f (b + 1) x (by omega) (by omega)
    · omega
theorem runN_end (S : W4) : ∀ f b, 256 ≤ b + f → b + runN S b f < 256 → hasB S (b + runN S b f) = false
  | 0, b, h1, h2 => by simp [runN] at h2; omega
  | f + 1, b, h1, h2 => by
    unfold runN at h2 ⊢
    split
    · rename_i h
      rw [if_pos h] at h2
      have := runN_end S f (b + 1) (by omega) (by omega)
      rwa [show b + (runN S (b + 1) f + 1) = b + 1 + runN S (b + 1) f by omega]
    · rename_i h
      rw [if_neg h] at h2
      simp only [Bool.and_eq_true, decide_eq_true_eq, not_and] at h
      simpa using h (by omega)
/-- the bytes of S below b -/
def lowB (S : W4) (b : Nat) : W4 := mkB fun x => decide (x < b) && hasB S x
theorem lowB_zero (S : W4) : lowB S 0 = noneB := (mkB_eq noneB_fit fun x _ => by rw [noneB_has]; simp).symm
theorem lowB_all {S : W4} (hS : Fit4 S) (b : Nat) (h : 256 ≤ b) : lowB S b = S := (mkB_eq hS fun x hx => by simp; omega).symm
theorem lowB_run {S : W4} {b n : Nat} (h1 : ∀ x, b ≤ x → x < b + n → hasB S x = true) (h2 : b + n < 256 → hasB S (b + n) = false) (hn : 0 < n) : orB (lowB S b) (spanB b (b + n - 1)) = lowB S (b + n + 1) := by
  unfold orB
  conv => rhs; unfold lowB
  refine mkB_congr fun x hx => ?_
  unfold lowB spanB
  rw [mkB_has _ x hx, mkB_has _ x hx]
  by_cases e1 : x < b
  · simp [e1, show x < b + n + 1 by omega, show ¬ b ≤ x by omega]
  · by_cases e2 : x < b + n
    · simp [h1 x (by omega) e2, show b ≤ x by omega, show x ≤ b + n - 1 by omega, show x < b + n + 1 by omega]
    · by_cases e3 : x = b + n
      · subst e3
        simp [h2 hx]
        omega
      · simp [e1, show ¬ x < b + n + 1 by omega]
        omega
theorem lowB_skip {S : W4} {b : Nat} (h : b < 256 → hasB S b = false) : lowB S b = lowB S (b + 1) := by
  unfold lowB
  refine mkB_congr fun x hx => ?_
  by_cases e : x = b
  · subst e; simp [h hx]
  · congr 1
    rw [decide_eq_decide]
    omega

end Go.Proofs.Ytgbecehggdkkmaa
namespace Go.Proofs.Ytgbecehggdkkmaa

theorem alone_head (b : Nat) (h : b < 256) (r : Txt) (x : UInt8) (hx : leftC x = true) : (aloneL b tellC ++ r).head? ≠ some x := by
  obtain ⟨c, q, e, hc⟩ := headC b h
  rw [e]
  intro h'
  simp at h'
  subst h'
  rw [hx] at hc
  cases hc
theorem alone_len (b : Nat) (h : b < 256) : 0 < (aloneL b tellC).length := by
  obtain ⟨c, q, e, hc⟩ := headC b h
  rw [e]; simp
theorem item_one {n : Nat} {first : Bool} {acc : W4} {b : Nat} (hb : b < 256) {r : Txt} (hr : r.head? ≠ some 45) : itemsF (n + 1) first acc (aloneL b tellC ++ r) = itemsF n false (orB acc (spanB b b)) r := by
  have h1 : ((aloneL b tellC ++ r).head? == some 93) = false := beq_eq_false_iff_ne.2 (alone_head b hb r 93 (by decide))
  have h2 : (r.head? == some 45) = false := beq_eq_false_iff_ne.2 hr
  rw [itemsF, h1, aloneC b hb r]
  simp [h2]
theorem item_two {n : Nat} {first : Bool} {acc : W4} {a b : Nat} (ha : a < 256) (hb : b < 256) (hab : a ≤ b) {r : Txt} : itemsF (n + 1) first acc (aloneL a tellC ++ (45 :: (aloneL b tellC ++ r))) = itemsF n false (orB acc (spanB a b)) r := by
  have h1 : ((aloneL a tellC ++ (45 :: (aloneL b tellC ++ r))).head? == some 93) = false := beq_eq_false_iff_ne.2 (alone_head a ha _ 93 (by decide))
  rw [itemsF, h1, aloneC a ha]
  simp [aloneC b hb r, show ¬ b < a by omega]
theorem or_span (acc : W4) (b : Nat) : orB (orB acc (spanB b b)) (spanB (b + 1) (b + 1)) = orB acc (spanB b (b + 1)) := by
  unfold orB
  refine mkB_congr fun x hx => ?_
  unfold spanB
  rw [mkB_has _ x hx, mkB_has _ x hx, mkB_has _ x hx, mkB_has _ x hx, Bool.or_assoc]
  congr 1
  rw [Bool.eq_iff_iff]
  simp
  omega
theorem runs_head (S : W4) (r : Txt) (x : UInt8) (hx : leftC x = true) (hx' : x ≠ 93) : ∀ f b, (runsL S b f ++ (93 :: r)).head? ≠ some x
  | 0, b => by intro h; simp [runsL] at h; exact hx' h.symm
  | f + 1, b => by
    unfold runsL
    by_cases hb : b < 256
    · rw [if_pos hb]
      by_cases hn : 0 < runN S b 256
      · unfold runL
        rw [if_pos hn, List.append_assoc, List.append_assoc]
        exact alone_head b hb _ x hx
      · have h0 : runN S b 256 = 0 := by omega
        rw [h0]
        exact runs_head S r x hx hx' f (b + 0 + 1)
    · rw [if_neg hb]; intro h; simp at h; exact hx' h.symm
theorem items_runs {S : W4} (hS : Fit4 S) (r : Txt) : ∀ f b n first, 256 ≤ b + f → (runsL S b f).length < n → (first = true → ∃ x, b ≤ x ∧ x < 256 ∧ hasB S x = true) → itemsF n first (lowB S b) (runsL S b f ++ (93 :: r)) = some (S, r)
  | f, b, 0, first, _, hn, _ => absurd hn (Nat.not_lt_zero _)
  | 0, b, n + 1, first, hb, hn, hf => by
    have hff : first = false := by
      cases first with
      | false => rfl
      | true => obtain ⟨x, h1, h2, _⟩ := hf rfl; omega
    subst hff
    simp [runsL, itemsF, lowB_all hS b (by omega)]
  | f + 1, b, n + 1, first, hb, hn, hf => by
    by_cases hlt : b < 256
    · have e : runsL S b (f + 1) = runL b (runN S b 256) ++ runsL S (b + runN S b 256 + 1) f := by rw [runsL, if_pos hlt]
      have hin := runN_in S 256 b
      have hend := runN_end S 256 b (by omega)
      rw [e] at hn ⊢
      generalize hk : runN S b 256 = k at hin hend hn
      have hle : 0 < k → b + k ≤ 256 := fun h0 => by have := (hin (b + k - 1) (by omega) (by omega)).1; omega
      by_cases h0 : k = 0
      · subst h0
        have hno : hasB S b = false := by simpa using hend (by omega)
        rw [lowB_skip fun _ => hno]
        have hL : runL b 0 = [] := by simp [runL]
        rw [hL, List.nil_append, Nat.add_zero] at hn ⊢
        exact items_runs hS r f (b + 1) (n + 1) first (by omega) hn fun h => by
          obtain ⟨x, h1, h2, h3⟩ := hf h
          refine ⟨x, ?_, h2, h3⟩
          rcases Nat.lt_or_ge b x with h' | h'
          · exact h'
          · have : x = b := by omega
            subst this
            rw [hno] at h3; cases h3
      · have hk0 : 0 < k := by omega
        have hlow := lowB_run (S := S) (b := b) (n := k) (fun x h1 h2 => (hin x h1 h2).2) hend hk0
        have hhd := runs_head S r 45 (by decide) (by decide) f (b + k + 1)
        have hal := alone_len b hlt
        have hbk := hle hk0
        by_cases h1 : k = 1
        · subst h1
          have hL : runL b 1 = aloneL b tellC := by simp [runL]
          rw [hL] at hn ⊢
          rw [List.append_assoc, item_one hlt hhd]
          rw [show b + 1 - 1 = b by omega] at hlow
          rw [hlow]
          exact items_runs hS r f (b + 1 + 1) n false (by omega) (by rw [List.length_append] at hn; omega) fun h => (by cases h)
        · by_cases h2 : k = 2
          · subst h2
            have hL : runL b 2 = aloneL b tellC ++ aloneL (b + 1) tellC := by simp [runL]
            rw [hL] at hn ⊢
            have hal2 := alone_len (b + 1) (by omega)
            rw [List.length_append, List.length_append] at hn
            rw [List.append_assoc, List.append_assoc, item_one hlt (alone_head (b + 1) (by omega) _ 45 (by decide))]
            obtain ⟨n', rfl⟩ : ∃ n', n = n' + 1 := ⟨n - 1, by omega⟩
            rw [item_one (by omega) hhd, or_span]
            rw [show b + 2 - 1 = b + 1 by omega] at hlow
            rw [hlow]
            exact items_runs hS r f (b + 2 + 1) n' false (by omega) (by omega) fun h => (by cases h)
          · have hL : runL b k = aloneL b tellC ++ (45 :: aloneL (b + k - 1) tellC) := by simp [runL, hk0, show 2 < k by omega, show 1 < k by omega]
            rw [hL] at hn ⊢
            rw [List.length_append, List.length_append] at hn
            rw [show aloneL b tellC ++ (45 :: aloneL (b + k - 1) tellC) ++ runsL S (b + k + 1) f ++ (93 :: r) = aloneL b tellC ++ (45 :: (aloneL (b + k - 1) tellC ++ (runsL S (b + k + 1) f ++ (93 :: r)))) by simp]
            rw [item_two hlt (by omega) (by omega), hlow]
            exact items_runs hS r f (b + k + 1) n false (by omega) (by omega) fun h => (by cases h)
    · have hff : first = false := by
        cases first with
        | false => rfl
        | true => obtain ⟨x, h1, h2, _⟩ := hf rfl; omega
      subst hff
      simp [runsL, hlt, itemsF, lowB_all hS b (by omega)]
theorem some_has {S : W4} (hS : Fit4 S) (h : S ≠ noneB) : ∃ x, x < 256 ∧ hasB S x = true := by
  rcases Classical.em (∃ x, x < 256 ∧ hasB S x = true) with h' | h'
  · exact h'
  · exfalso
    apply h
    refine set_ext hS noneB_fit fun x hx => ?_
    rw [noneB_has]
    cases e : hasB S x with
    | false => rfl
    | true => exact absurd ⟨x, hx, e⟩ h'
theorem class_runs {S : W4} (hS : Fit4 S) (h : S ≠ noneB) (r : Txt) (n : Nat) (hn : (runsL S 0 257).length < n) : classF n (runsL S 0 257 ++ (93 :: r)) = some (S, r) := by
  have h1 : ((runsL S 0 257 ++ (93 :: r)).head? == some 94) = false := beq_eq_false_iff_ne.2 (runs_head S r 94 (by decide) (by decide) 257 0)
  obtain ⟨x, hx, hh⟩ := some_has hS h
  have h2 := items_runs hS r 257 0 n true (by omega) hn fun _ => ⟨x, Nat.zero_le _, hx, hh⟩
  rw [lowB_zero] at h2
  unfold classF
  rw [h1, h2]
  simp [h]

end Go.Proofs.Ytgbecehggdkkmaa
