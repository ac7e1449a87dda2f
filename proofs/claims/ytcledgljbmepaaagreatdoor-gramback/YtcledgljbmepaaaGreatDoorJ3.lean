/- The least byte of a set; the chapter's example. A set as it is told, and as it is read. What is told of a set is read to that set. A rule's text, read. -/
import Derived.Test.YtcledgljbmepaaaGreatDoorJ2
import Derived.Test.YtcledgljbmepaaaGreatDoorJ1
import Derived.Lib.TrailingZeros
namespace Go.Proofs.YtcledgljbmepaaaGreatDoor

theorem leastFrom_at (S : W4) (m : Nat) (hm : hasB S m = true) : ∀ n k, k ≤ m → m < k + n → (∀ x, k ≤ x → x < m → hasB S x = false) → leastFrom S k n = (m : Int)
  | 0, k, h1, h2, _ => absurd h2 (by omega)
  | n + 1, k, h1, h2, h3 => by
    rw [leastFrom_succ]
    by_cases e : k = m
    · subst e; rw [hm]; simp
    · rw [h3 k (Nat.le_refl _) (by omega)]
      simp only [Bool.false_eq_true, if_false]
      exact leastFrom_at S m hm n (k + 1) (by omega) (by omega) fun x hx hxm => h3 x (by omega) hxm
theorem least_at {S : W4} {m : Nat} (hm : hasB S m = true) (h : m < 256) (hlow : ∀ x, x < m → hasB S x = false) : leastB S = (m : Int) := by
  rw [leastB_eq]
  exact leastFrom_at S m hm 256 0 (by omega) (by omega) fun x _ hx => hlow x hx
theorem leastFrom_none (S : W4) : ∀ n k, (∀ x, k ≤ x → x < k + n → hasB S x = false) → leastFrom S k n = -1
  | 0, k, _ => leastFrom_zero S k
  | n + 1, k, h => by
    rw [leastFrom_succ, h k (Nat.le_refl _) (by omega)]
    simp only [Bool.false_eq_true, if_false]
    exact leastFrom_none S n (k + 1) fun x hx hxn => h x (by omega) (by omega)
theorem least_none {S : W4} (h : ∀ x, x < 256 → hasB S x = false) : leastB S = -1 := by
  rw [leastB_eq]
  exact leastFrom_none S 256 0 fun x _ hx => h x (by omega)

theorem ctz_bits {x : Nat} (h0 : x ≠ 0) (hx : x < 18446744073709551616) : Lib.ctz 64 x < 64 ∧ x.testBit (Lib.ctz 64 x) = true ∧ ∀ j, j < Lib.ctz 64 x → x.testBit j = false := by
  obtain ⟨hlow, hlt⟩ := Lib.lowest_bit 64 x h0 hx
  refine ⟨hlt, ?_, fun j hj => ?_⟩
  · have h1 : (x &&& (2 ^ 64 - x)).testBit (Lib.ctz 64 x) = true := by rw [hlow, Nat.testBit_two_pow_self]
    rw [Nat.testBit_and, Bool.and_eq_true] at h1
    exact h1.1
  · obtain ⟨m, hm, _⟩ := Lib.ctzFrom_spec 64 x (by omega) hx
    have e : Lib.ctz 64 x = Lib.ctzFrom 64 x := by simp [Lib.ctz, h0]
    rw [e] at hj
    generalize Lib.ctzFrom 64 x = t at hm hj
    rw [hm, Nat.testBit_two_pow_mul]
    simp; omega
theorem least_word {S : W4} (hS : Fit4 S) (i : Nat) (hi : i < 4) (h0 : S.w i ≠ 0) (hlow : ∀ k, k < i → S.w k = 0) : leastB S = ((64 * i + Lib.ctz 64 (S.w i) : Nat) : Int) := by
  obtain ⟨h1, h2, h3⟩ := ctz_bits h0 (hS.w i)
  refine least_at ?_ (by omega) fun x hx => ?_
  · unfold hasB
    rw [show (64 * i + Lib.ctz 64 (S.w i)) / 64 = i by omega, show (64 * i + Lib.ctz 64 (S.w i)) % 64 = Lib.ctz 64 (S.w i) by omega]
    exact h2
  · unfold hasB
    by_cases e : x / 64 < i
    · rw [hlow _ e, Nat.zero_testBit]
    · have e1 : x / 64 = i := by omega
      rw [e1]
      exact h3 _ (by omega)
theorem least_zero {S : W4} (h : ∀ k, k < 4 → S.w k = 0) : leastB S = -1 :=
  least_none fun x hx => by unfold hasB; rw [h _ (by omega), Nat.zero_testBit]

end Go.Proofs.YtcledgljbmepaaaGreatDoor
namespace Go.Proofs.YtcledgljbmepaaaGreatDoor

/-- the items of a class, up to its ] -/
def itemsF : Nat → Bool → W4 → Txt → Option (W4 × Txt)
  | 0, _, _, _ => none
  | n + 1, first, acc, s =>
    if !first && s.head? == some 93 then some (acc, s.tail) else
    match signF leftC s with
    | none => none
    | some (a, s1) =>
      if s1.head? == some 45 then
        match signF leftC s1.tail with
        | none => none
        | some (b, s2) => if b < a then none else itemsF n false (orB acc (spanB a b)) s2
      else itemsF n false (orB acc (spanB a a)) s1
/-- of a class, behind its [ -/
def classF (n : Nat) (s : Txt) : Option (W4 × Txt) :=
  if s.head? == some 94 then
    match itemsF n true noneB s.tail with
    | none => none
    | some (S, r) => if notB S = noneB then none else some (notB S, r)
  else
    match itemsF n true noneB s with
    | none => none
    | some (S, r) => if S = noneB then none else some (S, r)
/-- how many of the bytes from b on, one behind the other, are in it -/
def runN (S : W4) : Nat → Nat → Nat
  | _, 0 => 0
  | b, f + 1 => if b < 256 && hasB S b then runN S (b + 1) f + 1 else 0
/-- a run as it is told -/
def runL (b n : Nat) : Txt :=
  (if 0 < n then aloneL b tellC else []) ++ ((if 2 < n then [45] else []) ++ (if 1 < n then aloneL (b + n - 1) tellC else []))
/-- the runs from b on -/
def runsL (S : W4) : Nat → Nat → Txt
  | _, 0 => []
  | b, f + 1 => if b < 256 then runL b (runN S b 256) ++ runsL S (b + runN S b 256 + 1) f else []
def toldL (S : W4) : Txt :=
  if countB S = 1 then aloneL (leastB S).toNat tellA
  else if countB S = 255 ∧ hasB S 10 = false then [46]
  else 91 :: (runsL S 0 257 ++ [93])

theorem runN_in (S : W4) : ∀ f b x, b ≤ x → x < b + runN S b f → x < 256 ∧ hasB S x = true
  | 0, b, x, h1, h2 => by simp [runN] at h2; omega
  | f + 1, b, x, h1, h2 => by
    unfold runN at h2
    split at h2
    · rename_i h
      simp only [Bool.and_eq_true, decide_eq_true_eq] at h
      by_cases e : x = b
      · subst e; exact h
      · exact runN_in S f (b + 1) x (by omega) (by omega)
    · omega
theorem runN_end (S : W4) : ∀ f b, 256 ≤ b + f → b + runN S b f < 256 → hasB S (b + runN S b f) = false
  | 0, b, h1, h2 => by simp [runN] at h2; omega
  | f + 1, b, h1, h2 => by
    unfold runN at h2 ⊢
    split
    · rename_i h
      rw [if_pos h] at h2
      have := runN_end S f (b + 1) (by omega) (by omega)
      rwa [show b + (runN S (b + 1) f + 1) = b + 1 + runN S (b + 1) f by omega]
    · rename_i h
      rw [if_neg h] at h2
      simp only [Bool.and_eq_true, decide_eq_true_eq, not_and] at h
      simpa using h (by omega)
/-- the bytes of S below b -/
def lowB (S : W4) (b : Nat) : W4 := mkB fun x => decide (x < b) && hasB S x
theorem lowB_zero (S : W4) : lowB S 0 = noneB := (mkB_eq noneB_fit fun x _ => by rw [noneB_has]; simp).symm
theorem lowB_all {S : W4} (hS : Fit4 S) (b : Nat) (h : 256 ≤ b) : lowB S b = S := (mkB_eq hS fun x hx => by simp; omega).symm
theorem lowB_run {S : W4} {b n : Nat} (h1 : ∀ x, b ≤ x → x < b + n → hasB S x = true) (h2 : b + n < 256 → hasB S (b + n) = false) (hn : 0 < n) : orB (lowB S b) (spanB b (b + n - 1)) = lowB S (b + n + 1) := by
  unfold orB
  conv => rhs; unfold lowB
  refine mkB_congr fun x hx => ?_
  unfold lowB spanB
  rw [mkB_has _ x hx, mkB_has _ x hx]
  by_cases e1 : x < b
  · simp [e1, show x < b + n + 1 by omega, show ¬ b ≤ x by omega]
  · by_cases e2 : x < b + n
    · simp [h1 x (by omega) e2, show b ≤ x by omega, show x ≤ b + n - 1 by omega, show x < b + n + 1 by omega]
    · by_cases e3 : x = b + n
      · subst e3
        simp [h2 hx]
        omega
      · simp [e1, show ¬ x < b + n + 1 by omega]
        omega
theorem lowB_skip {S : W4} {b : Nat} (h : b < 256 → hasB S b = false) : lowB S b = lowB S (b + 1) := by
  unfold lowB
  refine mkB_congr fun x hx => ?_
  by_cases e : x = b
  · subst e; simp [h hx]
  · congr 1
    rw [decide_eq_decide]
    omega

end Go.Proofs.YtcledgljbmepaaaGreatDoor
namespace Go.Proofs.YtcledgljbmepaaaGreatDoor

theorem alone_head (b : Nat) (h : b < 256) (r : Txt) (x : UInt8) (hx : leftC x = true) : (aloneL b tellC ++ r).head? ≠ some x := by
  obtain ⟨c, q, e, hc⟩ := headC b h
  rw [e]
  intro h'
  simp at h'
  subst h'
  rw [hx] at hc
  cases hc
theorem alone_len (b : Nat) (h : b < 256) : 0 < (aloneL b tellC).length := by
  obtain ⟨c, q, e, hc⟩ := headC b h
  rw [e]; simp
theorem item_one {n : Nat} {first : Bool} {acc : W4} {b : Nat} (hb : b < 256) {r : Txt} (hr : r.head? ≠ some 45) : itemsF (n + 1) first acc (aloneL b tellC ++ r) = itemsF n false (orB acc (spanB b b)) r := by
  have h1 : ((aloneL b tellC ++ r).head? == some 93) = false := beq_eq_false_iff_ne.2 (alone_head b hb r 93 (by decide))
  have h2 : (r.head? == some 45) = false := beq_eq_false_iff_ne.2 hr
  rw [itemsF, h1, aloneC b hb r]
  simp [h2]
theorem item_two {n : Nat} {first : Bool} {acc : W4} {a b : Nat} (ha : a < 256) (hb : b < 256) (hab : a ≤ b) {r : Txt} : itemsF (n + 1) first acc (aloneL a tellC ++ (45 :: (aloneL b tellC ++ r))) = itemsF n false (orB acc (spanB a b)) r := by
  have h1 : ((aloneL a tellC ++ (45 :: (aloneL b tellC ++ r))).head? == some 93) = false := beq_eq_false_iff_ne.2 (alone_head a ha _ 93 (by decide))
  rw [itemsF, h1, aloneC a ha]
  simp [aloneC b hb r, show ¬ b < a by omega]
theorem or_span (acc : W4) (b : Nat) : orB (orB acc (spanB b b)) (spanB (b + 1) (b + 1)) = orB acc (spanB b (b + 1)) := by
  unfold orB
  refine mkB_congr fun x hx => ?_
  unfold spanB
  rw [mkB_has _ x hx, mkB_has _ x hx, mkB_has _ x hx, mkB_has _ x hx, Bool.or_assoc]
  congr 1
  rw [Bool.eq_iff_iff]
  simp
  omega
theorem runs_head (S : W4) (r : Txt) (x : UInt8) (hx : leftC x = true) (hx' : x ≠ 93) : ∀ f b, (runsL S b f ++ (93 :: r)).head? ≠ some x
  | 0, b => by intro h; simp [runsL] at h; exact hx' h.symm
  | f + 1, b => by
    unfold runsL
    by_cases hb : b < 256
    · rw [if_pos hb]
      by_cases hn : 0 < runN S b 256
      · unfold runL
        rw [if_pos hn, List.append_assoc, List.append_assoc]
        exact alone_head b hb _ x hx
      · have h0 : runN S b 256 = 0 := by omega
        rw [h0]
        exact runs_head S r x hx hx' f (b + 0 + 1)
    · rw [if_neg hb]; intro h; simp at h; exact hx' h.symm
theorem items_runs {S : W4} (hS : Fit4 S) (r : Txt) : ∀ f b n first, 256 ≤ b + f → (runsL S b f).length < n → (first = true → ∃ x, b ≤ x ∧ x < 256 ∧ hasB S x = true) → itemsF n first (lowB S b) (runsL S b f ++ (93 :: r)) = some (S, r)
  | f, b, 0, first, _, hn, _ => absurd hn (Nat.not_lt_zero _)
  | 0, b, n + 1, first, hb, hn, hf => by
    have hff : first = false := by
      cases first with
      | false => rfl
      | true => obtain ⟨x, h1, h2, _⟩ := hf rfl; omega
    subst hff
    simp [runsL, itemsF, lowB_all hS b (by omega)]
  | f + 1, b, n + 1, first, hb, hn, hf => by
    by_cases hlt : b < 256
    · have e : runsL S b (f + 1) = runL b (runN S b 256) ++ runsL S (b + runN S b 256 + 1) f := by rw [runsL, if_pos hlt]
      have hin := runN_in S 256 b
      have hend := runN_end S 256 b (by omega)
      rw [e] at hn ⊢
      generalize hk : runN S b 256 = k at hin hend hn
      have hle : 0 < k → b + k ≤ 256 := fun h0 => by have := (hin (b + k - 1) (by omega) (by omega)).1; omega
      by_cases h0 : k = 0
      · subst h0
        have hno : hasB S b = false := by simpa using hend (by omega)
        rw [lowB_skip fun _ => hno]
        have hL : runL b 0 = [] := by simp [runL]
        rw [hL, List.nil_append, Nat.add_zero] at hn ⊢
        exact items_runs hS r f (b + 1) (n + 1) first (by omega) hn fun h => by
          obtain ⟨x, h1, h2, h3⟩ := hf h
          refine ⟨x, ?_, h2, h3⟩
          rcases Nat.lt_or_ge b x with h' | h'
          · exact h'
          · have : x = b := by omega
            subst this
            rw [hno] at h3; cases h3
      · have hk0 : 0 < k := by omega
        have hlow := lowB_run (S := S) (b := b) (n := k) (fun x h1 h2 => (hin x h1 h2).2) hend hk0
        have hhd := runs_head S r 45 (by decide) (by decide) f (b + k + 1)
        have hal := alone_len b hlt
        have hbk := hle hk0
        by_cases h1 : k = 1
        · subst h1
          have hL : runL b 1 = aloneL b tellC := by simp [runL]
          rw [hL] at hn ⊢
          rw [List.append_assoc, item_one hlt hhd]
          rw [show b + 1 - 1 = b by omega] at hlow
          rw [hlow]
          exact items_runs hS r f (b + 1 + 1) n false (by omega) (by rw [List.length_append] at hn; omega) fun h => (by cases h)
        · by_cases h2 : k = 2
          · subst h2
            have hL : runL b 2 = aloneL b tellC ++ aloneL (b + 1) tellC := by simp [runL]
            rw [hL] at hn ⊢
            have hal2 := alone_len (b + 1) (by omega)
            rw [List.length_append, List.length_append] at hn
            rw [List.append_assoc, List.append_assoc, item_one hlt (alone_head (b + 1) (by omega) _ 45 (by decide))]
            obtain ⟨n', rfl⟩ : ∃ n', n = n' + 1 := ⟨n - 1, by omega⟩
            rw [item_one (by omega) hhd, or_span]
            rw [show b + 2 - 1 = b + 1 by omega] at hlow
            rw [hlow]
            exact items_runs hS r f (b + 2 + 1) n' false (by omega) (by omega) fun h => (by cases h)
          · have hL : runL b k = aloneL b tellC ++ (45 :: aloneL (b + k - 1) tellC) := by simp [runL, hk0, show 2 < k by omega, show 1 < k by omega]
            rw [hL] at hn ⊢
            rw [List.length_append, List.length_append] at hn
            rw [show aloneL b tellC ++ (45 :: aloneL (b + k - 1) tellC) ++ runsL S (b + k + 1) f ++ (93 :: r) = aloneL b tellC ++ (45 :: (aloneL (b + k - 1) tellC ++ (runsL S (b + k + 1) f ++ (93 :: r)))) by simp]
            rw [item_two hlt (by omega) (by omega), hlow]
            exact items_runs hS r f (b + k + 1) n false (by omega) (by omega) fun h => (by cases h)
    · have hff : first = false := by
        cases first with
        | false => rfl
        | true => obtain ⟨x, h1, h2, _⟩ := hf rfl; omega
      subst hff
      simp [runsL, hlt, itemsF, lowB_all hS b (by omega)]
theorem some_has {S : W4} (hS : Fit4 S) (h : S ≠ noneB) : ∃ x, x < 256 ∧ hasB S x = true := by
  rcases Classical.em (∃ x, x < 256 ∧ hasB S x = true) with h' | h'
  · exact h'
  · exfalso
    apply h
    refine set_ext hS noneB_fit fun x hx => ?_
    rw [noneB_has]
    cases e : hasB S x with
    | false => rfl
    | true => exact absurd ⟨x, hx, e⟩ h'
theorem class_runs {S : W4} (hS : Fit4 S) (h : S ≠ noneB) (r : Txt) (n : Nat) (hn : (runsL S 0 257).length < n) : classF n (runsL S 0 257 ++ (93 :: r)) = some (S, r) := by
  have h1 : ((runsL S 0 257 ++ (93 :: r)).head? == some 94) = false := beq_eq_false_iff_ne.2 (runs_head S r 94 (by decide) (by decide) 257 0)
  obtain ⟨x, hx, hh⟩ := some_has hS h
  have h2 := items_runs hS r 257 0 n true (by omega) hn fun _ => ⟨x, Nat.zero_le _, hx, hh⟩
  rw [lowB_zero] at h2
  unfold classF
  rw [h1, h2]
  simp [h]

end Go.Proofs.YtcledgljbmepaaaGreatDoor
namespace Go.Proofs.YtcledgljbmepaaaGreatDoor

/-- the * + ? behind an atom -/
def starsF : Rx → Txt → Rx × Txt
  | t, [] => (t, [])
  | t, c :: r => if c = 42 then starsF (.star t) r else if c = 43 then starsF (.plus t) r else if c = 63 then starsF (.opt t) r else (t, c :: r)
def rowEnd (s : Txt) : Bool := s.isEmpty || s.head? == some 124 || s.head? == some 41
mutual
def atomF : Nat → Txt → Option (Rx × Txt)
  | 0, _ => none
  | _ + 1, [] => none
  | n + 1, c :: r =>
    if c = 40 then
      if r.head? == some 41 then some (.eps, r.tail) else
      match rowsF n r with
      | some (t, q) => if q.head? == some 41 then some (t, q.tail) else none
      | none => none
    else if c = 46 then some (.set (notB (spanB 10 10)), r)
    else if c = 91 then
      match classF (r.length + 1) r with
      | some (S, q) => some (.set S, q)
      | none => none
    else match signF leftA (c :: r) with
      | some (b, q) => some (.set (spanB b b), q)
      | none => none
def rowF : Nat → Txt → Option (Rx × Txt)
  | 0, _ => none
  | n + 1, s => match atomF n s with
    | some (t, q) => moreF n (starsF t q).1 (starsF t q).2
    | none => none
def moreF : Nat → Rx → Txt → Option (Rx × Txt)
  | 0, _, _ => none
  | n + 1, acc, s => if rowEnd s then some (acc, s) else match atomF n s with
    | some (t, q) => moreF n (.cat acc (starsF t q).1) (starsF t q).2
    | none => none
def rowsF : Nat → Txt → Option (Rx × Txt)
  | 0, _ => none
  | n + 1, s => match rowF n s with
    | some (t, q) => orsF n t q
    | none => none
def orsF : Nat → Rx → Txt → Option (Rx × Txt)
  | 0, _, _ => none
  | n + 1, acc, s => if s.head? == some 124 then
      match rowF n s.tail with
      | some (t, q) => orsF n (.or acc t) q
      | none => none
    else some (acc, s)
end

theorem stars_le : ∀ (s : Txt) (t : Rx), (starsF t s).2.length ≤ s.length
  | [], t => by simp [starsF]
  | c :: r, t => by
    unfold starsF
    split
    · have := stars_le r (.star t); simp; omega
    split
    · have := stars_le r (.plus t); simp; omega
    split
    · have := stars_le r (.opt t); simp; omega
    · exact Nat.le_refl _
theorem items_le : ∀ (n : Nat) (first : Bool) (acc : W4) (s : Txt) (S : W4) (q : Txt), itemsF n first acc s = some (S, q) → q.length ≤ s.length
  | 0, _, _, _, _, _, h => by simp [itemsF] at h
  | n + 1, first, acc, s, S, q, h => by
    unfold itemsF at h
    split at h
    · injection h with h; injection h with _ h; subst h; simp
    split at h
    · cases h
    rename_i a s1 hs
    have h1 := signF_lt hs
    split at h
    · split at h
      · cases h
      rename_i b s2 hs2
      have h2 := signF_lt hs2
      have h3 : s1.tail.length ≤ s1.length := by simp
      split at h
      · cases h
      · have := items_le n _ _ _ _ _ h; omega
    · have := items_le n _ _ _ _ _ h; omega
theorem class_le {n : Nat} {s : Txt} {S : W4} {q : Txt} (h : classF n s = some (S, q)) : q.length ≤ s.length := by
  unfold classF at h
  split at h
  · split at h
    · cases h
    rename_i S' r hi
    have := items_le _ _ _ _ _ _ hi
    have h3 : s.tail.length ≤ s.length := by simp
    split at h
    · cases h
    · injection h with h; injection h with _ h; subst h; omega
  · split at h
    · cases h
    rename_i S' r hi
    have := items_le _ _ _ _ _ _ hi
    split at h
    · cases h
    · injection h with h; injection h with _ h; subst h; omega
/-- what is left is shorter -/
theorem parse_lt : ∀ n, (∀ s t q, atomF n s = some (t, q) → q.length < s.length) ∧ (∀ s t q, rowF n s = some (t, q) → q.length < s.length) ∧ (∀ a s t q, moreF n a s = some (t, q) → q.length ≤ s.length) ∧ (∀ s t q, rowsF n s = some (t, q) → q.length < s.length) ∧ (∀ a s t q, orsF n a s = some (t, q) → q.length ≤ s.length)
  | 0 => ⟨fun _ _ _ h => by simp [atomF] at h, fun _ _ _ h => by simp [rowF] at h, fun _ _ _ _ h => by simp [moreF] at h, fun _ _ _ h => by simp [rowsF] at h, fun _ _ _ _ h => by simp [orsF] at h⟩
  | n + 1 => by
    obtain ⟨iA, iR, iM, iS, iO⟩ := parse_lt n
    refine ⟨fun s t q h => ?_, fun s t q h => ?_, fun a s t q h => ?_, fun s t q h => ?_, fun a s t q h => ?_⟩
    · cases s with
      | nil => simp [atomF] at h
      | cons c r =>
        rw [atomF] at h
        split at h
        · split at h
          · injection h with h; injection h with _ h; subst h; simp; omega
          split at h
          · rename_i t' q' hr
            have := iS _ _ _ hr
            have h3 : q'.tail.length ≤ q'.length := by simp
            split at h
            · injection h with h; injection h with _ h; subst h; simp only [List.length_cons]; omega
            · cases h
          · cases h
        split at h
        · injection h with h; injection h with _ h; subst h; simp
        split at h
        · split at h
          · rename_i S q' hc
            have := class_le hc
            injection h with h; injection h with _ h; subst h; simp only [List.length_cons]; omega
          · cases h
        split at h
        · rename_i b q' hs
          have := signF_lt hs
          injection h with h; injection h with _ h; subst h; exact this
        · cases h
    · rw [rowF] at h
      split at h
      · rename_i t' q' ha
        have h1 := iA _ _ _ ha
        have h2 := iM _ _ _ _ h
        have h3 := stars_le q' t'
        omega
      · cases h
    · rw [moreF] at h
      split at h
      · injection h with h; injection h with _ h; subst h; exact Nat.le_refl _
      split at h
      · rename_i t' q' ha
        have h1 := iA _ _ _ ha
        have h2 := iM _ _ _ _ h
        have h3 := stars_le q' t'
        omega
      · cases h
    · rw [rowsF] at h
      split at h
      · rename_i t' q' ha
        have h1 := iR _ _ _ ha
        have h2 := iO _ _ _ _ h
        omega
      · cases h
    · rw [orsF] at h
      split at h
      · split at h
        · rename_i t' q' ha
          have h1 := iR _ _ _ ha
          have h2 := iO _ _ _ _ h
          have h3 : s.tail.length ≤ s.length := by simp
          omega
        · cases h
      · injection h with h; injection h with _ h; subst h; exact Nat.le_refl _
/-- enough is enough -/
theorem fuel : ∀ n, (∀ s, 3 * s.length + 1 ≤ n → atomF n s = atomF (n + 1) s) ∧ (∀ s, 3 * s.length + 2 ≤ n → rowF n s = rowF (n + 1) s) ∧ (∀ a s, 3 * s.length + 2 ≤ n → moreF n a s = moreF (n + 1) a s) ∧ (∀ s, 3 * s.length + 3 ≤ n → rowsF n s = rowsF (n + 1) s) ∧ (∀ a s, 3 * s.length + 3 ≤ n → orsF n a s = orsF (n + 1) a s)
  | 0 => ⟨fun _ h => by omega, fun _ h => by omega, fun _ _ h => by omega, fun _ h => by omega, fun _ _ h => by omega⟩
  | n + 1 => by
    obtain ⟨iA, iR, iM, iS, iO⟩ := fuel n
    obtain ⟨lA, lR, lM, lS, lO⟩ := parse_lt n
    refine ⟨fun s h => ?_, fun s h => ?_, fun a s h => ?_, fun s h => ?_, fun a s h => ?_⟩
    · cases s with
      | nil => simp [atomF]
      | cons c r =>
        simp only [List.length_cons] at h
        rw [atomF, atomF, iS r (by omega)]
    · rw [rowF, rowF, ← iA s (by omega)]
      cases e : atomF n s with
      | none => rfl
      | some x =>
        obtain ⟨t, q⟩ := x
        have h1 := lA _ _ _ e
        have h2 := stars_le q t
        exact iM _ _ (by omega)
    · rw [moreF, moreF, ← iA s (by omega)]
      split
      · rfl
      cases e : atomF n s with
      | none => rfl
      | some x =>
        obtain ⟨t, q⟩ := x
        have h1 := lA _ _ _ e
        have h2 := stars_le q t
        exact iM _ _ (by omega)
    · rw [rowsF, rowsF, ← iR s (by omega)]
      cases e : rowF n s with
      | none => rfl
      | some x =>
        obtain ⟨t, q⟩ := x
        have h1 := lR _ _ _ e
        exact iO _ _ (by omega)
    · rw [orsF, orsF]
      cases s with
      | nil => rfl
      | cons c r =>
        simp only [List.length_cons] at h
        split
        · rw [List.tail_cons, ← iR r (by omega)]
          cases e : rowF n r with
          | none => rfl
          | some x =>
            obtain ⟨t, q⟩ := x
            have h1 := lR _ _ _ e
            exact iO _ _ (by omega)
        · rfl

theorem fuel_more {n m : Nat} (h : n ≤ m) : (∀ s, 3 * s.length + 1 ≤ n → atomF n s = atomF m s) ∧ (∀ s, 3 * s.length + 2 ≤ n → rowF n s = rowF m s) ∧ (∀ a s, 3 * s.length + 2 ≤ n → moreF n a s = moreF m a s) ∧ (∀ s, 3 * s.length + 3 ≤ n → rowsF n s = rowsF m s) ∧ (∀ a s, 3 * s.length + 3 ≤ n → orsF n a s = orsF m a s) := by
  induction h with
  | refl => exact ⟨fun _ _ => rfl, fun _ _ => rfl, fun _ _ _ => rfl, fun _ _ => rfl, fun _ _ _ => rfl⟩
  | step hm ih =>
    rename_i m
    have hm' : n ≤ m := hm
    obtain ⟨iA, iR, iM, iS, iO⟩ := ih
    obtain ⟨fA, fR, fM, fS, fO⟩ := fuel m
    exact ⟨fun s h => (iA s h).trans (fA s (by omega)), fun s h => (iR s h).trans (fR s (by omega)), fun a s h => (iM a s h).trans (fM a s (by omega)), fun s h => (iS s h).trans (fS s (by omega)), fun a s h => (iO a s h).trans (fO a s (by omega))⟩
/-- the readings, without fuel -/
def atomP (s : Txt) : Option (Rx × Txt) := atomF (3 * s.length + 3) s
def rowP (s : Txt) : Option (Rx × Txt) := rowF (3 * s.length + 3) s
def moreP (a : Rx) (s : Txt) : Option (Rx × Txt) := moreF (3 * s.length + 3) a s
def rowsP (s : Txt) : Option (Rx × Txt) := rowsF (3 * s.length + 3) s
def orsP (a : Rx) (s : Txt) : Option (Rx × Txt) := orsF (3 * s.length + 3) a s
theorem atomP_at {s : Txt} {n : Nat} (h : 3 * s.length + 1 ≤ n) : atomF n s = atomP s := by
  rcases Nat.le_total n (3 * s.length + 3) with h' | h'
  · exact (fuel_more h').1 s h
  · exact ((fuel_more h').1 s (by omega)).symm
theorem rowP_at {s : Txt} {n : Nat} (h : 3 * s.length + 2 ≤ n) : rowF n s = rowP s := by
  rcases Nat.le_total n (3 * s.length + 3) with h' | h'
  · exact (fuel_more h').2.1 s h
  · exact ((fuel_more h').2.1 s (by omega)).symm
theorem moreP_at {a : Rx} {s : Txt} {n : Nat} (h : 3 * s.length + 2 ≤ n) : moreF n a s = moreP a s := by
  rcases Nat.le_total n (3 * s.length + 3) with h' | h'
  · exact (fuel_more h').2.2.1 a s h
  · exact ((fuel_more h').2.2.1 a s (by omega)).symm
theorem rowsP_at {s : Txt} {n : Nat} (h : 3 * s.length + 3 ≤ n) : rowsF n s = rowsP s := ((fuel_more h).2.2.2.1 s (Nat.le_refl _)).symm
theorem orsP_at {a : Rx} {s : Txt} {n : Nat} (h : 3 * s.length + 3 ≤ n) : orsF n a s = orsP a s := ((fuel_more h).2.2.2.2 a s (Nat.le_refl _)).symm
theorem atomP_lt {s : Txt} {t : Rx} {q : Txt} (h : atomP s = some (t, q)) : q.length < s.length := (parse_lt _).1 _ _ _ h
theorem rowP_lt {s : Txt} {t : Rx} {q : Txt} (h : rowP s = some (t, q)) : q.length < s.length := (parse_lt _).2.1 _ _ _ h
theorem atomP_eq (c : UInt8) (r : Txt) : atomP (c :: r) =
    if c = 40 then
      if r.head? == some 41 then some (.eps, r.tail) else
      match rowsP r with
      | some (t, q) => if q.head? == some 41 then some (t, q.tail) else none
      | none => none
    else if c = 46 then some (.set (notB (spanB 10 10)), r)
    else if c = 91 then
      match classF (r.length + 1) r with
      | some (S, q) => some (.set S, q)
      | none => none
    else match signF leftA (c :: r) with
      | some (b, q) => some (.set (spanB b b), q)
      | none => none := by
  show atomF (3 * (r.length + 1) + 2 + 1) (c :: r) = _
  rw [atomF, rowsP_at (by omega)]
theorem rowP_eq (s : Txt) : rowP s = match atomP s with
    | some (t, q) => moreP (starsF t q).1 (starsF t q).2
    | none => none := by
  show rowF (3 * s.length + 2 + 1) s = _
  rw [rowF, atomP_at (by omega)]
  cases e : atomP s with
  | none => rfl
  | some x =>
    obtain ⟨t, q⟩ := x
    have h1 := atomP_lt e
    have h2 := stars_le q t
    exact moreP_at (by omega)
theorem moreP_eq (a : Rx) (s : Txt) : moreP a s = if rowEnd s then some (a, s) else match atomP s with
    | some (t, q) => moreP (.cat a (starsF t q).1) (starsF t q).2
    | none => none := by
  show moreF (3 * s.length + 2 + 1) a s = _
  rw [moreF, atomP_at (by omega)]
  split
  · rfl
  cases e : atomP s with
  | none => rfl
  | some x =>
    obtain ⟨t, q⟩ := x
    have h1 := atomP_lt e
    have h2 := stars_le q t
    exact moreP_at (by omega)
theorem rowsP_eq (s : Txt) : rowsP s = match rowP s with
    | some (t, q) => orsP t q
    | none => none := by
  show rowsF (3 * s.length + 2 + 1) s = _
  rw [rowsF, rowP_at (by omega)]
  cases e : rowP s with
  | none => rfl
  | some x =>
    obtain ⟨t, q⟩ := x
    have h1 := rowP_lt e
    exact orsP_at (by omega)
theorem orsP_eq (a : Rx) (s : Txt) : orsP a s = if s.head? == some 124 then
      match rowP s.tail with
      | some (t, q) => orsP (.or a t) q
      | none => none
    else some (a, s) := by
  show orsF (3 * s.length + 2 + 1) a s = _
  rw [orsF]
  cases s with
  | nil => rfl
  | cons c r =>
    split
    · rw [List.tail_cons, List.length_cons, rowP_at (by omega)]
      cases e : rowP r with
      | none => rfl
      | some x =>
        obtain ⟨t, q⟩ := x
        have h1 := rowP_lt e
        exact orsP_at (by omega)
    · rfl

end Go.Proofs.YtcledgljbmepaaaGreatDoor
