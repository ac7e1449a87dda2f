/- What is told of a set is read to that set. A rule's text, read. What is told of a rule is read to that rule. What is read is a right rule; a text in parentheses. -/
import Derived.Test.YthgbjhnknepefaaGreatJ2
namespace Go.Proofs.YthgbjhnknepefaaGreat

theorem alone_head (b : Nat) (h : b < 256) (r : Txt) (x : UInt8) (hx : leftC x = true) : (aloneL b tellC ++ r).head? ≠ some x := by
  obtain ⟨c, q, e, hc⟩ := headC b h
  rw [e]
  intro h'
  simp at h'
  subst h'
  rw [hx] at hc
  cases hc
theorem alone_len (b : Nat) (h : b < 256) : 0 < (aloneL b tellC).length := by
  obtain ⟨c, q, e, hc⟩ := headC b h
  rw [e]; simp
theorem item_one {n : Nat} {first : Bool} {acc : W4} {b : Nat} (hb : b < 256) {r : Txt} (hr : r.head? ≠ some 45) : itemsF (n + 1) first acc (aloneL b tellC ++ r) = itemsF n false (orB acc (spanB b b)) r := by
  have h1 : ((aloneL b tellC ++ r).head? == some 93) = false := beq_eq_false_iff_ne.2 (alone_head b hb r 93 (by decide))
  have h2 : (r.head? == some 45) = false := beq_eq_false_iff_ne.2 hr
  rw [itemsF, h1, aloneC b hb r]
  simp [h2]
theorem item_two {n : Nat} {first : Bool} {acc : W4} {a b : Nat} (ha : a < 256) (hb : b < 256) (hab : a ≤ b) {r : Txt} : itemsF (n + 1) first acc (aloneL a tellC ++ (45 :: (aloneL b tellC ++ r))) = itemsF n false (orB acc (spanB a b)) r := by
  have h1 : ((aloneL a tellC ++ (45 :: (aloneL b tellC ++ r))).head? == some 93) = false := beq_eq_false_iff_ne.2 (alone_head a ha _ 93 (by decide))
  rw [itemsF, h1, aloneC a ha]
  simp [aloneC b hb r, show ¬ b < a by omega]
theorem or_span (acc : W4) (b : Nat) : orB (orB acc (spanB b b)) (spanB (b + 1) (b + 1)) = orB acc (spanB b (b + 1)) := by
  unfold orB
  refine mkB_congr fun x hx => ?_
  unfold spanB
  rw [mkB_has _ x hx, mkB_has _ x hx, mkB_has _ x hx, mkB_has _ x hx, Bool.or_assoc]
  congr 1
  rw [Bool.eq_iff_iff]
  simp
  omega
theorem runs_head (S : W4) (r : Txt) (x : UInt8) (hx : leftC x = true) (hx' : x ≠ 93) : ∀ f b, (runsL S b f ++ (93 :: r)).head? ≠ some x
  | 0, b => by intro h; simp [runsL] at h; exact hx' h.symm
  | f + 1, b => by
    unfold runsL
    by_cases hb : b < 256
    · rw [if_pos hb]
      by_cases hn : 0 < runN S b 256
      · unfold runL
        rw [if_pos hn, List.append_assoc, List.append_assoc]
        exact alone_head b hb _ x hx
      · have h0 : runN S b 256 = 0 := by omega
        rw [h0]
        exact runs_head S r x hx hx' f (b + 0 + 1)
    · rw [if_neg hb]; intro h; simp at h; exact hx' h.symm
theorem items_runs {S : W4} (hS : Fit4 S) (r : Txt) : ∀ f b n first, 256 ≤ b + f → (runsL S b f).length < n → (first = true → ∃ x, b ≤ x ∧ x < 256 ∧ hasB S x = true) → itemsF n first (lowB S b) (runsL S b f ++ (93 :: r)) = some (S, r)
  | f, b, 0, first, _, hn, _ => absurd hn (Nat.not_lt_zero _)
  | 0, b, n + 1, first, hb, hn, hf => by
    have hff : first = false := by
      cases first with
      | false => rfl
      | true => obtain ⟨x, h1, h2, _⟩ := hf rfl; omega
    subst hff
    simp [runsL, itemsF, lowB_all hS b (by omega)]
  | f + 1, b, n + 1, first, hb, hn, hf => by
    by_cases hlt : b < 256
    · have e : runsL S b (f + 1) = runL b (runN S b 256) ++ runsL S (b + runN S b 256 + 1) f := by rw [runsL, if_pos hlt]
      have hin := runN_in S 256 b
      have hend := runN_end S 256 b (by omega)
      rw [e] at hn ⊢
      generalize hk : runN S b 256 = k at hin hend hn
      have hle : 0 < k → b + k ≤ 256 := fun h0 => by have := (hin (b + k - 1) (by omega) (by omega)).1; omega
      by_cases h0 : k = 0
      · subst h0
        have hno : hasB S b = false := by simpa using hend (by omega)
        rw [lowB_skip fun _ => hno]
        have hL : runL b 0 = [] := by simp [runL]
        rw [hL, List.nil_append, Nat.add_zero] at hn ⊢
        exact items_runs hS r f (b + 1) (n + 1) first (by omega) hn fun h => by
          obtain ⟨x, h1, h2, h3⟩ := hf h
          refine ⟨x, ?_, h2, h3⟩
          rcases Nat.lt_or_ge b x with h' | h'
          · exact h'
          · have : x = b := by omega
            subst this
            rw [hno] at h3; cases h3
      · have hk0 : 0 < k := by omega
        have hlow := lowB_run (S := S) (b := b) (n := k) (fun x h1 h2 => (hin x h1 h2).2) hend hk0
        have hhd := runs_head S r 45 (by decide) (by decide) f (b + k + 1)
        have hal := alone_len b hlt
        have hbk := hle hk0
        by_cases h1 : k = 1
        · subst h1
          have hL : runL b 1 = aloneL b tellC := by simp [runL]
          rw [hL] at hn ⊢
          rw [List.append_assoc, item_one hlt hhd]
          rw [show b + 1 - 1 = b by omega] at hlow
          rw [hlow]
          exact items_runs hS r f (b + 1 + 1) n false (by omega) (by rw [List.length_append] at hn; omega) fun h => (by cases h)
        · by_cases h2 : k = 2
          · subst h2
            have hL : runL b 2 = aloneL b tellC ++ aloneL (b + 1) tellC := by simp [runL]
            rw [hL] at hn ⊢
            have hal2 := alone_len (b + 1) (by omega)
            rw [List.length_append, List.length_append] at hn
            rw [List.append_assoc, List.append_assoc, item_one hlt (alone_head (b + 1) (by omega) _ 45 (by decide))]
            obtain ⟨n', rfl⟩ : ∃ n', n = n' + 1 := ⟨n - 1, by omega⟩
            rw [item_one (by omega) hhd, or_span]
            rw [show b + 2 - 1 = b + 1 by omega] at hlow
            rw [hlow]
            exact items_runs hS r f (b + 2 + 1) n' false (by omega) (by omega) fun h => (by cases h)
          · have hL : runL b k = aloneL b tellC ++ (45 :: aloneL (b + k - 1) tellC) := by simp [runL, hk0, show 2 < k by omega, show 1 < k by omega]
            rw [hL] at hn ⊢
            rw [List.length_append, List.length_append] at hn
            rw [show aloneL b tellC ++ (45 :: aloneL (b + k - 1) tellC) ++ runsL S (b + k + 1) f ++ (93 :: r) = aloneL b tellC ++ (45 :: (aloneL (b + k - 1) tellC ++ (runsL S (b + k + 1) f ++ (93 :: r)))) by simp]
            rw [item_two hlt (by omega) (by omega), hlow]
            exact items_runs hS r f (b + k + 1) n false (by omega) (by omega) fun h => (by cases h)
    · have hff : first = false := by
        cases first with
        | false => rfl
        | true => obtain ⟨x, h1, h2, _⟩ := hf rfl; omega
      subst hff
      simp [runsL, hlt, itemsF, lowB_all hS b (by omega)]
theorem some_has {S : W4} (hS : Fit4 S) (h : S ≠ noneB) : ∃ x, x < 256 ∧ hasB S x = true := by
  rcases Classical.em (∃ x, x < 256 ∧ hasB S x = true) with h' | h'
  · exact h'
  · exfalso
    apply h
    refine set_ext hS noneB_fit fun x hx => ?_
    rw [noneB_has]
    cases e : hasB S x with
    | false => rfl
    | true => exact absurd ⟨x, hx, e⟩ h'
theorem class_runs {S : W4} (hS : Fit4 S) (h : S ≠ noneB) (r : Txt) (n : Nat) (hn : (runsL S 0 257).length < n) : classF n (runsL S 0 257 ++ (93 :: r)) = some (S, r) := by
  have h1 : ((runsL S 0 257 ++ (93 :: r)).head? == some 94) = false := beq_eq_false_iff_ne.2 (runs_head S r 94 (by decide) (by decide) 257 0)
  obtain ⟨x, hx, hh⟩ := some_has hS h
  have h2 := items_runs hS r 257 0 n true (by omega) hn fun _ => ⟨x, Nat.zero_le _, hx, hh⟩
  rw [lowB_zero] at h2
  unfold classF
  rw [h1, h2]
  simp [h]

end Go.Proofs.YthgbjhnknepefaaGreat
namespace Go.Proofs.YthgbjhnknepefaaGreat

/-- the * + ? behind an atom -/
def starsF : Rx → Txt → Rx × Txt
  | t, [] => (t, [])
  | t, c :: r => if c = 42 then starsF (.star t) r else if c = 43 then starsF (.plus t) r else if c = 63 then starsF (.opt t) r else (t, c :: r)
def rowEnd (s : Txt) : Bool := s.isEmpty || s.head? == some 124 || s.head? == some 41
mutual
def atomF : Nat → Txt → Option (Rx × Txt)
  | 0, _ => none
  | _ + 1, [] => none
  | n + 1, c :: r =>
    if c = 40 then
      if r.head? == some 41 then some (.eps, r.tail) else
      match rowsF n r with
      | some (t, q) => if q.head? == some 41 then some (t, q.tail) else none
      | none => none
    else if c = 46 then some (.set (notB (spanB 10 10)), r)
    else if c = 91 then
      match classF (r.length + 1) r with
      | some (S, q) => some (.set S, q)
      | none => none
    else match signF leftA (c :: r) with
      | some (b, q) => some (.set (spanB b b), q)
      | none => none
def rowF : Nat → Txt → Option (Rx × Txt)
  | 0, _ => none
  | n + 1, s => match atomF n s with
    | some (t, q) => moreF n (starsF t q).1 (starsF t q).2
    | none => none
def moreF : Nat → Rx → Txt → Option (Rx × Txt)
  | 0, _, _ => none
  | n + 1, acc, s => if rowEnd s then some (acc, s) else match atomF n s with
    | some (t, q) => moreF n (.cat acc (starsF t q).1) (starsF t q).2
    | none => none
def rowsF : Nat → Txt → Option (Rx × Txt)
  | 0, _ => none
  | n + 1, s => match rowF n s with
    | some (t, q) => orsF n t q
    | none => none
def orsF : Nat → Rx → Txt → Option (Rx × Txt)
  | 0, _, _ => none
  | n + 1, acc, s => if s.head? == some 124 then
      match rowF n s.tail with
      | some (t, q) => orsF n (.or acc t) q
      | none => none
    else some (acc, s)
end

theorem stars_le : ∀ (s : Txt) (t : Rx), (starsF t s).2.length ≤ s.length
  | [], t => by simp [starsF]
  | c :: r, t => by
    unfold starsF
    split
    · have := stars_le r (.star t); simp; omega
    split
    · have := stars_le r (.plus t); simp; omega
    split
    · have := stars_le r (.opt t); simp; omega
    · exact Nat.le_refl _
theorem items_le : ∀ (n : Nat) (first : Bool) (acc : W4) (s : Txt) (S : W4) (q : Txt), itemsF n first acc s = some (S, q) → q.length ≤ s.length
  | 0, _, _, _, _, _, h => by simp [itemsF] at h
  | n + 1, first, acc, s, S, q, h => by
    unfold itemsF at h
    split at h
    · injection h with h; injection h with _ h; subst h; simp
    split at h
    · cases h
    rename_i a s1 hs
    have h1 := signF_lt hs
    split at h
    · split at h
      · cases h
      rename_i b s2 hs2
      have h2 := signF_lt hs2
      have h3 : s1.tail.length ≤ s1.length := by simp
      split at h
      · cases h
      · have := items_le n _ _ _ _ _ h; omega
    · have := items_le n _ _ _ _ _ h; omega
theorem class_le {n : Nat} {s : Txt} {S : W4} {q : Txt} (h : classF n s = some (S, q)) : q.length ≤ s.length := by
  unfold classF at h
  split at h
  · split at h
    · cases h
    rename_i S' r hi
    have := items_le _ _ _ _ _ _ hi
    have h3 : s.tail.length ≤ s.length := by simp
    split at h
    · cases h
    · injection h with h; injection h with _ h; subst h; omega
  · split at h
    · cases h
    rename_i S' r hi
    have := items_le _ _ _ _ _ _ hi
    split at h
    · cases h
    · injection h with h; injection h with _ h; subst h; omega
/-- what is left is shorter -/
theorem parse_lt : ∀ n, (∀ s t q, atomF n s = some (t, q) → q.length < s.length) ∧ (∀ s t q, rowF n s = some (t, q) → q.length < s.length) ∧ (∀ a s t q, moreF n a s = some (t, q) → q.length ≤ s.length) ∧ (∀ s t q, rowsF n s = some (t, q) → q.length < s.length) ∧ (∀ a s t q, orsF n a s = some (t, q) → q.length ≤ s.length)
  | 0 => ⟨fun _ _ _ h => by simp [atomF] at h, fun _ _ _ h => by simp [rowF] at h, fun _ _ _ _ h => by simp [moreF] at h, fun _ _ _ h => by simp [rowsF] at h, fun _ _ _ _ h => by simp [orsF] at h⟩
  | n + 1 => by
    obtain ⟨iA, iR, iM, iS, iO⟩ := parse_lt n
    refine ⟨fun s t q h => ?_, fun s t q h => ?_, fun a s t q h => ?_, fun s t q h => ?_, fun a s t q h => ?_⟩
    · cases s with
      | nil => simp [atomF] at h
      | cons c r =>
        rw [atomF] at h
        split at h
        · split at h
          · injection h with h; injection h with _ h; subst h; simp; omega
          split at h
          · rename_i t' q' hr
            have := iS _ _ _ hr
            have h3 : q'.tail.length ≤ q'.length := by simp
            split at h
            · injection h with h; injection h with _ h; subst h; simp only [List.length_cons]; omega
            · cases h
          · cases h
        split at h
        · injection h with h; injection h with _ h; subst h; simp
        split at h
        · split at h
          · rename_i S q' hc
            have := class_le hc
            injection h with h; injection h with _ h; subst h; simp only [List.length_cons]; omega
          · cases h
        split at h
        · rename_i b q' hs
          have := signF_lt hs
          injection h with h; injection h with _ h; subst h; exact this
        · cases h
    · rw [rowF] at h
      split at h
      · rename_i t' q' ha
        have h1 := iA _ _ _ ha
        have h2 := iM _ _ _ _ h
        have h3 := stars_le q' t'
        omega
      · cases h
    · rw [moreF] at h
      split at h
      · injection h with h; injection h with _ h; subst h; exact Nat.le_refl _
      split at h
      · rename_i t' q' ha
        have h1 := iA _ _ _ ha
        have h2 := iM _ _ _ _ h
        have h3 := stars_le q' t'
        omega
      · cases h
    · rw [rowsF] at h
      split at h
      · rename_i t' q' ha
        have h1 := iR _ _ _ ha
        have h2 := iO _ _ _ _ h
        omega
      · cases h
    · rw [orsF] at h
      split at h
      · split at h
        · rename_i t' q' ha
          have h1 := iR _ _ _ ha
          have h2 := iO _ _ _ _ h
          have h3 : s.tail.length ≤ s.length := by simp
          omega
        · cases h
      · injection h with h; injection h with _ h; subst h; exact Nat.le_refl _
/-- enough is enough -/
theorem fuel : ∀ n, (∀ s, 3 * s.length + 1 ≤ n → atomF n s = atomF (n + 1) s) ∧ (∀ s, 3 * s.length + 2 ≤ n → rowF n s = rowF (n + 1) s) ∧ (∀ a s, 3 * s.length + 2 ≤ n → moreF n a s = moreF (n + 1) a s) ∧ (∀ s, 3 * s.length + 3 ≤ n → rowsF n s = rowsF (n + 1) s) ∧ (∀ a s, 3 * s.length + 3 ≤ n → orsF n a s = orsF (n + 1) a s)
  | 0 => ⟨fun _ h => by omega, fun _ h => by omega, fun _ _ h => by omega, fun _ h => by omega, fun _ _ h => by omega⟩
  | n + 1 => by
    obtain ⟨iA, iR, iM, iS, iO⟩ := fuel n
    obtain ⟨lA, lR, lM, lS, lO⟩ := parse_lt n
    refine ⟨fun s h => ?_, fun s h => ?_, fun a s h => ?_, fun s h => ?_, fun a s h => ?_⟩
    · cases s with
      | nil => simp [atomF]
      | cons c r =>
        simp only [List.length_cons] at h
        rw [atomF, atomF, iS r (by omega)]
    · rw [rowF, rowF, ← iA s (by omega)]
      cases e : atomF n s with
      | none => rfl
      | some x =>
        obtain ⟨t, q⟩ := x
        have h1 := lA _ _ _ e
        have h2 := stars_le q t
        exact iM _ _ (by omega)
    · rw [moreF, moreF, ← iA s (by omega)]
      split
      · rfl
      cases e : atomF n s with
      | none => rfl
      | some x =>
        obtain ⟨t, q⟩ := x
        have h1 := lA _ _ _ e
        have h2 := stars_le q t
        exact iM _ _ (by omega)
    · rw [rowsF, rowsF, ← iR s (by omega)]
      cases e : rowF n s with
      | none => rfl
      | some x =>
        obtain ⟨t, q⟩ := x
        have h1 := lR _ _ _ e
        exact iO _ _ (by omega)
    · rw [orsF, orsF]
      cases s with
      | nil => rfl
      | cons c r =>
        simp only [List.length_cons] at h
        split
        · rw [List.tail_cons, ← iR r (by omega)]
          cases e : rowF n r with
          | none => rfl
          | some x =>
            obtain ⟨t, q⟩ := x
            have h1 := lR _ _ _ e
            exact iO _ _ (by omega)
        · rfl

theorem fuel_more {n m : Nat} (h : n ≤ m) : (∀ s, 3 * s.length + 1 ≤ n → atomF n s = atomF m s) ∧ (∀ s, 3 * s.length + 2 ≤ n → rowF n s = rowF m s) ∧ (∀ a s, 3 * s.length + 2 ≤ n → moreF n a s = moreF m a s) ∧ (∀ s, 3 * s.length + 3 ≤ n → rowsF n s = rowsF m s) ∧ (∀ a s, 3 * s.length + 3 ≤ n → orsF n a s = orsF m a s) := by
  induction h with
  | refl => exact ⟨fun _ _ => rfl, fun _ _ => rfl, fun _ _ _ => rfl, fun _ _ => rfl, fun _ _ _ => rfl⟩
  | step hm ih =>
    rename_i m
    have hm' : n ≤ m := hm
    obtain ⟨iA, iR, iM, iS, iO⟩ := ih
    obtain ⟨fA, fR, fM, fS, fO⟩ := fuel m
    exact ⟨fun s h => (iA s h).trans (fA s (by omega)), fun s h => (iR s h).trans (fR s (by omega)), fun a s h => (iM a s h).trans (fM a s (by omega)), fun s h => (iS s h).trans (fS s (by omega)), fun a s h => (iO a s h).trans (fO a s (by omega))⟩
/-- the readings, without fuel -/
def atomP (s : Txt) : Option (Rx × Txt) := atomF (3 * s.length + 3) s
def rowP (s : Txt) : Option (Rx × Txt) := rowF (3 * s.length + 3) s
def moreP (a : Rx) (s : Txt) : Option (Rx × Txt) := moreF (3 * s.length + 3) a s
def rowsP (s : Txt) : Option (Rx × Txt) := rowsF (3 * s.length + 3) s
def orsP (a : Rx) (s : Txt) : Option (Rx × Txt) := orsF (3 * s.length + 3) a s
theorem atomP_at {s : Txt} {n : Nat} (h : 3 * s.length + 1 ≤ n) : atomF n s = atomP s := by
  rcases Nat.le_total n (3 * s.length + 3) with h' | h'
  · exact (fuel_more h').1 s h
  · exact ((fuel_more h').1 s (by omega)).symm
theorem rowP_at {s : Txt} {n : Nat} (h : 3 * s.length + 2 ≤ n) : rowF n s = rowP s := by
  rcases Nat.le_total n (3 * s.length + 3) with h' | h'
  · exact (fuel_more h').2.1 s h
  · exact ((fuel_more h').2.1 s (by omega)).symm
theorem moreP_at {a : Rx} {s : Txt} {n : Nat} (h : 3 * s.length + 2 ≤ n) : moreF n a s = moreP a s := by
  rcases Nat.le_total n (3 * s.length + 3) with h' | h'
  · exact (fuel_more h').2.2.1 a s h
  · exact ((fuel_more h').2.2.1 a s (by omega)).symm
theorem rowsP_at {s : Txt} {n : Nat} (h : 3 * s.length + 3 ≤ n) : rowsF n s = rowsP s := ((fuel_more h).2.2.2.1 s (Nat.le_refl _)).symm
theorem orsP_at {a : Rx} {s : Txt} {n : Nat} (h : 3 * s.length + 3 ≤ n) : orsF n a s = orsP a s := ((fuel_more h).2.2.2.2 a s (Nat.le_refl _)).symm
theorem atomP_lt {s : Txt} {t : Rx} {q : Txt} (h : atomP s = some (t, q)) : q.length < s.length := (parse_lt _).1 _ _ _ h
theorem rowP_lt {s : Txt} {t : Rx} {q : Txt} (h : rowP s = some (t, q)) : q.length < s.length := (parse_lt _).2.1 _ _ _ h
theorem atomP_eq (c : UInt8) (r : Txt) : atomP (c :: r) =
    if c = 40 then
      if r.head? == some 41 then some (.eps, r.tail) else
      match rowsP r with
      | some (t, q) => if q.head? == some 41 then some (t, q.tail) else none
      | none => none
    else if c = 46 then some (.set (notB (spanB 10 10)), r)
    else if c = 91 then
      match classF (r.length + 1) r with
      | some (S, q) => some (.set S, q)
      | none => none
    else match signF leftA (c :: r) with
      | some (b, q) => some (.set (spanB b b), q)
      | none => none := by
  show atomF (3 * (r.length + 1) + 2 + 1) (c :: r) = _
  rw [atomF, rowsP_at (by omega)]
theorem rowP_eq (s : Txt) : rowP s = match atomP s with
    | some (t, q) => moreP (starsF t q).1 (starsF t q).2
    | none => none := by
  show rowF (3 * s.length + 2 + 1) s = _
  rw [rowF, atomP_at (by omega)]
  cases e : atomP s with
  | none => rfl
  | some x =>
    obtain ⟨t, q⟩ := x
    have h1 := atomP_lt e
    have h2 := stars_le q t
    exact moreP_at (by omega)
theorem moreP_eq (a : Rx) (s : Txt) : moreP a s = if rowEnd s then some (a, s) else match atomP s with
    | some (t, q) => moreP (.cat a (starsF t q).1) (starsF t q).2
    | none => none := by
  show moreF (3 * s.length + 2 + 1) a s = _
  rw [moreF, atomP_at (by omega)]
  split
  · rfl
  cases e : atomP s with
  | none => rfl
  | some x =>
    obtain ⟨t, q⟩ := x
    have h1 := atomP_lt e
    have h2 := stars_le q t
    exact moreP_at (by omega)
theorem rowsP_eq (s : Txt) : rowsP s = match rowP s with
    | some (t, q) => orsP t q
    | none => none := by
  show rowsF (3 * s.length + 2 + 1) s = _
  rw [rowsF, rowP_at (by omega)]
  cases e : rowP s with
  | none => rfl
  | some x =>
    obtain ⟨t, q⟩ := x
    have h1 := rowP_lt e
    exact orsP_at (by omega)
theorem orsP_eq (a : Rx) (s : Txt) : orsP a s = if s.head? == some 124 then
      match rowP s.tail with
      | some (t, q) => orsP (.or a t) q
      | none => none
    else some (a, s) := by
  show orsF (3 * s.length + 2 + 1) a s = _
  rw [orsF]
  cases s with
  | nil => rfl
  | cons c r =>
    split
    · rw [List.tail_cons, List.length_cons, rowP_at (by omega)]
      cases e : rowP r with
      | none => rfl
      | some x =>
        obtain ⟨t, q⟩ := x
        have h1 := rowP_lt e
        exact orsP_at (by omega)
    · rfl

end Go.Proofs.YthgbjhnknepefaaGreat
namespace Go.Proofs.YthgbjhnknepefaaGreat

theorem count_mono {S T : W4} (h : ∀ x, x < 256 → hasB T x = true → hasB S x = true) : ∀ k, k ≤ 256 → countN T k ≤ countN S k
  | 0, _ => by rw [countN_zero, countN_zero]; exact Nat.le_refl _
  | k + 1, hk => by
    have := count_mono h k (by omega)
    rw [countN_succ, countN_succ]
    cases e : hasB T k with
    | false => simp; omega
    | true => rw [h k (by omega) e]; simp; omega
theorem count_strict {S T : W4} (h : ∀ x, x < 256 → hasB T x = true → hasB S x = true) {y : Nat} (hS : hasB S y = true) (hT : hasB T y = false) : ∀ k, k ≤ 256 → y < k → countN T k < countN S k
  | 0, _, hy => absurd hy (Nat.not_lt_zero _)
  | k + 1, hk, hy => by
    rw [countN_succ, countN_succ]
    by_cases e : y = k
    · subst e
      have := count_mono h y (by omega)
      rw [hS, hT]; simp; omega
    · have := count_strict h hS hT k (by omega) (by omega)
      cases e : hasB T k with
      | false => simp; omega
      | true => rw [h k (by omega) e]; simp; omega
theorem span_has (b x : Nat) (hx : x < 256) : hasB (spanB b b) x = decide (x = b) := by
  unfold spanB
  rw [mkB_has _ x hx, Bool.eq_iff_iff]
  simp
  omega
theorem min_has {S : W4} : ∀ x, hasB S x = true → ∃ m, m ≤ x ∧ hasB S m = true ∧ ∀ y, y < m → hasB S y = false := by
  intro x
  induction x using Nat.strongRecOn with
  | ind x ih =>
    intro hx
    by_cases h : ∃ y, y < x ∧ hasB S y = true
    · obtain ⟨y, hy, hh⟩ := h
      obtain ⟨m, h1, h2, h3⟩ := ih y hy hh
      exact ⟨m, by omega, h2, h3⟩
    · exact ⟨x, Nat.le_refl _, hx, fun y hy => by cases e : hasB S y with | false => rfl | true => exact absurd ⟨y, hy, e⟩ h⟩
theorem one_of_count {S : W4} (hS : Fit4 S) (h : countB S = 1) : ∃ b : Nat, b < 256 ∧ leastB S = (b : Int) ∧ S = spanB b b := by
  have hne : S ≠ noneB := fun e => by
    rw [e, countB_eq] at h
    have : ∀ k, k ≤ 256 → countN noneB k = 0 := fun k => by
      induction k with
      | zero => intro _; exact countN_zero _
      | succ k ih => intro hk; rw [countN_succ, ih (by omega), noneB_has]; rfl
    rw [this 256 (Nat.le_refl _)] at h
    cases h
  obtain ⟨x, hx, hh⟩ := some_has hS hne
  obtain ⟨m, h1, h2, h3⟩ := min_has x hh
  have hm : m < 256 := by omega
  refine ⟨m, hm, least_at h2 hm h3, set_ext hS (mkB_fit _) fun y hy => ?_⟩
  rw [span_has m y hy]
  by_cases e : y = m
  · subst e; rw [h2]; simp
  · cases e' : hasB S y with
    | false => simp [e]
    | true =>
      exfalso
      have hsub : ∀ z, z < 256 → hasB (spanB m m) z = true → hasB S z = true := fun z hz h' => by
        rw [span_has m z hz, decide_eq_true_iff] at h'
        subst h'; exact h2
      have h4 := count_strict hsub e' (by rw [span_has m y hy]; simp [e]) 256 (Nat.le_refl _) hy
      have h5 : 0 < countN (spanB m m) 256 := count_pos (x := m) (by rw [span_has m m hm]; simp) 256 hm
      rw [countB_eq] at h
      omega
theorem dot_of_count {S : W4} (hS : Fit4 S) (h : countB S = 255) (h10 : hasB S 10 = false) : S = notB (spanB 10 10) := by
  have hN : ∀ x, x < 256 → hasB (notB (spanB 10 10)) x = !decide (x = 10) := fun x hx => by
    unfold notB
    rw [mkB_has _ x hx, span_has 10 x hx]
  refine set_ext hS (not_fit _) fun y hy => ?_
  rw [hN y hy]
  by_cases e : y = 10
  · subst e; rw [h10]; rfl
  · cases e' : hasB S y with
    | true => simp [e]
    | false =>
      exfalso
      have hsub : ∀ z, z < 256 → hasB S z = true → hasB (notB (spanB 10 10)) z = true := fun z hz h' => by
        rw [hN z hz]
        by_cases e : z = 10
        · subst e; rw [h10] at h'; cases h'
        · simp [e]
      have h4 := count_strict hsub (y := y) (by rw [hN y hy]; simp [e]) e' 256 (Nat.le_refl _) hy
      have h5 := count_both (spanB 10 10)
      have h6 : 0 < countN (spanB 10 10) 256 := count_pos (x := 10) (by rw [span_has 10 10 (by omega)]; rfl) 256 (by omega)
      rw [countB_eq, countB_eq] at h5
      rw [countB_eq] at h
      omega
theorem atom_told {S : W4} (hS : Fit4 S) (hne : S ≠ noneB) (r : Txt) : atomP (toldL S ++ r) = some (.set S, r) := by
  unfold toldL
  split
  · rename_i h
    obtain ⟨b, hb, hl, hs⟩ := one_of_count hS h
    rw [hl, Int.toNat_natCast]
    obtain ⟨c, q, e, hc⟩ := headA b hb
    have hal := aloneA b hb r
    rw [e] at hal ⊢
    have h1 : ¬ c = 40 := fun e => by subst e; exact absurd hc (by decide)
    have h2 : ¬ c = 46 := fun e => by subst e; exact absurd hc (by decide)
    have h3 : ¬ c = 91 := fun e => by subst e; exact absurd hc (by decide)
    rw [List.cons_append] at hal ⊢
    rw [atomP_eq, if_neg h1, if_neg h2, if_neg h3, hal, hs]
  split
  · rename_i h
    rw [dot_of_count hS h.1 h.2]
    rfl
  · rw [List.cons_append, List.append_assoc]
    show atomP (91 :: (runsL S 0 257 ++ (93 :: r))) = _
    rw [atomP_eq, if_neg (by decide), if_neg (by decide), if_pos rfl, class_runs hS hne r _ (by simp; omega)]

def Rx.fit : Rx → Prop
  | .set S => Fit4 S
  | .eps => True
  | .cat a b => a.fit ∧ b.fit
  | .or a b => a.fit ∧ b.fit
  | .star a => a.fit
  | .plus a => a.fit
  | .opt a => a.fit
def power : Rx → Nat
  | .or _ _ => 1
  | .cat _ _ => 2
  | _ => 3
def par (p : Nat) (t : Rx) (s : Txt) : Txt := if power t < p then 40 :: (s ++ [41]) else s
/-- a rule as it is told -/
def txt : Rx → Txt
  | .set S => toldL S
  | .eps => [40, 41]
  | .cat a b => par 2 a (txt a) ++ par 3 b (txt b)
  | .or a b => par 1 a (txt a) ++ (124 :: par 2 b (txt b))
  | .star a => par 3 a (txt a) ++ [42]
  | .plus a => par 3 a (txt a) ++ [43]
  | .opt a => par 3 a (txt a) ++ [63]
/-- a text that begins as a piece begins -/
def Good (s : Txt) : Prop := ∃ c r, s = c :: r ∧ c ≠ 41 ∧ c ≠ 42 ∧ c ≠ 43 ∧ c ≠ 63 ∧ c ≠ 124
theorem Good.app {s : Txt} (h : Good s) (r : Txt) : Good (s ++ r) := by
  obtain ⟨c, q, rfl, h⟩ := h
  exact ⟨c, q ++ r, rfl, h⟩
theorem good_par (p : Nat) (t : Rx) {s : Txt} (h : Good s) : Good (par p t s) := by
  unfold par
  split
  · exact ⟨40, _, rfl, by decide⟩
  · exact h
theorem good_told (S : W4) (hS : Fit4 S) : Good (toldL S) := by
  unfold toldL
  split
  · rename_i h
    obtain ⟨b, hb, hl, _⟩ := one_of_count hS h
    rw [hl, Int.toNat_natCast]
    obtain ⟨c, q, e, hc⟩ := headA b hb
    refine ⟨c, q, e, ?_, ?_, ?_, ?_, ?_⟩ <;> (rintro rfl; exact absurd hc (by decide))
  split
  · exact ⟨46, [], rfl, by decide⟩
  · exact ⟨91, _, rfl, by decide⟩
theorem good_txt : ∀ t : Rx, t.fit → Good (txt t)
  | .set S, h => good_told S h
  | .eps, _ => ⟨40, [41], rfl, by decide⟩
  | .cat a b, h => (good_par 2 a (good_txt a h.1)).app _
  | .or a b, h => (good_par 1 a (good_txt a h.1)).app _
  | .star a, h => (good_par 3 a (good_txt a h)).app _
  | .plus a, h => (good_par 3 a (good_txt a h)).app _
  | .opt a, h => (good_par 3 a (good_txt a h)).app _
/-- no * + ? ahead -/
def Bare (r : Txt) : Prop := ∀ t, starsF t r = (t, r)
theorem bare_cons {c : UInt8} {r : Txt} (h1 : c ≠ 42) (h2 : c ≠ 43) (h3 : c ≠ 63) : Bare (c :: r) := fun t => by rw [starsF, if_neg h1, if_neg h2, if_neg h3]
theorem Good.bare {s : Txt} (h : Good s) : Bare s := by
  obtain ⟨c, r, rfl, _, h2, h3, h4, _⟩ := h
  exact bare_cons h2 h3 h4
theorem Good.goes {s : Txt} (h : Good s) : rowEnd s = false := by
  obtain ⟨c, r, rfl, h1, _, _, _, h5⟩ := h
  simp [rowEnd, h1, h5]
def PA (s : Txt) (t : Rx) : Prop := ∀ r, ∃ base q, atomP (s ++ r) = some (base, q) ∧ starsF base q = starsF t r
def PB (s : Txt) (t : Rx) : Prop := ∀ r, Bare r → rowP (s ++ r) = moreP t r
def PC (s : Txt) (t : Rx) : Prop := ∀ r, Bare r → rowEnd r = true → rowsP (s ++ r) = orsP t r
theorem PA.row {s : Txt} {t : Rx} (h : PA s t) : PB s t := fun r hr => by
  obtain ⟨base, q, h1, h2⟩ := h r
  rw [rowP_eq, h1]
  simp only
  rw [h2, hr t]
theorem PB.rows {s : Txt} {t : Rx} (h : PB s t) : PC s t := fun r hr he => by
  rw [rowsP_eq, h r hr, moreP_eq, if_pos he]
theorem PA.more {s : Txt} {t : Rx} (h : PA s t) (hg : Good s) (a : Rx) (r : Txt) (hr : Bare r) : moreP a (s ++ r) = moreP (.cat a t) r := by
  obtain ⟨base, q, h1, h2⟩ := h r
  rw [moreP_eq, (hg.app r).goes, h1]
  simp only
  rw [h2, hr t]
  rfl
/-- in parentheses -/
theorem PC.paren {s : Txt} {t : Rx} (h : PC s t) (hg : Good s) : PA (40 :: (s ++ [41])) t := fun r => by
  refine ⟨t, r, ?_, rfl⟩
  have h1 := h (41 :: r) (bare_cons (by decide) (by decide) (by decide)) (by simp [rowEnd])
  have h2 : ((s ++ (41 :: r)).head? == some 41) = false := by
    obtain ⟨c, q, rfl, hc, _⟩ := hg
    simp [hc]
  rw [List.cons_append, List.append_assoc]
  show atomP (40 :: (s ++ (41 :: r))) = _
  rw [atomP_eq, if_pos rfl, h2, h1, orsP_eq]
  simp
theorem pa_par {t : Rx} (hg : Good (txt t)) (h : (power t = 3 → PA (txt t) t) ∧ (2 ≤ power t → PB (txt t) t) ∧ PC (txt t) t) : PA (par 3 t (txt t)) t := by
  unfold par
  split
  · exact h.2.2.paren hg
  · exact h.1 (by cases t <;> simp_all [power])
theorem pb_par {t : Rx} (hg : Good (txt t)) (h : (power t = 3 → PA (txt t) t) ∧ (2 ≤ power t → PB (txt t) t) ∧ PC (txt t) t) : PB (par 2 t (txt t)) t := by
  unfold par
  split
  · exact (h.2.2.paren hg).row
  · exact h.2.1 (by omega)
theorem reads : ∀ t : Rx, t.ok → t.fit → (power t = 3 → PA (txt t) t) ∧ (2 ≤ power t → PB (txt t) t) ∧ PC (txt t) t
  | .set S, ho, hf => by
    have h : PA (txt (.set S)) (.set S) := fun r => ⟨.set S, r, atom_told hf ho r, rfl⟩
    exact ⟨fun _ => h, fun _ => h.row, h.row.rows⟩
  | .eps, _, _ => by
    have h : PA (txt .eps) .eps := fun r => ⟨.eps, r, by show atomP (40 :: (41 :: r)) = _; rw [atomP_eq]; simp, rfl⟩
    exact ⟨fun _ => h, fun _ => h.row, h.row.rows⟩
  | .cat a b, ho, hf => by
    have ha := reads a ho.1 hf.1
    have hb := reads b ho.2 hf.2
    have ga := good_txt a hf.1
    have gb := good_txt b hf.2
    have h : PB (txt (.cat a b)) (.cat a b) := fun r hr => by
      show rowP (par 2 a (txt a) ++ par 3 b (txt b) ++ r) = _
      have g3 := good_par 3 b gb
      rw [List.append_assoc, pb_par ga ha _ (g3.app r).bare, (pa_par gb hb).more g3 a r hr]
    exact ⟨fun h' => by simp [power] at h', fun _ => h, h.rows⟩
  | .or a b, ho, hf => by
    have ha := reads a ho.1 hf.1
    have hb := reads b ho.2 hf.2
    have gb := good_txt b hf.2
    have h : PC (txt (.or a b)) (.or a b) := fun r hr he => by
      have e1 : par 1 a (txt a) = txt a := by unfold par; rw [if_neg (by cases a <;> simp [power])]
      show rowsP (par 1 a (txt a) ++ (124 :: par 2 b (txt b)) ++ r) = _
      rw [e1, List.append_assoc, List.cons_append, ha.2.2 _ (bare_cons (by decide) (by decide) (by decide)) (by simp [rowEnd]), orsP_eq]
      simp only [List.head?_cons, beq_self_eq_true, if_true, List.tail_cons]
      rw [pb_par gb hb r hr, moreP_eq, if_pos he]
    exact ⟨fun h' => by simp [power] at h', fun h' => by simp [power] at h', h⟩
  | .star a, ho, hf => by
    have ha := pa_par (good_txt a hf) (reads a ho hf)
    have h : PA (txt (.star a)) (.star a) := fun r => by
      obtain ⟨base, q, h1, h2⟩ := ha (42 :: r)
      refine ⟨base, q, ?_, ?_⟩
      · show atomP (par 3 a (txt a) ++ [42] ++ r) = _
        rw [List.append_assoc]; exact h1
      · rw [h2, starsF, if_pos rfl]
    exact ⟨fun _ => h, fun _ => h.row, h.row.rows⟩
  | .plus a, ho, hf => by
    have ha := pa_par (good_txt a hf) (reads a ho hf)
    have h : PA (txt (.plus a)) (.plus a) := fun r => by
      obtain ⟨base, q, h1, h2⟩ := ha (43 :: r)
      refine ⟨base, q, ?_, ?_⟩
      · show atomP (par 3 a (txt a) ++ [43] ++ r) = _
        rw [List.append_assoc]; exact h1
      · rw [h2, starsF, if_neg (by decide), if_pos rfl]
    exact ⟨fun _ => h, fun _ => h.row, h.row.rows⟩
  | .opt a, ho, hf => by
    have ha := pa_par (good_txt a hf) (reads a ho hf)
    have h : PA (txt (.opt a)) (.opt a) := fun r => by
      obtain ⟨base, q, h1, h2⟩ := ha (63 :: r)
      refine ⟨base, q, ?_, ?_⟩
      · show atomP (par 3 a (txt a) ++ [63] ++ r) = _
        rw [List.append_assoc]; exact h1
      · rw [h2, starsF, if_neg (by decide), if_neg (by decide), if_pos rfl]
    exact ⟨fun _ => h, fun _ => h.row, h.row.rows⟩
end Go.Proofs.YthgbjhnknepefaaGreat
namespace Go.Proofs.YthgbjhnknepefaaGreat

theorem hex_lt : ∀ c : UInt8, ∀ a, hexF c = some a → a < 16 := by
  intro c a h
  unfold hexF at h
  split at h
  · rename_i h1
    injection h with h
    have : c.toNat ≤ 57 := h1.2
    omega
  split at h
  · rename_i h1
    injection h with h
    have : c.toNat ≤ 102 := h1.2
    omega
  split at h
  · rename_i h1
    injection h with h
    have : c.toNat ≤ 70 := h1.2
    omega
  · cases h
theorem escF_byte {s : Txt} {b : Nat} {q : Txt} (h : escF s = some (b, q)) : b < 256 := by
  cases s with
  | nil => cases h
  | cons d s =>
    simp only [escF] at h
    split at h
    · injection h with h; injection h with h2 h3; omega
    split at h
    · injection h with h; injection h with h2 h3; omega
    split at h
    · injection h with h; injection h with h2 h3; omega
    split at h
    · match s, h with
      | x :: y :: z, h =>
        simp only at h
        split at h
        · rename_i a b' ha hb
          have h1 := hex_lt x a ha
          have h2 := hex_lt y b' hb
          injection h with h; injection h with h2 h3; omega
        · cases h
    split at h
    · injection h with h; injection h with h2 h3; have := d.toNat_lt; omega
    · cases h
theorem signF_byte {left : UInt8 → Bool} {s : Txt} {b : Nat} {q : Txt} (h : signF left s = some (b, q)) : b < 256 := by
  cases s with
  | nil => cases h
  | cons c s =>
    simp only [signF] at h
    split at h
    · cases h
    split at h
    · exact escF_byte h
    split at h
    · cases h
    · injection h with h; injection h with h2 h3; have := c.toNat_lt; omega
theorem items_fit : ∀ (n : Nat) (first : Bool) (acc : W4) (s : Txt) (S : W4) (q : Txt), Fit4 acc → itemsF n first acc s = some (S, q) → Fit4 S
  | 0, _, _, _, _, _, _, h => by simp [itemsF] at h
  | n + 1, first, acc, s, S, q, ha, h => by
    unfold itemsF at h
    split at h
    · injection h with h; injection h with h _; subst h; exact ha
    split at h
    · cases h
    split at h
    · split at h
      · cases h
      split at h
      · cases h
      · exact items_fit n _ _ _ _ _ (mkB_fit _) h
    · exact items_fit n _ _ _ _ _ (mkB_fit _) h
theorem class_ok {n : Nat} {s : Txt} {S : W4} {q : Txt} (h : classF n s = some (S, q)) : Fit4 S ∧ S ≠ noneB := by
  unfold classF at h
  split at h
  · split at h
    · cases h
    split at h
    · cases h
    · rename_i hne
      injection h with h; injection h with h _; subst h
      exact ⟨mkB_fit _, hne⟩
  · split at h
    · cases h
    rename_i S' r hi
    split at h
    · cases h
    · rename_i hne
      injection h with h; injection h with h _; subst h
      exact ⟨items_fit _ _ _ _ _ _ noneB_fit hi, hne⟩
theorem span_ne {b : Nat} (h : b < 256) : spanB b b ≠ noneB := fun e => by
  have := span_has b b h
  rw [e, noneB_has] at this
  simp at this
theorem dot_ne : notB (spanB 10 10) ≠ noneB := fun e => by
  have : hasB (notB (spanB 10 10)) 0 = true := by unfold notB; rw [mkB_has _ 0 (by omega), span_has 10 0 (by omega)]; rfl
  rw [e, noneB_has] at this
  cases this
def Rx.good (t : Rx) : Prop := t.ok ∧ t.fit
theorem stars_good : ∀ (s : Txt) (t : Rx), t.good → (starsF t s).1.good
  | [], t, h => by simpa [starsF] using h
  | c :: r, t, h => by
    unfold starsF
    split
    · exact stars_good r (.star t) h
    split
    · exact stars_good r (.plus t) h
    split
    · exact stars_good r (.opt t) h
    · exact h
theorem parse_good : ∀ n, (∀ s t q, atomF n s = some (t, q) → t.good) ∧ (∀ s t q, rowF n s = some (t, q) → t.good) ∧ (∀ a s t q, a.good → moreF n a s = some (t, q) → t.good) ∧ (∀ s t q, rowsF n s = some (t, q) → t.good) ∧ (∀ a s t q, a.good → orsF n a s = some (t, q) → t.good)
  | 0 => ⟨fun _ _ _ h => by simp [atomF] at h, fun _ _ _ h => by simp [rowF] at h, fun _ _ _ _ _ h => by simp [moreF] at h, fun _ _ _ h => by simp [rowsF] at h, fun _ _ _ _ _ h => by simp [orsF] at h⟩
  | n + 1 => by
    obtain ⟨iA, iR, iM, iS, iO⟩ := parse_good n
    refine ⟨fun s t q h => ?_, fun s t q h => ?_, fun a s t q ha h => ?_, fun s t q h => ?_, fun a s t q ha h => ?_⟩
    · cases s with
      | nil => simp [atomF] at h
      | cons c r =>
        rw [atomF] at h
        split at h
        · split at h
          · injection h with h; injection h with h _; subst h; exact ⟨trivial, trivial⟩
          split at h
          · rename_i t' q' hr
            split at h
            · injection h with h; injection h with h _; subst h; exact iS _ _ _ hr
            · cases h
          · cases h
        split at h
        · injection h with h; injection h with h _; subst h; exact ⟨dot_ne, mkB_fit _⟩
        split at h
        · split at h
          · rename_i S q' hc
            injection h with h; injection h with h _; subst h; exact ⟨(class_ok hc).2, (class_ok hc).1⟩
          · cases h
        split at h
        · rename_i b q' hs
          injection h with h; injection h with h _; subst h; exact ⟨span_ne (signF_byte hs), mkB_fit _⟩
        · cases h
    · rw [rowF] at h
      split at h
      · rename_i t' q' ha
        exact iM _ _ _ _ (stars_good _ _ (iA _ _ _ ha)) h
      · cases h
    · rw [moreF] at h
      split at h
      · injection h with h; injection h with h _; subst h; exact ha
      split at h
      · rename_i t' q' hb
        have hg := stars_good q' t' (iA _ _ _ hb)
        exact iM _ _ _ _ (show (Rx.cat a (starsF t' q').1).good from ⟨⟨ha.1, hg.1⟩, ⟨ha.2, hg.2⟩⟩) h
      · cases h
    · rw [rowsF] at h
      split at h
      · rename_i t' q' hb
        exact iO _ _ _ _ (iR _ _ _ hb) h
      · cases h
    · rw [orsF] at h
      split at h
      · split at h
        · rename_i t' q' hb
          have hg := iR _ _ _ hb
          exact iO _ _ _ _ (show (Rx.or a t').good from ⟨⟨ha.1, hg.1⟩, ⟨ha.2, hg.2⟩⟩) h
        · cases h
      · injection h with h; injection h with h _; subst h; exact ha
theorem rowsP_good {s : Txt} {t : Rx} {q : Txt} (h : rowsP s = some (t, q)) : t.ok ∧ t.fit := (parse_good _).2.2.2.1 _ _ _ h

/-! ### with a ) behind -/
end Go.Proofs.YthgbjhnknepefaaGreat
