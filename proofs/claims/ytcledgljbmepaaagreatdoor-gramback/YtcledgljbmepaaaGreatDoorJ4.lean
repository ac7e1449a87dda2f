/- What is told of a rule is read to that rule. What is read is a right rule; a text in parentheses. The reference: Wants, Right. The reference: From, Empty, Null. -/
import Derived.Test.YtcledgljbmepaaaGreatDoorJ3
import Derived.Test.YtcledgljbmepaaaGreatDoorJ2
namespace Go.Proofs.YtcledgljbmepaaaGreatDoor

theorem count_mono {S T : W4} (h : ∀ x, x < 256 → hasB T x = true → hasB S x = true) : ∀ k, k ≤ 256 → countN T k ≤ countN S k
  | 0, _ => by rw [countN_zero, countN_zero]; exact Nat.le_refl _
  | k + 1, hk => by
    have := count_mono h k (by omega)
    rw [countN_succ, countN_succ]
    cases e : hasB T k with
    | false => simp; omega
    | true => rw [h k (by omega) e]; simp; omega
theorem count_strict {S T : W4} (h : ∀ x, x < 256 → hasB T x = true → hasB S x = true) {y : Nat} (hS : hasB S y = true) (hT : hasB T y = false) : ∀ k, k ≤ 256 → y < k → countN T k < countN S k
  | 0, _, hy => absurd hy (Nat.not_lt_zero _)
  | k + 1, hk, hy => by
    rw [countN_succ, countN_succ]
    by_cases e : y = k
    · subst e
      have := count_mono h y (by omega)
      rw [hS, hT]; simp; omega
    · have := count_strict h hS hT k (by omega) (by omega)
      cases e : hasB T k with
      | false => simp; omega
      | true => rw [h k (by omega) e]; simp; omega
theorem span_has (b x : Nat) (hx : x < 256) : hasB (spanB b b) x = decide (x = b) := by
  unfold spanB
  rw [mkB_has _ x hx, Bool.eq_iff_iff]
  simp
  omega
theorem min_has {S : W4} : ∀ x, hasB S x = true → ∃ m, m ≤ x ∧ hasB S m = true ∧ ∀ y, y < m → hasB S y = false := by
  intro x
  induction x using Nat.strongRecOn with
  | ind x ih =>
    intro hx
    by_cases h : ∃ y, y < x ∧ hasB S y = true
    · obtain ⟨y, hy, hh⟩ := h
      obtain ⟨m, h1, h2, h3⟩ := ih y hy hh
      exact ⟨m, by omega, h2, h3⟩
    · exact ⟨x, Nat.le_refl _, hx, fun y hy => by cases e : hasB S y with | false => rfl | true => exact absurd ⟨y, hy, e⟩ h⟩
theorem one_of_count {S : W4} (hS : Fit4 S) (h : countB S = 1) : ∃ b : Nat, b < 256 ∧ leastB S = (b : Int) ∧ S = spanB b b := by
  have hne : S ≠ noneB := fun e => by
    rw [e, countB_eq] at h
    have : ∀ k, k ≤ 256 → countN noneB k = 0 := fun k => by
      induction k with
      | zero => intro _; exact countN_zero _
      | succ k ih => intro hk; rw [countN_succ, ih (by omega), noneB_has]; rfl
    rw [this 256 (Nat.le_refl _)] at h
    cases h
  obtain ⟨x, hx, hh⟩ := some_has hS hne
  obtain ⟨m, h1, h2, h3⟩ := min_has x hh
  have hm : m < 256 := by omega
  refine ⟨m, hm, least_at h2 hm h3, set_ext hS (mkB_fit _) fun y hy => ?_⟩
  rw [span_has m y hy]
  by_cases e : y = m
  · subst e; rw [h2]; simp
  · cases e' : hasB S y with
    | false => simp [e]
    | true =>
      exfalso
      have hsub : ∀ z, z < 256 → hasB (spanB m m) z = true → hasB S z = true := fun z hz h' => by
        rw [span_has m z hz, decide_eq_true_iff] at h'
        subst h'; exact h2
      have h4 := count_strict hsub e' (by rw [span_has m y hy]; simp [e]) 256 (Nat.le_refl _) hy
      have h5 : 0 < countN (spanB m m) 256 := count_pos (x := m) (by rw [span_has m m hm]; simp) 256 hm
      rw [countB_eq] at h
      omega
theorem dot_of_count {S : W4} (hS : Fit4 S) (h : countB S = 255) (h10 : hasB S 10 = false) : S = notB (spanB 10 10) := by
  have hN : ∀ x, x < 256 → hasB (notB (spanB 10 10)) x = !decide (x = 10) := fun x hx => by
    unfold notB
    rw [mkB_has _ x hx, span_has 10 x hx]
  refine set_ext hS (not_fit _) fun y hy => ?_
  rw [hN y hy]
  by_cases e : y = 10
  · subst e; rw [h10]; rfl
  · cases e' : hasB S y with
    | true => simp [e]
    | false =>
      exfalso
      have hsub : ∀ z, z < 256 → hasB S z = true → hasB (notB (spanB 10 10)) z = true := fun z hz h' => by
        rw [hN z hz]
        by_cases e : z = 10
        · subst e; rw [h10] at h'; cases h'
        · simp [e]
      have h4 := count_strict hsub (y := y) (by rw [hN y hy]; simp [e]) e' 256 (Nat.le_refl _) hy
      have h5 := count_both (spanB 10 10)
      have h6 : 0 < countN (spanB 10 10) 256 := count_pos (x := 10) (by rw [span_has 10 10 (by omega)]; rfl) 256 (by omega)
      rw [countB_eq, countB_eq] at h5
      rw [countB_eq] at h
      omega
theorem atom_told {S : W4} (hS : Fit4 S) (hne : S ≠ noneB) (r : Txt) : atomP (toldL S ++ r) = some (.set S, r) := by
  unfold toldL
  split
  · rename_i h
    obtain ⟨b, hb, hl, hs⟩ := one_of_count hS h
    rw [hl, Int.toNat_natCast]
    obtain ⟨c, q, e, hc⟩ := headA b hb
    have hal := aloneA b hb r
    rw [e] at hal ⊢
    have h1 : ¬ c = 40 := fun e => by subst e; exact absurd hc (by decide)
    have h2 : ¬ c = 46 := fun e => by subst e; exact absurd hc (by decide)
    have h3 : ¬ c = 91 := fun e => by subst e; exact absurd hc (by decide)
    rw [List.cons_append] at hal ⊢
    rw [atomP_eq, if_neg h1, if_neg h2, if_neg h3, hal, hs]
  split
  · rename_i h
    rw [dot_of_count hS h.1 h.2]
    rfl
  · rw [List.cons_append, List.append_assoc]
    show atomP (91 :: (runsL S 0 257 ++ (93 :: r))) = _
    rw [atomP_eq, if_neg (by decide), if_neg (by decide), if_pos rfl, class_runs hS hne r _ (by simp; omega)]

def Rx.fit : Rx → Prop
  | .set S => Fit4 S
  | .eps => True
  | .cat a b => a.fit ∧ b.fit
  | .or a b => a.fit ∧ b.fit
  | .star a => a.fit
  | .plus a => a.fit
  | .opt a => a.fit
def power : Rx → Nat
  | .or _ _ => 1
  | .cat _ _ => 2
  | _ => 3
def par (p : Nat) (t : Rx) (s : Txt) : Txt := if power t < p then 40 :: (s ++ [41]) else s
/-- a rule as it is told -/
def txt : Rx → Txt
  | .set S => toldL S
  | .eps => [40, 41]
  | .cat a b => par 2 a (txt a) ++ par 3 b (txt b)
  | .or a b => par 1 a (txt a) ++ (124 :: par 2 b (txt b))
  | .star a => par 3 a (txt a) ++ [42]
  | .plus a => par 3 a (txt a) ++ [43]
  | .opt a => par 3 a (txt a) ++ [63]
/-- a text that begins as a piece begins -/
def Good (s : Txt) : Prop := ∃ c r, s = c :: r ∧ c ≠ 41 ∧ c ≠ 42 ∧ c ≠ 43 ∧ c ≠ 63 ∧ c ≠ 124
theorem Good.app {s : Txt} (h : Good s) (r : Txt) : Good (s ++ r) := by
  obtain ⟨c, q, rfl, h⟩ := h
  exact ⟨c, q ++ r, rfl, h⟩
theorem good_par (p : Nat) (t : Rx) {s : Txt} (h : Good s) : Good (par p t s) := by
  unfold par
  split
  · exact ⟨40, _, rfl, by decide⟩
  · exact h
theorem good_told (S : W4) (hS : Fit4 S) : Good (toldL S) := by
  unfold toldL
  split
  · rename_i h
    obtain ⟨b, hb, hl, _⟩ := one_of_count hS h
    rw [hl, Int.toNat_natCast]
    obtain ⟨c, q, e, hc⟩ := headA b hb
    refine ⟨c, q, e, ?_, ?_, ?_, ?_, ?_⟩ <;> (rintro rfl; exact absurd hc (by decide))
  split
  · exact ⟨46, [], rfl, by decide⟩
  · exact ⟨91, _, rfl, by decide⟩
theorem good_txt : ∀ t : Rx, t.fit → Good (txt t)
  | .set S, h => good_told S h
  | .eps, _ => ⟨40, [41], rfl, by decide⟩
  | .cat a b, h => (good_par 2 a (good_txt a h.1)).app _
  | .or a b, h => (good_par 1 a (good_txt a h.1)).app _
  | .star a, h => (good_par 3 a (good_txt a h)).app _
  | .plus a, h => (good_par 3 a (good_txt a h)).app _
  | .opt a, h => (good_par 3 a (good_txt a h)).app _
/-- no * + ? ahead -/
def Bare (r : Txt) : Prop := ∀ t, starsF t r = (t, r)
theorem bare_nil : Bare [] := fun _ => rfl
theorem bare_cons {c : UInt8} {r : Txt} (h1 : c ≠ 42) (h2 : c ≠ 43) (h3 : c ≠ 63) : Bare (c :: r) := fun t => by rw [starsF, if_neg h1, if_neg h2, if_neg h3]
theorem Good.bare {s : Txt} (h : Good s) : Bare s := by
  obtain ⟨c, r, rfl, _, h2, h3, h4, _⟩ := h
  exact bare_cons h2 h3 h4
theorem Good.goes {s : Txt} (h : Good s) : rowEnd s = false := by
  obtain ⟨c, r, rfl, h1, _, _, _, h5⟩ := h
  simp [rowEnd, h1, h5]
def PA (s : Txt) (t : Rx) : Prop := ∀ r, ∃ base q, atomP (s ++ r) = some (base, q) ∧ starsF base q = starsF t r
def PB (s : Txt) (t : Rx) : Prop := ∀ r, Bare r → rowP (s ++ r) = moreP t r
def PC (s : Txt) (t : Rx) : Prop := ∀ r, Bare r → rowEnd r = true → rowsP (s ++ r) = orsP t r
theorem PA.row {s : Txt} {t : Rx} (h : PA s t) : PB s t := fun r hr => by
  obtain ⟨base, q, h1, h2⟩ := h r
  rw [rowP_eq, h1]
  simp only
  rw [h2, hr t]
theorem PB.rows {s : Txt} {t : Rx} (h : PB s t) : PC s t := fun r hr he => by
  rw [rowsP_eq, h r hr, moreP_eq, if_pos he]
theorem PA.more {s : Txt} {t : Rx} (h : PA s t) (hg : Good s) (a : Rx) (r : Txt) (hr : Bare r) : moreP a (s ++ r) = moreP (.cat a t) r := by
  obtain ⟨base, q, h1, h2⟩ := h r
  rw [moreP_eq, (hg.app r).goes, h1]
  simp only
  rw [h2, hr t]
  rfl
/-- in parentheses -/
theorem PC.paren {s : Txt} {t : Rx} (h : PC s t) (hg : Good s) : PA (40 :: (s ++ [41])) t := fun r => by
  refine ⟨t, r, ?_, rfl⟩
  have h1 := h (41 :: r) (bare_cons (by decide) (by decide) (by decide)) (by simp [rowEnd])
  have h2 : ((s ++ (41 :: r)).head? == some 41) = false := by
    obtain ⟨c, q, rfl, hc, _⟩ := hg
    simp [hc]
  rw [List.cons_append, List.append_assoc]
  show atomP (40 :: (s ++ (41 :: r))) = _
  rw [atomP_eq, if_pos rfl, h2, h1, orsP_eq]
  simp
theorem pa_par {t : Rx} (hg : Good (txt t)) (h : (power t = 3 → PA (txt t) t) ∧ (2 ≤ power t → PB (txt t) t) ∧ PC (txt t) t) : PA (par 3 t (txt t)) t := by
  unfold par
  split
  · exact h.2.2.paren hg
  · exact h.1 (by cases t <;> simp_all [power])
theorem pb_par {t : Rx} (hg : Good (txt t)) (h : (power t = 3 → PA (txt t) t) ∧ (2 ≤ power t → PB (txt t) t) ∧ PC (txt t) t) : PB (par 2 t (txt t)) t := by
  unfold par
  split
  · exact (h.2.2.paren hg).row
  · exact h.2.1 (by omega)
theorem reads : ∀ t : Rx, t.ok → t.fit → (power t = 3 → PA (txt t) t) ∧ (2 ≤ power t → PB (txt t) t) ∧ PC (txt t) t
  | .set S, ho, hf => by
    have h : PA (txt (.set S)) (.set S) := fun r => ⟨.set S, r, atom_told hf ho r, rfl⟩
    exact ⟨fun _ => h, fun _ => h.row, h.row.rows⟩
  | .eps, _, _ => by
    have h : PA (txt .eps) .eps := fun r => ⟨.eps, r, by show atomP (40 :: (41 :: r)) = _; rw [atomP_eq]; simp, rfl⟩
    exact ⟨fun _ => h, fun _ => h.row, h.row.rows⟩
  | .cat a b, ho, hf => by
    have ha := reads a ho.1 hf.1
    have hb := reads b ho.2 hf.2
    have ga := good_txt a hf.1
    have gb := good_txt b hf.2
    have h : PB (txt (.cat a b)) (.cat a b) := fun r hr => by
      show rowP (par 2 a (txt a) ++ par 3 b (txt b) ++ r) = _
      have g3 := good_par 3 b gb
      rw [List.append_assoc, pb_par ga ha _ (g3.app r).bare, (pa_par gb hb).more g3 a r hr]
    exact ⟨fun h' => by simp [power] at h', fun _ => h, h.rows⟩
  | .or a b, ho, hf => by
    have ha := reads a ho.1 hf.1
    have hb := reads b ho.2 hf.2
    have gb := good_txt b hf.2
    have h : PC (txt (.or a b)) (.or a b) := fun r hr he => by
      have e1 : par 1 a (txt a) = txt a := by unfold par; rw [if_neg (by cases a <;> simp [power])]
      show rowsP (par 1 a (txt a) ++ (124 :: par 2 b (txt b)) ++ r) = _
      rw [e1, List.append_assoc, List.cons_append, ha.2.2 _ (bare_cons (by decide) (by decide) (by decide)) (by simp [rowEnd]), orsP_eq]
      simp only [List.head?_cons, beq_self_eq_true, if_true, List.tail_cons]
      rw [pb_par gb hb r hr, moreP_eq, if_pos he]
    exact ⟨fun h' => by simp [power] at h', fun h' => by simp [power] at h', h⟩
  | .star a, ho, hf => by
    have ha := pa_par (good_txt a hf) (reads a ho hf)
    have h : PA (txt (.star a)) (.star a) := fun r => by
      obtain ⟨base, q, h1, h2⟩ := ha (42 :: r)
      refine ⟨base, q, ?_, ?_⟩
      · show atomP (par 3 a (txt a) ++ [42] ++ r) = _
        rw [List.append_assoc]; exact h1
      · rw [h2, starsF, if_pos rfl]
    exact ⟨fun _ => h, fun _ => h.row, h.row.rows⟩
  | .plus a, ho, hf => by
    have ha := pa_par (good_txt a hf) (reads a ho hf)
    have h : PA (txt (.plus a)) (.plus a) := fun r => by
      obtain ⟨base, q, h1, h2⟩ := ha (43 :: r)
      refine ⟨base, q, ?_, ?_⟩
      · show atomP (par 3 a (txt a) ++ [43] ++ r) = _
        rw [List.append_assoc]; exact h1
      · rw [h2, starsF, if_neg (by decide), if_pos rfl]
    exact ⟨fun _ => h, fun _ => h.row, h.row.rows⟩
  | .opt a, ho, hf => by
    have ha := pa_par (good_txt a hf) (reads a ho hf)
    have h : PA (txt (.opt a)) (.opt a) := fun r => by
      obtain ⟨base, q, h1, h2⟩ := ha (63 :: r)
      refine ⟨base, q, ?_, ?_⟩
      · show atomP (par 3 a (txt a) ++ [63] ++ r) = _
        rw [List.append_assoc]; exact h1
      · rw [h2, starsF, if_neg (by decide), if_neg (by decide), if_pos rfl]
    exact ⟨fun _ => h, fun _ => h.row, h.row.rows⟩
end Go.Proofs.YtcledgljbmepaaaGreatDoor
namespace Go.Proofs.YtcledgljbmepaaaGreatDoor

theorem hex_lt : ∀ c : UInt8, ∀ a, hexF c = some a → a < 16 := by
  intro c a h
  unfold hexF at h
  split at h
  · rename_i h1
    injection h with h
    have : c.toNat ≤ 57 := h1.2
    omega
  split at h
  · rename_i h1
    injection h with h
    have : c.toNat ≤ 102 := h1.2
    omega
  split at h
  · rename_i h1
    injection h with h
    have : c.toNat ≤ 70 := h1.2
    omega
  · cases h
theorem escF_byte {s : Txt} {b : Nat} {q : Txt} (h : escF s = some (b, q)) : b < 256 := by
  cases s with
  | nil => cases h
  | cons d s =>
    simp only [escF] at h
    split at h
    · injection h with h; injection h with h2 h3; omega
    split at h
    · injection h with h; injection h with h2 h3; omega
    split at h
    · injection h with h; injection h with h2 h3; omega
    split at h
    · match s, h with
      | x :: y :: z, h =>
        simp only at h
        split at h
        · rename_i a b' ha hb
          have h1 := hex_lt x a ha
          have h2 := hex_lt y b' hb
          injection h with h; injection h with h2 h3; omega
        · cases h
    split at h
    · injection h with h; injection h with h2 h3; have := d.toNat_lt; omega
    · cases h
theorem signF_byte {left : UInt8 → Bool} {s : Txt} {b : Nat} {q : Txt} (h : signF left s = some (b, q)) : b < 256 := by
  cases s with
  | nil => cases h
  | cons c s =>
    simp only [signF] at h
    split at h
    · cases h
    split at h
    · exact escF_byte h
    split at h
    · cases h
    · injection h with h; injection h with h2 h3; have := c.toNat_lt; omega
theorem items_fit : ∀ (n : Nat) (first : Bool) (acc : W4) (s : Txt) (S : W4) (q : Txt), Fit4 acc → itemsF n first acc s = some (S, q) → Fit4 S
  | 0, _, _, _, _, _, _, h => by simp [itemsF] at h
  | n + 1, first, acc, s, S, q, ha, h => by
    unfold itemsF at h
    split at h
    · injection h with h; injection h with h _; subst h; exact ha
    split at h
    · cases h
    split at h
    · split at h
      · cases h
      split at h
      · cases h
      · exact items_fit n _ _ _ _ _ (mkB_fit _) h
    · exact items_fit n _ _ _ _ _ (mkB_fit _) h
theorem class_ok {n : Nat} {s : Txt} {S : W4} {q : Txt} (h : classF n s = some (S, q)) : Fit4 S ∧ S ≠ noneB := by
  unfold classF at h
  split at h
  · split at h
    · cases h
    split at h
    · cases h
    · rename_i hne
      injection h with h; injection h with h _; subst h
      exact ⟨mkB_fit _, hne⟩
  · split at h
    · cases h
    rename_i S' r hi
    split at h
    · cases h
    · rename_i hne
      injection h with h; injection h with h _; subst h
      exact ⟨items_fit _ _ _ _ _ _ noneB_fit hi, hne⟩
theorem span_ne {b : Nat} (h : b < 256) : spanB b b ≠ noneB := fun e => by
  have := span_has b b h
  rw [e, noneB_has] at this
  simp at this
theorem dot_ne : notB (spanB 10 10) ≠ noneB := fun e => by
  have : hasB (notB (spanB 10 10)) 0 = true := by unfold notB; rw [mkB_has _ 0 (by omega), span_has 10 0 (by omega)]; rfl
  rw [e, noneB_has] at this
  cases this
def Rx.good (t : Rx) : Prop := t.ok ∧ t.fit
theorem stars_good : ∀ (s : Txt) (t : Rx), t.good → (starsF t s).1.good
  | [], t, h => by simpa [starsF] using h
  | c :: r, t, h => by
    unfold starsF
    split
    · exact stars_good r (.star t) h
    split
    · exact stars_good r (.plus t) h
    split
    · exact stars_good r (.opt t) h
    · exact h
theorem parse_good : ∀ n, (∀ s t q, atomF n s = some (t, q) → t.good) ∧ (∀ s t q, rowF n s = some (t, q) → t.good) ∧ (∀ a s t q, a.good → moreF n a s = some (t, q) → t.good) ∧ (∀ s t q, rowsF n s = some (t, q) → t.good) ∧ (∀ a s t q, a.good → orsF n a s = some (t, q) → t.good)
  | 0 => ⟨fun _ _ _ h => by simp [atomF] at h, fun _ _ _ h => by simp [rowF] at h, fun _ _ _ _ _ h => by simp [moreF] at h, fun _ _ _ h => by simp [rowsF] at h, fun _ _ _ _ _ h => by simp [orsF] at h⟩
  | n + 1 => by
    obtain ⟨iA, iR, iM, iS, iO⟩ := parse_good n
    refine ⟨fun s t q h => ?_, fun s t q h => ?_, fun a s t q ha h => ?_, fun s t q h => ?_, fun a s t q ha h => ?_⟩
    · cases s with
      | nil => simp [atomF] at h
      | cons c r =>
        rw [atomF] at h
        split at h
        · split at h
          · injection h with h; injection h with h _; subst h; exact ⟨trivial, trivial⟩
          split at h
          · rename_i t' q' hr
            split at h
            · injection h with h; injection h with h _; subst h; exact iS _ _ _ hr
            · cases h
          · cases h
        split at h
        · injection h with h; injection h with h _; subst h; exact ⟨dot_ne, mkB_fit _⟩
        split at h
        · split at h
          · rename_i S q' hc
            injection h with h; injection h with h _; subst h; exact ⟨(class_ok hc).2, (class_ok hc).1⟩
          · cases h
        split at h
        · rename_i b q' hs
          injection h with h; injection h with h _; subst h; exact ⟨span_ne (signF_byte hs), mkB_fit _⟩
        · cases h
    · rw [rowF] at h
      split at h
      · rename_i t' q' ha
        exact iM _ _ _ _ (stars_good _ _ (iA _ _ _ ha)) h
      · cases h
    · rw [moreF] at h
      split at h
      · injection h with h; injection h with h _; subst h; exact ha
      split at h
      · rename_i t' q' hb
        have hg := stars_good q' t' (iA _ _ _ hb)
        exact iM _ _ _ _ (show (Rx.cat a (starsF t' q').1).good from ⟨⟨ha.1, hg.1⟩, ⟨ha.2, hg.2⟩⟩) h
      · cases h
    · rw [rowsF] at h
      split at h
      · rename_i t' q' hb
        exact iO _ _ _ _ (iR _ _ _ hb) h
      · cases h
    · rw [orsF] at h
      split at h
      · split at h
        · rename_i t' q' hb
          have hg := iR _ _ _ hb
          exact iO _ _ _ _ (show (Rx.or a t').good from ⟨⟨ha.1, hg.1⟩, ⟨ha.2, hg.2⟩⟩) h
        · cases h
      · injection h with h; injection h with h _; subst h; exact ha
theorem rowsP_good {s : Txt} {t : Rx} {q : Txt} (h : rowsP s = some (t, q)) : t.ok ∧ t.fit := (parse_good _).2.2.2.1 _ _ _ h

/-! ### with a ) behind -/
theorem PC.whole {s : Txt} {t : Rx} (h : PC s t) : rowsP s = some (t, []) := by
  have := h [] bare_nil rfl
  rw [List.append_nil] at this
  rw [this, orsP_eq]
  rfl
end Go.Proofs.YtcledgljbmepaaaGreatDoor
namespace Go.Proofs.YtcledgljbmepaaaGreatDoor
open Go.RowKit

theorem depth_none (l : List Cel) {k : Nat} (h : depthN l k = none) : ∀ m, k ≤ m → depthN l m = none
  | 0, hm => by
    have : k = 0 := by omega
    subst this; exact h
  | m + 1, hm => by
    by_cases e : k = m + 1
    · subst e; exact h
    · have ih := depth_none l h m (by omega)
      rw [depthN, ih]
theorem depth_succ (l : List Cel) {k : Nat} {d : Int} (h : depthN l k = some d) (hk : k < l.length) : depthN l (k + 1) = if badC d l[k] then none else some (d - wants l[k].op + 1) := by
  rw [depthN, h, List.getElem?_eq_getElem hk]
theorem wants_le (op : Int) : -1 ≤ wants op ∧ wants op ≤ 2 := by
  unfold wants
  split
  · omega
  · split
    · omega
    · split <;> omega
theorem right_end {l : List Cel} (h1 : 1 ≤ l.length) (h2 : l.length ≤ 60) {d : Int} (h : depthN l l.length = some d) : rightB l = (d == 1) := by
  unfold rightB
  rw [decide_eq_true h1, decide_eq_true h2, h, Bool.eq_iff_iff]
  simp
theorem right_bad {l : List Cel} (h : depthN l l.length = none) : rightB l = false := by
  unfold rightB
  rw [h]
  simp

end Go.Proofs.YtcledgljbmepaaaGreatDoor
namespace Go.Proofs.YtcledgljbmepaaaGreatDoor
open Go.RowKit

end Go.Proofs.YtcledgljbmepaaaGreatDoor
