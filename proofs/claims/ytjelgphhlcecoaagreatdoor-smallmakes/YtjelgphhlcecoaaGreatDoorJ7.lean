/- What is told of a rule is read to that rule. What is read is a right rule; a text in parentheses. Slices of cells: own ones, appended ones. -/
import Derived.Test.YtjelgphhlcecoaaGreatDoorJ6
import Derived.Test.YtjelgphhlcecoaaGreatDoorJ3
import Derived.Laws.AppendOwnNone
import Derived.Laws.OwnMore
namespace Go.Proofs.YtjelgphhlcecoaaGreatDoor

theorem count_mono {S T : W4} (h : ∀ x, x < 256 → hasB T x = true → hasB S x = true) : ∀ k, k ≤ 256 → countN T k ≤ countN S k
  | 0, _ => by rw [countN_zero, countN_zero]; exact Nat.le_refl _
  | k + 1, hk => by
    have := count_mono h k (by omega)
    rw [countN_succ, countN_succ]
    cases e : hasB T k with
    | false => simp; omega
    | true => rw [h k (by omega) e]; simp; omega
theorem count_strict {S T : W4} (h : ∀ x, x < 256 → hasB T x = true → hasB S x = true) {y : Nat} (hS : hasB S y = true) (hT : hasB T y = false) : ∀ k, k ≤ 256 → y < k → countN T k < countN S k
  | 0, _, hy => absurd hy (Nat.not_lt_zero _)
  | k + 1, hk, hy => by
    rw [countN_succ, countN_succ]
    by_cases e : y = k
    · subst e
      have := count_mono h y (by omega)
      rw [hS, hT]; simp; omega
    · have := count_strict h hS hT k (by omega) (by omega)
      cases e : hasB T k with
      | false => simp; omega
      | true => rw [h k (by omega) e]; simp; omega
theorem span_has (b x : Nat) (hx : x < 256) : hasB (spanB b b) x = decide (x = b) := by
  unfold spanB
  rw [mkB_has _ x hx, Bool.eq_iff_iff]
  simp
  omega
theorem min_has {S : W4} : ∀ x, hasB S x = true → ∃ m, m ≤ x ∧ hasB S m = true ∧ ∀ y, y < m → hasB S y = false := by
  intro x
  induction x using Nat.strongRecOn with
  | ind x ih =>
    intro hx
    by_cases h : ∃ y, y < x ∧ hasB S y = true
    · obtain ⟨y, hy, hh⟩ := h
      obtain ⟨m, h1, h2, h3⟩ := ih y hy hh
      exact ⟨m, by omega, h2, h3⟩
    · exact ⟨x, Nat.le_refl _, hx, fun y hy => by cases e : hasB S y with | false => rfl | true => exact absurd ⟨y, hy, e⟩ h⟩
theorem one_of_count {S : W4} (hS : Fit4 S) (h : countB S = 1) : ∃ b : Nat, b < 256 ∧ leastB S = (b : Int) ∧ S = spanB b b := by
  have hne : S ≠ noneB := fun e => by
    rw [e, countB_eq] at h
    have : ∀ k, k ≤ 256 → countN noneB k = 0 := fun k => by
      induction k with
      | zero => intro _; exact countN_zero _
      | succ k ih => intro hk; rw [countN_succ, ih (by omega), noneB_has]; rfl
    rw [this 256 (Nat.le_refl _)] at h
    cases h
  obtain ⟨x, hx, hh⟩ := some_has hS hne
  obtain ⟨m, h1, h2, h3⟩ := min_has x hh
  have hm : m < 256 := by omega
  refine ⟨m, hm, least_at h2 hm h3, set_ext hS (mkB_fit _) fun y hy => ?_⟩
  rw [span_has m y hy]
  by_cases e : y = m
  · subst e; rw [h2]; simp
  · cases e' : hasB S y with
    | false => simp [e]
    | true =>
      exfalso
      have hsub : ∀ z, z < 256 → hasB (spanB m m) z = true → hasB S z = true := fun z hz h' => by
        rw [span_has m z hz, decide_eq_true_iff] at h'
        subst h'; exact h2
      have h4 := count_strict hsub e' (by rw [span_has m y hy]; simp [e]) 256 (Nat.le_refl _) hy
      have h5 : 0 < countN (spanB m m) 256 := count_pos (x := m) (by rw [span_has m m hm]; simp) 256 hm
      rw [countB_eq] at h
      omega
theorem dot_of_count {S : W4} (hS : Fit4 S) (h : countB S = 255) (h10 : hasB S 10 = false) : S = notB (spanB 10 10) := by
  have hN : ∀ x, x < 256 → hasB (notB (spanB 10 10)) x = !decide (x = 10) := fun x hx => by
    unfold notB
    rw [mkB_has _ x hx, span_has 10 x hx]
  refine set_ext hS (not_fit _) fun y hy => ?_
  rw [hN y hy]
  by_cases e : y = 10
  · subst e; rw [h10]; rfl
  · cases e' : hasB S y with
    | true => simp [e]
    | false =>
      exfalso
      have hsub : ∀ z, z < 256 → hasB S z = true → hasB (notB (spanB 10 10)) z = true := fun z hz h' => by
        rw [hN z hz]
        by_cases e : z = 10
        · subst e; rw [h10] at h'; cases h'
        · simp [e]
      have h4 := count_strict hsub (y := y) (by rw [hN y hy]; simp [e]) e' 256 (Nat.le_refl _) hy
      have h5 := count_both (spanB 10 10)
      have h6 : 0 < countN (spanB 10 10) 256 := count_pos (x := 10) (by rw [span_has 10 10 (by omega)]; rfl) 256 (by omega)
      rw [countB_eq, countB_eq] at h5
      rw [countB_eq] at h
      omega
theorem atom_told {S : W4} (hS : Fit4 S) (hne : S ≠ noneB) (r : Txt) : atomP (toldL S ++ r) = some (.set S, r) := by
  unfold toldL
  split
  · rename_i h
    obtain ⟨b, hb, hl, hs⟩ := one_of_count hS h
    rw [hl, Int.toNat_natCast]
    obtain ⟨c, q, e, hc⟩ := headA b hb
    have hal := aloneA b hb r
    rw [e] at hal ⊢
    have h1 : ¬ c = 40 := fun e => by subst e; exact absurd hc (by decide)
    have h2 : ¬ c = 46 := fun e => by subst e; exact absurd hc (by decide)
    have h3 : ¬ c = 91 := fun e => by subst e; exact absurd hc (by decide)
    rw [List.cons_append] at hal ⊢
    rw [atomP_eq, if_neg h1, if_neg h2, if_neg h3, hal, hs]
  split
  · rename_i h
    rw [dot_of_count hS h.1 h.2]
    rfl
  · rw [List.cons_append, List.append_assoc]
    show atomP (91 :: (runsL S 0 257 ++ (93 :: r))) = _
    rw [atomP_eq, if_neg (by decide), if_neg (by decide), if_pos rfl, class_runs hS hne r _ (by simp; omega)]

def Rx.fit : Rx → Prop
  | .set S => Fit4 S
  | .eps => True
  | .cat a b => a.fit ∧ b.fit
  | .or a b => a.fit ∧ b.fit
  | .star a => a.fit
  | .plus a => a.fit
  | .opt a => a.fit
def power : Rx → Nat
  | .or _ _ => 1
  | .cat _ _ => 2
  | _ => 3
def par (p : Nat) (t : Rx) (s : Txt) : Txt := if power t < p then 40 :: (s ++ [41]) else s
/-- a rule as it is told -/
def txt : Rx → Txt
  | .set S => toldL S
  | .eps => [40, 41]
  | .cat a b => par 2 a (txt a) ++ par 3 b (txt b)
  | .or a b => par 1 a (txt a) ++ (124 :: par 2 b (txt b))
  | .star a => par 3 a (txt a) ++ [42]
  | .plus a => par 3 a (txt a) ++ [43]
  | .opt a => par 3 a (txt a) ++ [63]
/-- a text that begins as a piece begins -/
def Good (s : Txt) : Prop := ∃ c r, s = c :: r ∧ c ≠ 41 ∧ c ≠ 42 ∧ c ≠ 43 ∧ c ≠ 63 ∧ c ≠ 124
theorem Good.app {s : Txt} (h : Good s) (r : Txt) : Good (s ++ r) := by
  obtain ⟨c, q, rfl, h⟩ := h
  exact ⟨c, q ++ r, rfl, h⟩
theorem good_par (p : Nat) (t : Rx) {s : Txt} (h : Good s) : Good (par p t s) := by
  unfold par
  split
  · exact ⟨40, _, rfl, by decide⟩
  · exact h
theorem good_told (S : W4) (hS : Fit4 S) : Good (toldL S) := by
  unfold toldL
  split
  · rename_i h
    obtain ⟨b, hb, hl, _⟩ := one_of_count hS h
    rw [hl, Int.toNat_natCast]
    obtain ⟨c, q, e, hc⟩ := headA b hb
    refine ⟨c, q, e, ?_, ?_, ?_, ?_, ?_⟩ <;> (rintro rfl; exact absurd hc (by decide))
  split
  · exact ⟨46, [], rfl, by decide⟩
  · exact ⟨91, _, rfl, by decide⟩
theorem good_txt : ∀ t : Rx, t.fit → Good (txt t)
  | .set S, h => good_told S h
  | .eps, _ => ⟨40, [41], rfl, by decide⟩
  | .cat a b, h => (good_par 2 a (good_txt a h.1)).app _
  | .or a b, h => (good_par 1 a (good_txt a h.1)).app _
  | .star a, h => (good_par 3 a (good_txt a h)).app _
  | .plus a, h => (good_par 3 a (good_txt a h)).app _
  | .opt a, h => (good_par 3 a (good_txt a h)).app _
/-- no * + ? ahead -/
def Bare (r : Txt) : Prop := ∀ t, starsF t r = (t, r)
theorem bare_nil : Bare [] := fun _ => rfl
theorem bare_cons {c : UInt8} {r : Txt} (h1 : c ≠ 42) (h2 : c ≠ 43) (h3 : c ≠ 63) : Bare (c :: r) := fun t => by rw [starsF, if_neg h1, if_neg h2, if_neg h3]
theorem Good.bare {s : Txt} (h : Good s) : Bare s := by
  obtain ⟨c, r, rfl, _, h2, h3, h4, _⟩ := h
  exact bare_cons h2 h3 h4
theorem Good.goes {s : Txt} (h : Good s) : rowEnd s = false := by
  obtain ⟨c, r, rfl, h1, _, _, _, h5⟩ := h
  simp [rowEnd, h1, h5]
def PA (s : Txt) (t : Rx) : Prop := ∀ r, ∃ base q, atomP (s ++ r) = some (base, q) ∧ starsF base q = starsF t r
def PB (s : Txt) (t : Rx) : Prop := ∀ r, Bare r → rowP (s ++ r) = moreP t r
def PC (s : Txt) (t : Rx) : Prop := ∀ r, Bare r → rowEnd r = true → rowsP (s ++ r) = orsP t r
theorem PA.row {s : Txt} {t : Rx} (h : PA s t) : PB s t := fun r hr => by
  obtain ⟨base, q, h1, h2⟩ := h r
  rw [rowP_eq, h1]
  simp only
  rw [h2, hr t]
theorem PB.rows {s : Txt} {t : Rx} (h : PB s t) : PC s t := fun r hr he => by
  rw [rowsP_eq, h r hr, moreP_eq, if_pos he]
theorem PA.more {s : Txt} {t : Rx} (h : PA s t) (hg : Good s) (a : Rx) (r : Txt) (hr : Bare r) : moreP a (s ++ r) = moreP (.cat a t) r := by
  obtain ⟨base, q, h1, h2⟩ := h r
  rw [moreP_eq, (hg.app r).goes, h1]
  simp only
  rw [h2, hr t]
  rfl
/-- in parentheses -/
theorem PC.paren {s : Txt} {t : Rx} (h : PC s t) (hg : Good s) : PA (40 :: (s ++ [41])) t := fun r => by
  refine ⟨t, r, ?_, rfl⟩
  have h1 := h (41 :: r) (bare_cons (by decide) (by decide) (by decide)) (by simp [rowEnd])
  have h2 : ((s ++ (41 :: r)).head? == some 41) = false := by
    obtain ⟨c, q, rfl, hc, _⟩ := hg
    simp [hc]
  rw [List.cons_append, List.append_assoc]
  show atomP (40 :: (s ++ (41 :: r))) = _
  rw [atomP_eq, if_pos rfl, h2, h1, orsP_eq]
  simp
theorem pa_par {t : Rx} (hg : Good (txt t)) (h : (power t = 3 → PA (txt t) t) ∧ (2 ≤ power t → PB (txt t) t) ∧ PC (txt t) t) : PA (par 3 t (txt t)) t := by
  unfold par
  split
  · exact h.2.2.paren hg
  · exact h.1 (by cases t <;> simp_all [power])
theorem pb_par {t : Rx} (hg : Good (txt t)) (h : (power t = 3 → PA (txt t) t) ∧ (2 ≤ power t → PB (txt t) t) ∧ PC (txt t) t) : PB (par 2 t (txt t)) t := by
  unfold par
  split
  · exact (h.2.2.paren hg).row
  · exact h.2.1 (by omega)
theorem reads : ∀ t : Rx, t.ok → t.fit → (power t = 3 → PA (txt t) t) ∧ (2 ≤ power t → PB (txt t) t) ∧ PC (txt t) t
  | .set S, ho, hf => by
    have h : PA (txt (.set S)) (.set S) := fun r => ⟨.set S, r, atom_told hf ho r, rfl⟩
    exact ⟨fun _ => h, fun _ => h.row, h.row.rows⟩
  | .eps, _, _ => by
    have h : PA (txt .eps) .eps := fun r => ⟨.eps, r, by show atomP (40 :: (41 :: r)) = _; rw [atomP_eq]; simp, rfl⟩
    exact ⟨fun _ => h, fun _ => h.row, h.row.rows⟩
  | .cat a b, ho, hf => by
    have ha := reads a ho.1 hf.1
    have hb := reads b ho.2 hf.2
    have ga := good_txt a hf.1
    have gb := good_txt b hf.2
    have h : PB (txt (.cat a b)) (.cat a b) := fun r hr => by
      show rowP (par 2 a (txt a) ++ par 3 b (txt b) ++ r) = _
      have g3 := good_par 3 b gb
      rw [List.append_assoc, pb_par ga ha _ (g3.app r).bare, (pa_par gb hb).more g3 a r hr]
    exact ⟨fun h' => by simp [power] at h', fun _ => h, h.rows⟩
  | .or a b, ho, hf => by
    have ha := reads a ho.1 hf.1
    have hb := reads b ho.2 hf.2
    have gb := good_txt b hf.2
    have h : PC (txt (.or a b)) (.or a b) := fun r hr he => by
      have e1 : par 1 a (txt a) = txt a := by unfold par; rw [if_neg (by cases a <;> simp [power])]
      show rowsP (par 1 a (txt a) ++ (124 :: par 2 b (txt b)) ++ r) = _
      rw [e1, List.append_assoc, List.cons_append, ha.2.2 _ (bare_cons (by decide) (by decide) (by decide)) (by simp [rowEnd]), orsP_eq]
      simp only [List.head?_cons, beq_self_eq_true, if_true, List.tail_cons]
      rw [pb_par gb hb r hr, moreP_eq, if_pos he]
    exact ⟨fun h' => by simp [power] at h', fun h' => by simp [power] at h', h⟩
  | .star a, ho, hf => by
    have ha := pa_par (good_txt a hf) (reads a ho hf)
    have h : PA (txt (.star a)) (.star a) := fun r => by
      obtain ⟨base, q, h1, h2⟩ := ha (42 :: r)
      refine ⟨base, q, ?_, ?_⟩
      · show atomP (par 3 a (txt a) ++ [42] ++ r) = _
        rw [List.append_assoc]; exact h1
      · rw [h2, starsF, if_pos rfl]
    exact ⟨fun _ => h, fun _ => h.row, h.row.rows⟩
  | .plus a, ho, hf => by
    have ha := pa_par (good_txt a hf) (reads a ho hf)
    have h : PA (txt (.plus a)) (.plus a) := fun r => by
      obtain ⟨base, q, h1, h2⟩ := ha (43 :: r)
      refine ⟨base, q, ?_, ?_⟩
      · show atomP (par 3 a (txt a) ++ [43] ++ r) = _
        rw [List.append_assoc]; exact h1
      · rw [h2, starsF, if_neg (by decide), if_pos rfl]
    exact ⟨fun _ => h, fun _ => h.row, h.row.rows⟩
  | .opt a, ho, hf => by
    have ha := pa_par (good_txt a hf) (reads a ho hf)
    have h : PA (txt (.opt a)) (.opt a) := fun r => by
      obtain ⟨base, q, h1, h2⟩ := ha (63 :: r)
      refine ⟨base, q, ?_, ?_⟩
      · show atomP (par 3 a (txt a) ++ [63] ++ r) = _
        rw [List.append_assoc]; exact h1
      · rw [h2, starsF, if_neg (by decide), if_neg (by decide), if_pos rfl]
    exact ⟨fun _ => h, fun _ => h.row, h.row.rows⟩
/-- the whole text -/
theorem reads_all {t : Rx} (ho : t.ok) (hf : t.fit) : rowsP (txt t) = some (t, []) := by
  have := (reads t ho hf).2.2 [] bare_nil rfl
  rw [List.append_nil] at this
  rw [this, orsP_eq]
  rfl

end Go.Proofs.YtjelgphhlcecoaaGreatDoor
namespace Go.Proofs.YtjelgphhlcecoaaGreatDoor

theorem hex_lt : ∀ c : UInt8, ∀ a, hexF c = some a → a < 16 := by
  intro c a h
  unfold hexF at h
  split at h
  · rename_i h1
    injection h with h
    have : c.toNat ≤ 57 := h1.2
    omega
  split at h
  · rename_i h1
    injection h with h
    have : c.toNat ≤ 102 := h1.2
    omega
  split at h
  · rename_i h1
    injection h with h
    have : c.toNat ≤ 70 := h1.2
    omega
  · cases h
theorem escF_byte {s : Txt} {b : Nat} {q : Txt} (h : escF s = some (b, q)) : b < 256 := by
  cases s with
  | nil => cases h
  | cons d s =>
    simp only [escF] at h
    split at h
    · injection h with h; injection h with h2 h3; omega
    split at h
    · injection h with h; injection h with h2 h3; omega
    split at h
    · injection h with h; injection h with h2 h3; omega
    split at h
    · match s, h with
      | x :: y :: z, h =>
        simp only at h
        split at h
        · rename_i a b' ha hb
          have h1 := hex_lt x a ha
          have h2 := hex_lt y b' hb
          injection h with h; injection h with h2 h3; omega
        · cases h
    split at h
    · injection h with h; injection h with h2 h3; have := d.toNat_lt; omega
    · cases h
theorem signF_byte {left : UInt8 → Bool} {s : Txt} {b : Nat} {q : Txt} (h : signF left s = some (b, q)) : b < 256 := by
  cases s with
  | nil => cases h
  | cons c s =>
    simp only [signF] at h
    split at h
    · cases h
    split at h
    · exact escF_byte h
    split at h
    · cases h
    · injection h with h; injection h with h2 h3; have := c.toNat_lt; omega
theorem items_fit : ∀ (n : Nat) (first : Bool) (acc : W4) (s : Txt) (S : W4) (q : Txt), Fit4 acc → itemsF n first acc s = some (S, q) → Fit4 S
  | 0, _, _, _, _, _, _, h => by simp [itemsF] at h
  | n + 1, first, acc, s, S, q, ha, h => by
    unfold itemsF at h
    split at h
    · injection h with h; injection h with h _; subst h; exact ha
    split at h
    · cases h
    split at h
    · split at h
      · cases h
      split at h
      · cases h
      · exact items_fit n _ _ _ _ _ (mkB_fit _) h
    · exact items_fit n _ _ _ _ _ (mkB_fit _) h
theorem class_ok {n : Nat} {s : Txt} {S : W4} {q : Txt} (h : classF n s = some (S, q)) : Fit4 S ∧ S ≠ noneB := by
  unfold classF at h
  split at h
  · split at h
    · cases h
    split at h
    · cases h
    · rename_i hne
      injection h with h; injection h with h _; subst h
      exact ⟨mkB_fit _, hne⟩
  · split at h
    · cases h
    rename_i S' r hi
    split at h
    · cases h
    · rename_i hne
      injection h with h; injection h with h _; subst h
      exact ⟨items_fit _ _ _ _ _ _ noneB_fit hi, hne⟩
theorem span_ne {b : Nat} (h : b < 256) : spanB b b ≠ noneB := fun e => by
  have := span_has b b h
  rw [e, noneB_has] at this
  simp at this
theorem dot_ne : notB (spanB 10 10) ≠ noneB := fun e => by
  have : hasB (notB (spanB 10 10)) 0 = true := by unfold notB; rw [mkB_has _ 0 (by omega), span_has 10 0 (by omega)]; rfl
  rw [e, noneB_has] at this
  cases this
def Rx.good (t : Rx) : Prop := t.ok ∧ t.fit
theorem good_star {a : Rx} (h : a.good) : (Rx.star a).good := h
theorem stars_good : ∀ (s : Txt) (t : Rx), t.good → (starsF t s).1.good
  | [], t, h => by simpa [starsF] using h
  | c :: r, t, h => by
    unfold starsF
    split
    · exact stars_good r (.star t) h
    split
    · exact stars_good r (.plus t) h
    split
    · exact stars_good r (.opt t) h
    · exact h
theorem parse_good : ∀ n, (∀ s t q, atomF n s = some (t, q) → t.good) ∧ (∀ s t q, rowF n s = some (t, q) → t.good) ∧ (∀ a s t q, a.good → moreF n a s = some (t, q) → t.good) ∧ (∀ s t q, rowsF n s = some (t, q) → t.good) ∧ (∀ a s t q, a.good → orsF n a s = some (t, q) → t.good)
  | 0 => ⟨fun _ _ _ h => by simp [atomF] at h, fun _ _ _ h => by simp [rowF] at h, fun _ _ _ _ _ h => by simp [moreF] at h, fun _ _ _ h => by simp [rowsF] at h, fun _ _ _ _ _ h => by simp [orsF] at h⟩
  | n + 1 => by
    obtain ⟨iA, iR, iM, iS, iO⟩ := parse_good n
    refine ⟨fun s t q h => ?_, fun s t q h => ?_, fun a s t q ha h => ?_, fun s t q h => ?_, fun a s t q ha h => ?_⟩
    · cases s with
      | nil => simp [atomF] at h
      | cons c r =>
        rw [atomF] at h
        split at h
        · split at h
          · injection h with h; injection h with h _; subst h; exact ⟨trivial, trivial⟩
          split at h
          · rename_i t' q' hr
            split at h
            · injection h with h; injection h with h _; subst h; exact iS _ _ _ hr
            · cases h
          · cases h
        split at h
        · injection h with h; injection h with h _; subst h; exact ⟨dot_ne, mkB_fit _⟩
        split at h
        · split at h
          · rename_i S q' hc
            injection h with h; injection h with h _; subst h; exact ⟨(class_ok hc).2, (class_ok hc).1⟩
          · cases h
        split at h
        · rename_i b q' hs
          injection h with h; injection h with h _; subst h; exact ⟨span_ne (signF_byte hs), mkB_fit _⟩
        · cases h
    · rw [rowF] at h
      split at h
      · rename_i t' q' ha
        exact iM _ _ _ _ (stars_good _ _ (iA _ _ _ ha)) h
      · cases h
    · rw [moreF] at h
      split at h
      · injection h with h; injection h with h _; subst h; exact ha
      split at h
      · rename_i t' q' hb
        have hg := stars_good q' t' (iA _ _ _ hb)
        exact iM _ _ _ _ (show (Rx.cat a (starsF t' q').1).good from ⟨⟨ha.1, hg.1⟩, ⟨ha.2, hg.2⟩⟩) h
      · cases h
    · rw [rowsF] at h
      split at h
      · rename_i t' q' hb
        exact iO _ _ _ _ (iR _ _ _ hb) h
      · cases h
    · rw [orsF] at h
      split at h
      · split at h
        · rename_i t' q' hb
          have hg := iR _ _ _ hb
          exact iO _ _ _ _ (show (Rx.or a t').good from ⟨⟨ha.1, hg.1⟩, ⟨ha.2, hg.2⟩⟩) h
        · cases h
      · injection h with h; injection h with h _; subst h; exact ha
theorem rowsP_good {s : Txt} {t : Rx} {q : Txt} (h : rowsP s = some (t, q)) : t.ok ∧ t.fit := (parse_good _).2.2.2.1 _ _ _ h

/-! ### with a ) behind -/
theorem items_ext (r : Txt) : ∀ (n : Nat) (first : Bool) (acc : W4) (s : Txt) (S : W4) (q : Txt) (m : Nat), n ≤ m → itemsF n first acc s = some (S, q) → itemsF m first acc (s ++ r) = some (S, q ++ r)
  | 0, _, _, _, _, _, _, _, h => by simp [itemsF] at h
  | n + 1, first, acc, s, S, q, 0, hm, _ => by omega
  | n + 1, first, acc, s, S, q, m + 1, hm, h => by
    cases s with
    | nil =>
      exfalso
      unfold itemsF at h
      simp [signF] at h
    | cons c s =>
      unfold itemsF at h ⊢
      rw [List.cons_append]
      by_cases h1 : (!first && (c :: s).head? == some 93) = true
      · rw [if_pos h1] at h
        rw [if_pos (show (!first && (c :: (s ++ r)).head? == some 93) = true from h1)]
        injection h with h; injection h with h2 h3; subst h2 h3; rfl
      rw [if_neg h1] at h
      rw [if_neg (show ¬ (!first && (c :: (s ++ r)).head? == some 93) = true from h1)]
      split at h
      · cases h
      rename_i a s1 hs
      have e1 := signF_ext r hs
      rw [List.cons_append] at e1
      rw [e1]
      show (if ((s1 ++ r).head? == some 45) = true then _ else _) = _
      cases s1 with
      | nil =>
        exfalso
        rw [if_neg (show ¬ (([] : Txt).head? == some 45) = true by decide)] at h
        cases n with
        | zero => simp [itemsF] at h
        | succ n => unfold itemsF at h; simp [signF] at h
      | cons d s1 =>
        rw [List.cons_append]
        by_cases h2 : ((d :: s1).head? == some 45) = true
        · rw [if_pos h2] at h
          rw [if_pos (show ((d :: (s1 ++ r)).head? == some 45) = true from h2)]
          rw [List.tail_cons] at h ⊢
          split at h
          · cases h
          rename_i b s2 hs2
          rw [signF_ext r hs2]
          show (if b < a then none else _) = _
          by_cases h3 : b < a
          · rw [if_pos h3] at h; cases h
          · rw [if_neg h3] at h ⊢
            exact items_ext r n _ _ _ _ _ m (by omega) h
        · rw [if_neg h2] at h
          rw [if_neg (show ¬ ((d :: (s1 ++ r)).head? == some 45) = true from h2)]
          exact items_ext r n _ _ (d :: s1) _ _ m (by omega) h
theorem class_ext {n m : Nat} {s : Txt} {S : W4} {q : Txt} (r : Txt) (hm : n ≤ m) (h : classF n s = some (S, q)) : classF m (s ++ r) = some (S, q ++ r) := by
  cases s with
  | nil =>
    exfalso
    unfold classF at h
    rw [if_neg (show ¬ (([] : Txt).head? == some 94) = true by decide)] at h
    cases n with
    | zero => simp [itemsF] at h
    | succ n => unfold itemsF at h; simp [signF] at h
  | cons c s =>
    unfold classF at h ⊢
    rw [List.cons_append]
    by_cases h1 : ((c :: s).head? == some 94) = true
    · rw [if_pos h1] at h
      rw [if_pos (show ((c :: (s ++ r)).head? == some 94) = true from h1)]
      rw [List.tail_cons] at h ⊢
      split at h
      · cases h
      rename_i S' q' hi
      rw [items_ext r _ _ _ _ _ _ m hm hi]
      show (if notB S' = noneB then none else _) = _
      by_cases h2 : notB S' = noneB
      · rw [if_pos h2] at h; cases h
      · rw [if_neg h2] at h ⊢
        injection h with h; injection h with h3 h4; subst h3 h4; rfl
    · rw [if_neg h1] at h
      rw [if_neg (show ¬ ((c :: (s ++ r)).head? == some 94) = true from h1)]
      split at h
      · cases h
      rename_i S' q' hi
      have e := items_ext r _ _ _ _ _ _ m hm hi
      rw [List.cons_append] at e
      rw [e]
      show (if S' = noneB then none else _) = _
      by_cases h2 : S' = noneB
      · rw [if_pos h2] at h; cases h
      · rw [if_neg h2] at h ⊢
        injection h with h; injection h with h3 h4; subst h3 h4; rfl
theorem stars_ext (r : Txt) : ∀ (s : Txt) (t : Rx), starsF t (s ++ (41 :: r)) = ((starsF t s).1, (starsF t s).2 ++ (41 :: r))
  | [], t => by
    exact bare_cons (by decide) (by decide) (by decide) t
  | c :: s, t => by
    rw [List.cons_append, starsF, starsF]
    split
    · exact stars_ext r s _
    split
    · exact stars_ext r s _
    split
    · exact stars_ext r s _
    · rfl
theorem end_ext (r : Txt) (s : Txt) : rowEnd (s ++ (41 :: r)) = rowEnd s := by
  cases s with
  | nil => rfl
  | cons c s => rfl
theorem parse_ext (r : Txt) : ∀ n, (∀ s t q, atomF n s = some (t, q) → atomP (s ++ (41 :: r)) = some (t, q ++ (41 :: r))) ∧ (∀ s t q, rowF n s = some (t, q) → rowP (s ++ (41 :: r)) = some (t, q ++ (41 :: r))) ∧ (∀ a s t q, moreF n a s = some (t, q) → moreP a (s ++ (41 :: r)) = some (t, q ++ (41 :: r))) ∧ (∀ s t q, rowsF n s = some (t, q) → rowsP (s ++ (41 :: r)) = some (t, q ++ (41 :: r))) ∧ (∀ a s t q, orsF n a s = some (t, q) → orsP a (s ++ (41 :: r)) = some (t, q ++ (41 :: r)))
  | 0 => ⟨fun _ _ _ h => by simp [atomF] at h, fun _ _ _ h => by simp [rowF] at h, fun _ _ _ _ h => by simp [moreF] at h, fun _ _ _ h => by simp [rowsF] at h, fun _ _ _ _ h => by simp [orsF] at h⟩
  | n + 1 => by
    obtain ⟨iA, iR, iM, iS, iO⟩ := parse_ext r n
    refine ⟨fun s t q h => ?_, fun s t q h => ?_, fun a s t q h => ?_, fun s t q h => ?_, fun a s t q h => ?_⟩
    · cases s with
      | nil => simp [atomF] at h
      | cons c s =>
        rw [atomF] at h
        rw [List.cons_append, atomP_eq]
        split
        · rename_i h1; rw [if_pos h1] at h
          cases s with
          | nil =>
            exfalso
            rw [if_neg (show ¬ (([] : Txt).head? == some 41) = true by decide)] at h
            split at h
            · rename_i t' q' hr
              have := (parse_lt n).2.2.2.1 _ _ _ hr
              simp at this
            · cases h
          | cons d s =>
            rw [List.cons_append]
            by_cases h2 : ((d :: s).head? == some 41) = true
            · rw [if_pos h2] at h
              rw [if_pos (show ((d :: (s ++ (41 :: r))).head? == some 41) = true from h2)]
              rw [List.tail_cons] at h ⊢
              injection h with h; injection h with h3 h4; subst h3 h4; rfl
            rw [if_neg h2] at h
            rw [if_neg (show ¬ ((d :: (s ++ (41 :: r))).head? == some 41) = true from h2)]
            split at h
            · rename_i t' q' hr
              have e := iS _ _ _ hr
              rw [List.cons_append] at e
              rw [e]
              show (if ((q' ++ (41 :: r)).head? == some 41) = true then _ else _) = _
              cases q' with
              | nil =>
                exfalso
                rw [if_neg (show ¬ (([] : Txt).head? == some 41) = true by decide)] at h
                cases h
              | cons x q' =>
                rw [List.cons_append]
                by_cases h3 : ((x :: q').head? == some 41) = true
                · rw [if_pos h3] at h
                  rw [if_pos (show ((x :: (q' ++ (41 :: r))).head? == some 41) = true from h3)]
                  rw [List.tail_cons] at h ⊢
                  injection h with h; injection h with h4 h5; subst h4 h5; rfl
                · rw [if_neg h3] at h; cases h
            · cases h
        rename_i h1; rw [if_neg h1] at h
        split
        · rename_i h2; rw [if_pos h2] at h; injection h with h; injection h with h3 h4; subst h3 h4; rfl
        rename_i h2; rw [if_neg h2] at h
        split
        · rename_i h3; rw [if_pos h3] at h
          split at h
          · rename_i S q' hc
            injection h with h; injection h with h4 h5; subst h4 h5
            rw [class_ext (41 :: r) (by simp) hc]
          · cases h
        · rename_i h3; rw [if_neg h3] at h
          split at h
          · rename_i b q' hs
            injection h with h; injection h with h4 h5; subst h4 h5
            have e := signF_ext (41 :: r) hs
            rw [List.cons_append] at e
            rw [e]
          · cases h
    · rw [rowF] at h
      rw [rowP_eq]
      split at h
      · rename_i t' q' ha
        rw [iA _ _ _ ha]
        simp only
        rw [stars_ext]
        exact iM _ _ _ _ h
      · cases h
    · rw [moreF] at h
      rw [moreP_eq, end_ext]
      split
      · rename_i h1; rw [if_pos h1] at h; injection h with h; injection h with h3 h4; subst h3 h4; rfl
      rename_i h1; rw [if_neg h1] at h
      split at h
      · rename_i t' q' ha
        rw [iA _ _ _ ha]
        simp only
        rw [stars_ext]
        exact iM _ _ _ _ h
      · cases h
    · rw [rowsF] at h
      rw [rowsP_eq]
      split at h
      · rename_i t' q' ha
        rw [iR _ _ _ ha]
        exact iO _ _ _ _ h
      · cases h
    · rw [orsF] at h
      rw [orsP_eq]
      cases s with
      | nil =>
        rw [if_neg (show ¬ (([] : Txt).head? == some 124) = true by decide)] at h
        injection h with h; injection h with h3 h4; subst h3 h4
        rfl
      | cons c s =>
        rw [List.cons_append]
        by_cases h1 : ((c :: s).head? == some 124) = true
        · rw [if_pos h1] at h
          rw [if_pos (show ((c :: (s ++ (41 :: r))).head? == some 124) = true from h1)]
          rw [List.tail_cons] at h ⊢
          split at h
          · rename_i t' q' ha
            rw [iR _ _ _ ha]
            exact iO _ _ _ _ h
          · cases h
        · rw [if_neg h1] at h
          rw [if_neg (show ¬ ((c :: (s ++ (41 :: r))).head? == some 124) = true from h1)]
          injection h with h; injection h with h3 h4; subst h3 h4
          rfl

/-! ### groups -/
theorem rowsP_head {s : Txt} {t : Rx} {q : Txt} (h : rowsP s = some (t, q)) : ∃ c r, s = c :: r ∧ c ≠ 41 := by
  cases s with
  | nil => have := rowsP_lt h; simp at this
  | cons c r =>
    refine ⟨c, r, rfl, ?_⟩
    rintro rfl
    rw [rowsP_eq, rowP_eq, atomP_eq] at h
    simp [signF, leftA] at h
/-- a whole text in parentheses is read as an atom -/
theorem group_atom {s : Txt} {t : Rx} (h : rowsP s = some (t, [])) (r : Txt) : atomP (40 :: (s ++ (41 :: r))) = some (t, r) := by
  have e := (parse_ext r _).2.2.2.1 _ _ _ h
  obtain ⟨c, q, rfl, hc⟩ := rowsP_head h
  have h2 : ((c :: q ++ (41 :: r)).head? == some 41) = false := by simp [hc]
  rw [atomP_eq, if_pos rfl, h2, e]
  simp
theorem group_pa {s : Txt} {t : Rx} (h : rowsP s = some (t, [])) : PA (40 :: (s ++ [41])) t := fun r => ⟨t, r, by
  rw [List.cons_append, List.append_assoc]
  exact group_atom h r, rfl⟩
theorem good_open (s : Txt) : Good (40 :: s) := ⟨40, s, rfl, by decide⟩
theorem PC.whole {s : Txt} {t : Rx} (h : PC s t) : rowsP s = some (t, []) := by
  have := h [] bare_nil rfl
  rw [List.append_nil] at this
  rw [this, orsP_eq]
  rfl
theorem group_one {s : Txt} {t : Rx} (h : rowsP s = some (t, [])) : rowsP (40 :: (s ++ [41])) = some (t, []) := (group_pa h).row.rows.whole
theorem group_cat {s s' : Txt} {t t' : Rx} (h : rowsP s = some (t, [])) (h' : rowsP s' = some (t', [])) : rowsP ((40 :: (s ++ [41])) ++ (40 :: (s' ++ [41]))) = some (.cat t t', []) := by
  have hB : PB ((40 :: (s ++ [41])) ++ (40 :: (s' ++ [41]))) (.cat t t') := fun r hr => by
    rw [List.append_assoc, (group_pa h).row _ ((good_open _).app r).bare, (group_pa h').more (good_open _) t r hr]
  exact hB.rows.whole
theorem group_or {s s' : Txt} {t t' : Rx} (h : rowsP s = some (t, [])) (h' : rowsP s' = some (t', [])) : rowsP ((40 :: (s ++ [41])) ++ (124 :: (40 :: (s' ++ [41])))) = some (.or t t', []) := by
  have hC : PC ((40 :: (s ++ [41])) ++ (124 :: (40 :: (s' ++ [41])))) (.or t t') := fun r hr he => by
    have e := (group_pa h).row.rows (124 :: (40 :: (s' ++ [41]) ++ r)) (bare_cons (by decide) (by decide) (by decide)) (by simp [rowEnd])
    rw [List.append_assoc]
    refine Eq.trans e ?_
    rw [orsP_eq]
    rw [if_pos (show (List.head? (124 :: (40 :: (s' ++ [41]) ++ r)) == some 124) = true from rfl), List.tail_cons, (group_pa h').row r hr, moreP_eq, if_pos he]
  exact hC.whole

end Go.Proofs.YtjelgphhlcecoaaGreatDoor
namespace Go.Proofs.YtjelgphhlcecoaaGreatDoor
open Go.RowKit

def cellsC (c : Cel) : List Value := [.int .i64 c.op, .int .u64 (c.s.a : Int), .int .u64 (c.s.b : Int), .int .u64 (c.s.c : Int), .int .u64 (c.s.d : Int)]
def flatC (l : List Cel) : List Value := l.flatMap cellsC
theorem flatC_app (l m : List Cel) : flatC (l ++ m) = flatC l ++ flatC m := by unfold flatC; rw [List.flatMap_append]
theorem flatC_len : ∀ l : List Cel, (flatC l).length = l.length * 5
  | [] => rfl
  | c :: t => by
    have ih := flatC_len t
    unfold flatC at ih ⊢
    rw [List.flatMap_cons, List.length_append, ih, List.length_cons]
    simp [cellsC]
    omega
def cellV (c : Cel) : Nat → Value
  | 0 => .int .i64 c.op
  | 1 => .int .u64 (c.s.a : Int)
  | 2 => .int .u64 (c.s.b : Int)
  | 3 => .int .u64 (c.s.c : Int)
  | _ => .int .u64 (c.s.d : Int)
theorem flatC_at : ∀ (l : List Cel) (j i : Nat) (hj : j < l.length), i < 5 → (flatC l)[j * 5 + i]? = some (cellV l[j] i)
  | c :: t, 0, i, _, hi => by
    have h5 : i = 0 ∨ i = 1 ∨ i = 2 ∨ i = 3 ∨ i = 4 := by omega
    rcases h5 with rfl | rfl | rfl | rfl | rfl <;> rfl
  | c :: t, j + 1, i, hj, hi => by
    have ih := flatC_at t j i (by simpa using hj) hi
    unfold flatC at ih ⊢
    rw [List.flatMap_cons, show (j + 1) * 5 + i = 5 + (j * 5 + i) by omega, List.getElem?_append_right (by simp [cellsC])]
    simpa [cellsC] using ih
theorem at5_of {w : World} {b o : Nat} {c : Cel} (h : ∀ i, i < 5 → w.cell? ⟨b, o + i, none⟩ = some (cellV c i)) : At5 w b o c := ⟨h 0 (by omega), h 1 (by omega), h 2 (by omega), h 3 (by omega), h 4 (by omega)⟩
theorem At5.word {w : World} {b o : Nat} {c : Cel} (h : At5 w b o c) (i : Nat) (hi : i < 5) : w.cell? ⟨b, o + i, none⟩ = some (cellV c i) := by
  have h5 : i = 0 ∨ i = 1 ∨ i = 2 ∨ i = 3 ∨ i = 4 := by omega
  rcases h5 with rfl | rfl | rfl | rfl | rfl
  · exact h.1
  · exact h.2.1
  · exact h.2.2.1
  · exact h.2.2.2.1
  · exact h.2.2.2.2
abbrev OwnC (w : World) (B : Nat) (v : Value) (l : List Cel) : Prop := w.ownsRow B 115 5 v l.length (flatC l)
theorem own_keep {w w' : World} {base size n : Nat} {e : TypeId} {v : Value} {xs : List Value} (h : w.ownsRow base e size v n xs) (hb : ∀ k, v.ownBlock = some k → w'.heap[k]? = w.heap[k]?) : w'.ownsRow base e size v n xs := by
  rcases h.2 with ⟨rfl, h0⟩ | ⟨g, cap, cur, rfl, h1, h2, h3⟩
  · exact ⟨h.1, .inl ⟨rfl, h0⟩⟩
  · exact ⟨h.1, .inr ⟨g, cap, cur, rfl, h1, (hb g rfl).trans h2, h3⟩⟩
theorem own_below {w w' : World} {base size n : Nat} {e : TypeId} {v : Value} {xs : List Value} (h : w.ownsRow base e size v n xs) (hb : Below w.heap.size w w') : w'.ownsRow base e size v n xs :=
  own_keep h fun k hk => hb.block k (h.lt k hk).2
theorem Cels.of_own {w : World} {B : Nat} {v : Value} {l : List Cel} (h : OwnC w B v l) (hf : ∀ c ∈ l, FitC c) : Cels w v l := by
  have h' := h
  rcases h.2 with ⟨rfl, h0⟩ | ⟨g, cap, cur, rfl, _, _, hc, _⟩
  · exact ⟨none, 0, by rw [h0], by omega, fun _ => rfl, hf, fun j hj => absurd hj (by omega)⟩
  · refine ⟨_, cap, rfl, hc, fun h => (by cases h), hf, fun j hj => ⟨g, 0, rfl, (h'.lt g rfl).2, at5_of fun i hi => ?_⟩⟩
    have := h'.cells rfl (j * 5 + i) _ (flatC_at l j i hj hi)
    rw [Go.WideShapes.add_plain] at this
    rwa [Nat.add_assoc]
theorem flatC_one (l : List Cel) : ∀ u ∈ flatC l, u.oneCell' = true := fun u hu => by
  unfold flatC at hu
  obtain ⟨c, _, hc⟩ := List.mem_flatMap.1 hu
  simp [cellsC] at hc
  rcases hc with rfl | rfl | rfl | rfl | rfl <;> rfl
theorem Cels.news {w : World} {b o : Nat} {l : List Cel} (h : ∀ j (hj : j < l.length), At5 w b (o + j * 5) l[j]) : ∀ j u, (flatC l)[j]? = some u → w.cell? ((⟨b, o, none⟩ : Addr).add j) = some u := fun j u hu => by
  have hj : j < l.length * 5 := by
    rcases Nat.lt_or_ge j (l.length * 5) with h' | h'
    · exact h'
    · rw [List.getElem?_eq_none (by rw [flatC_len]; exact h')] at hu; cases hu
  have e : j = j / 5 * 5 + j % 5 := by omega
  have hq : j / 5 < l.length := by omega
  rw [e, flatC_at l (j / 5) (j % 5) hq (by omega)] at hu
  injection hu with hu
  subst hu
  rw [Go.WideShapes.add_plain]
  have := (h (j / 5) hq).word (j % 5) (by omega)
  rwa [Nat.add_assoc, ← e] at this
theorem Cels.parts {w : World} {v : Value} {l : List Cel} (h : Cels w v l) : (v = .slice none 0 0 ∧ l = []) ∨ ∃ ad cap, v = .slice (some ad) l.length cap ∧ ∀ j u, (flatC l)[j]? = some u → w.cell? (ad.add j) = some u := by
  obtain ⟨a, cap, rfl, hcap, hnil, _, hc⟩ := h
  cases a with
  | none =>
    have h0 := hnil rfl
    have hl : l = [] := List.length_eq_zero_iff.1 (by omega)
    subst hl
    exact Or.inl ⟨by rw [h0]; rfl, rfl⟩
  | some ad =>
    refine Or.inr ⟨ad, cap, rfl, ?_⟩
    by_cases h0 : l = []
    · subst h0; intro j u hu; simp [flatC] at hu
    · obtain ⟨b, o, e, _, _⟩ := hc 0 (List.length_pos_iff.2 h0)
      injection e with e
      subst e
      refine Cels.news fun j hj => ?_
      obtain ⟨b', o', e', _, h5⟩ := hc j hj
      injection e' with e'
      injection e' with e1 e2
      subst e1; subst e2
      exact h5
set_option maxRecDepth 20000 in
theorem Tryz.info115 : (Tryz.prog.info? 115).map (fun i => (i.zero, i.size, i.bytes)) = some (some (.agg #[.int .i64 0, .int .u64 0, .int .u64 0, .int .u64 0, .int .u64 0]), 5, 40) := by kernel_rfl
set_option maxRecDepth 20000 in
theorem wp_app5 {ops : Array Oper} {rest : List Oper} {o : Oper} {a : Act} {Q : Exit → Act → World → Prop} (w : World) (hgd : o.guard = none) (s x : Operand)
    (ho : o.op = .call { callee := .builtin .append, args := #[s, x], argTypes := #[63, 63] })
    (B : Nat) (l1 l2 : List Cel) (v vx : Value) (hs : a.eval s = v) (hx : a.eval x = vx) (hown : OwnC w B v l1) (hN : Cels w vx l2) (hl : (l1.length + l2.length) * 40 ≤ 140737488355328) (hB : B ≤ w.heap.size)
    (h : ∀ v' w', OwnC w' B v' (l1 ++ l2) → Below B w w' → wpList Tryz.prog ops Q rest (a.put o.dst v') w') : wpList Tryz.prog ops Q (o :: rest) a w := by
  obtain ⟨i0, hi, hz0, hz1, hz2⟩ := info_parts Tryz.info115
  rcases hN.parts with ⟨rfl, rfl⟩ | ⟨ad, cap, rfl, hnews⟩
  · refine wpList_append_own_none hgd s x 63 ho B 115 i0 5 Tryz.underlying63 hi v _ _ hs hown hx ?_
    rw [List.append_nil] at h
    exact h v w hown ((Below.refl _ w).mono hB)
  · refine wpList_append_own w hgd s x 63 ho B 115 i0 (.agg #[.int .i64 0, .int .u64 0, .int .u64 0, .int .u64 0, .int .u64 0]) 5 40 Tryz.underlying63 hi hz0 hz1 hz2 rfl (by decide) v _ _ hs hown ad l2.length cap (flatC l2) hx (flatC_len l2) hnews (flatC_one l2) (by unfold maxLen; omega) hl hB ?_
    intro v' w' hO hg _
    refine h v' w' ?_ (((Below.refl _ w).mono hB).grown hg hB (fun k hk => (hown.lt k hk).1))
    unfold OwnC
    rw [flatC_app, List.length_append]
    exact hO
theorem OwnC.lit0 (w : World) : OwnC (w.alloc (.cells #[] 115)) w.heap.size (.slice (some ⟨w.heap.size, 0, none⟩) 0 0) [] :=
  World.ownsRow_lit w #[] 0 (Nat.le_refl _) (by unfold maxLen; omega) rfl

end Go.Proofs.YtjelgphhlcecoaaGreatDoor
