/- What is told of a rule is read to that rule. -/
import Derived.Test.YtjiljfmejgiabaaRxParse
namespace Go.Proofs.Ytjiljfmejgiabaa

theorem count_mono {S T : W4} (h : ∀ x, x < 256 → hasB T x = true → hasB S x = true) : ∀ k, k ≤ 256 → countN T k ≤ countN S k
  | 0, _ => by rw [countN_zero, countN_zero]; exact Nat.le_refl _
  | k + 1, hk => by
    have := count_mono h k (by omega)
    rw [countN_succ, countN_succ]
    cases e : hasB T k with
    | false => simp; omega
    | true => rw [h k (by omega) e]; simp; omega
theorem count_strict {S T : W4} (h : ∀ x, x < 256 → hasB T x = true → hasB S x = true) {y : Nat} (hS : hasB S y = true) (hT : hasB T y = false) : ∀ k, k ≤ 256 → y < k → countN T k < countN S k
  | 0, _, hy => absurd hy (Nat.not_lt_zero _)
  | k + 1, hk, hy => by
    rw [countN_succ, countN_succ]
    by_cases e : y = k
    · subst e
      have := count_mono h y (by omega)
      rw [hS, hT]; simp; omega
    · have := count_strict h hS hT k (by omega) (by omega)
      cases e : hasB T k with
      | false => simp; omega
      | true => rw [h k (by omega) e]; simp; omega
theorem span_has (b x : Nat) (hx : x < 256) : hasB (spanB b b) x = decide (x = b) := by
  unfold spanB
  rw [mkB_has _ x hx, Bool.eq_iff_iff]
  simp
  omega
theorem min_has {S : W4} : ∀ x, hasB S x = true → ∃ m, m ≤ x ∧ hasB S m = true ∧ ∀ y, y < m → hasB S y = false := by
  intro x
  induction x using Nat.strongRecOn with
  | ind x ih =>
    intro hx
    by_cases h : ∃ y, y < x ∧ hasB S y = true
    · obtain ⟨y, hy, hh⟩ := h
      obtain ⟨m, h1, h2, h3⟩ := ih y hy hh
      exact ⟨m, by omega, h2, h3⟩
    · exact ⟨x, Nat.le_refl _, hx, fun y hy => by cases e : hasB S y with | false => rfl | true => exact absurd ⟨y, hy, e⟩ h⟩
theorem one_of_count {S : W4} (hS : Fit4 S) (h : countB S = 1) : ∃ b : Nat, b < 256 ∧ leastB S = (b : Int) ∧ S = spanB b b := by
  have hne : S ≠ noneB := fun e => by
    rw [e, countB_eq] at h
    have : ∀ k, k ≤ 256 → countN noneB k = 0 := fun k => by
      induction k with
      | zero => intro _; exact countN_zero _
      | succ k ih => intro hk; rw [countN_succ, ih (by omega), noneB_has]; rfl
    rw [this 256 (Nat.le_refl _)] at h
    cases h
  obtain ⟨x, hx, hh⟩ := some_has hS hne
  obtain ⟨m, h1, h2, h3⟩ := min_has x hh
  have hm : m < 256 := by omega
  refine ⟨m, hm, least_at h2 hm h3, set_ext hS (mkB_fit _) fun y hy => ?_⟩
  rw [span_has m y hy]
  by_cases e : y = m
  · subst e; rw [h2]; simp
  · cases e' : hasB S y with
    | false => simp [e]
    | true =>
      exfalso
      have hsub : ∀ z, z < 256 → hasB (spanB m m) z = true → hasB S z = true := fun z hz h' => by
        rw [span_has m z hz, decide_eq_true_iff] at h'
        subst h'; exact h2
      have h4 := count_strict hsub e' (by rw [span_has m y hy]; simp [e]) 256 (Nat.le_refl _) hy
      have h5 : 0 < countN (spanB m m) 256 := count_pos (x := m) (by rw [span_has m m hm]; simp) 256 hm
      rw [countB_eq] at h
      omega
theorem dot_of_count {S : W4} (hS : Fit4 S) (h : countB S = 255) (h10 : hasB S 10 = false) : S = notB (spanB 10 10) := by
  have hN : ∀ x, x < 256 → hasB (notB (spanB 10 10)) x = !decide (x = 10) := fun x hx => by
    unfold notB
    rw [mkB_has _ x hx, span_has 10 x hx]
  refine set_ext hS (not_fit _) fun y hy => ?_
  rw [hN y hy]
  by_cases e : y = 10
  · subst e; rw [h10]; rfl
  · cases e' : hasB S y with
    | true => simp [e]
    | false =>
      exfalso
      have hsub : ∀ z, z < 256 → hasB S z = true → hasB (notB (spanB 10 10)) z = true := fun z hz h' => by
        rw [hN z hz]
        by_cases e : z = 10
        · subst e; rw [h10] at h'; cases h'
        · simp [e]
      have h4 := count_strict hsub (y := y) (by rw [hN y hy]; simp [e]) e' 256 (Nat.le_refl _) hy
      have h5 := count_both (spanB 10 10)
      have h6 : 0 < countN (spanB 10 10) 256 := count_pos (x := 10) (by rw [span_has 10 10 (by omega)]; rfl) 256 (by omega)
      rw [countB_eq, countB_eq] at h5
      rw [countB_eq] at h
      omega
theorem atom_told {S : W4} (hS : Fit4 S) (hne : S ≠ noneB) (r : Txt) : atomP (toldL S ++ r) = some (.set S, r) := by
  unfold toldL
  split
  · rename_i h
    obtain ⟨b, hb, hl, hs⟩ := one_of_count hS h
    rw [hl, Int.toNat_natCast]
    obtain ⟨c, q, e, hc⟩ := headA b hb
    have hal := aloneA b hb r
    rw [e] at hal ⊢
    have h1 : ¬ c = 40 := fun e => by subst e; exact absurd hc (by decide)
    have h2 : ¬ c = 46 := fun e => by subst e; exact absurd hc (by decide)
    have h3 : ¬ c = 91 := fun e => by subst e; exact absurd hc (by decide)
    rw [List.cons_append] at hal ⊢
    rw [atomP_eq, if_neg h1, if_neg h2, if_neg h3, hal, hs]
  split
  · rename_i h
    rw [dot_of_count hS h.1 h.2]
    rfl
  · rw [List.cons_append, List.append_assoc]
    show atomP (91 :: (runsL S 0 257 ++ (93 :: r))) = _
    rw [atomP_eq, if_neg (by decide), if_neg (by decide), if_pos rfl, class_runs hS hne r _ (by simp; omega)]

def Rx.fit : Rx → Prop
  | .set S => Fit4 S
  | .eps => True
  | .cat a b => a.fit ∧ b.fit
  | .or a b => a.fit ∧ b.fit
  | .star a => a.fit
  | .plus a => a.fit
  | .opt a => a.fit
def power : Rx → Nat
  | .or _ _ => 1
  | .cat _ _ => 2
  | _ => 3
def par (p : Nat) (t : Rx) (s : Txt) : Txt := if power t < p then 40 :: (s ++ [41]) else s
/-- a rule as it is told -/
def txt : Rx → Txt
  | .set S => toldL S
  | .eps => [40, 41]
  | .cat a b => par 2 a (txt a) ++ par 3 b (txt b)
  | .or a b => par 1 a (txt a) ++ (124 :: par 2 b (txt b))
  | .star a => par 3 a (txt a) ++ [42]
  | .plus a => par 3 a (txt a) ++ [43]
  | .opt a => par 3 a (txt a) ++ [63]
/-- a text that begins as a piece begins -/
def Good (s : Txt) : Prop := ∃ c r, s = c :: r ∧ c ≠ 41 ∧ c ≠ 42 ∧ c ≠ 43 ∧ c ≠ 63 ∧ c ≠ 124
theorem Good.app {s : Txt} (h : Good s) (r : Txt) : Good (s ++ r) := by
  obtain ⟨c, q, rfl, h⟩ := h
  exact ⟨c, q ++ r, rfl, h⟩
theorem good_par (p : Nat) (t : Rx) {s : Txt} (h : Good s) : Good (par p t s) := by
  unfold par
  split
  · exact ⟨40, _, rfl, by decide⟩
  · exact h
theorem good_told (S : W4) (hS : Fit4 S) : Good (toldL S) := by
  unfold toldL
  split
  · rename_i h
    obtain ⟨b, hb, hl, _⟩ := one_of_count hS h
    rw [hl, Int.toNat_natCast]
    obtain ⟨c, q, e, hc⟩ := headA b hb
    refine ⟨c, q, e, ?_, ?_, ?_, ?_, ?_⟩ <;> (rintro rfl; exact absurd hc (by decide))
  split
  · exact ⟨46, [], rfl, by decide⟩
  · exact ⟨91, _, rfl, by decide⟩
theorem good_txt : ∀ t : Rx, t.fit → Good (txt t)
  | .set S, h => good_told S h
  | .eps, _ => ⟨40, [41], rfl, by decide⟩
  | .cat a b, h => (good_par 2 a (good_txt a h.1)).app _
  | .or a b, h => (good_par 1 a (good_txt a h.1)).app _
  | .star a, h => (good_par 3 a (good_txt a h)).app _
  | .plus a, h => (good_par 3 a (good_txt a h)).app _
  | .opt a, h => (good_par 3 a (good_txt a h)).app _
/-- no * + ? ahead -/
def Bare (r : Txt) : Prop := ∀ t, starsF t r = (t, r)
theorem bare_nil : Bare [] := fun _ => rfl
theorem bare_cons {c : UInt8} {r : Txt} (h1 : c ≠ 42) (h2 : c ≠ 43) (h3 : c ≠ 63) : Bare (c :: r) := fun t => by rw [starsF, if_neg h1, if_neg h2, if_neg h3]
theorem Good.bare {s : Txt} (h : Good s) : Bare s := by
  obtain ⟨c, r, rfl, _, h2, h3, h4, _⟩ := h
  exact bare_cons h2 h3 h4
theorem Good.goes {s : Txt} (h : Good s) : rowEnd s = false := by
  obtain ⟨c, r, rfl, h1, _, _, _, h5⟩ := h
  simp [rowEnd, h1, h5]
def PA (s : Txt) (t : Rx) : Prop := ∀ r, ∃ base q, atomP (s ++ r) = some (base, q) ∧ starsF base q = starsF t r
def PB (s : Txt) (t : Rx) : Prop := ∀ r, Bare r → rowP (s ++ r) = moreP t r
def PC (s : Txt) (t : Rx) : Prop := ∀ r, Bare r → rowEnd r = true → rowsP (s ++ r) = orsP t r
theorem PA.row {s : Txt} {t : Rx} (h : PA s t) : PB s t := fun r hr => by
  obtain ⟨base, q, h1, h2⟩ := h r
  rw [rowP_eq, h1]
  simp only
  rw [h2, hr t]
theorem PB.rows {s : Txt} {t : Rx} (h : PB s t) : PC s t := fun r hr he => by
  rw [rowsP_eq, h r hr, moreP_eq, if_pos he]
theorem PA.more {s : Txt} {t : Rx} (h : PA s t) (hg : Good s) (a : Rx) (r : Txt) (hr : Bare r) : moreP a (s ++ r) = moreP (.cat a t) r := by
  obtain ⟨base, q, h1, h2⟩ := h r
  rw [moreP_eq, (hg.app r).goes, h1]
  simp only
  rw [h2, hr t]
  rfl
/-- in parentheses -/
theorem PC.paren {s : Txt} {t : Rx} (h : PC s t) (hg : Good s) : PA (40 :: (s ++ [41])) t := fun r => by
  refine ⟨t, r, ?_, rfl⟩
  have h1 := h (41 :: r) (bare_cons (by decide) (by decide) (by decide)) (by simp [rowEnd])
  have h2 : ((s ++ (41 :: r)).head? == some 41) = false := by
    obtain ⟨c, q, rfl, hc, _⟩ := hg
    simp [hc]
  rw [List.cons_append, List.append_assoc]
  show atomP (40 :: (s ++ (41 :: r))) = _
  rw [atomP_eq, if_pos rfl, h2, h1, orsP_eq]
  simp
theorem pa_par {t : Rx} (hg : Good (txt t)) (h : (power t = 3 → PA (txt t) t) ∧ (2 ≤ power t → PB (txt t) t) ∧ PC (txt t) t) : PA (par 3 t (txt t)) t := by
  unfold par
  split
  · exact h.2.2.paren hg
  · exact h.1 (by cases t <;> simp_all [power])
theorem pb_par {t : Rx} (hg : Good (txt t)) (h : (power t = 3 → PA (txt t) t) ∧ (2 ≤ power t → PB (txt t) t) ∧ PC (txt t) t) : PB (par 2 t (txt t)) t := by
  unfold par
  split
  · exact (h.2.2.paren hg).row
  · exact h.2.1 (by omega)
theorem reads : ∀ t : Rx, t.ok → t.fit → (power t = 3 → PA (txt t) t) ∧ (2 ≤ power t → PB (txt t) t) ∧ PC (txt t) t
  | .set S, ho, hf => by
    have h : PA (txt (.set S)) (.set S) := fun r => ⟨.set S, r, atom_told hf ho r, rfl⟩
    exact ⟨fun _ => h, fun _ => h.row, h.row.rows⟩
  | .eps, _, _ => by
    have h : PA (txt .eps) .eps := fun r => ⟨.eps, r, by show atomP (40 :: (41 :: r)) = _; rw [atomP_eq]; simp, rfl⟩
    exact ⟨fun _ => h, fun _ => h.row, h.row.rows⟩
  | .cat a b, ho, hf => by
    have ha := reads a ho.1 hf.1
    have hb := reads b ho.2 hf.2
    have ga := good_txt a hf.1
    have gb := good_txt b hf.2
    have h : PB (txt (.cat a b)) (.cat a b) := fun r hr => by
      show rowP (par 2 a (txt a) ++ par 3 b (txt b) ++ r) = _
      have g3 := good_par 3 b gb
      rw [List.append_assoc, pb_par ga ha _ (g3.app r).bare, (pa_par gb hb).more g3 a r hr]
    exact ⟨fun h' => by simp [power] at h', fun _ => h, h.rows⟩
  | .or a b, ho, hf => by
    have ha := reads a ho.1 hf.1
    have hb := reads b ho.2 hf.2
    have gb := good_txt b hf.2
    have h : PC (txt (.or a b)) (.or a b) := fun r hr he => by
      have e1 : par 1 a (txt a) = txt a := by unfold par; rw [if_neg (by cases a <;> simp [power])]
      show rowsP (par 1 a (txt a) ++ (124 :: par 2 b (txt b)) ++ r) = _
      rw [e1, List.append_assoc, List.cons_append, ha.2.2 _ (bare_cons (by decide) (by decide) (by decide)) (by simp [rowEnd]), orsP_eq]
      simp only [List.head?_cons, beq_self_eq_true, if_true, List.tail_cons]
      rw [pb_par gb hb r hr, moreP_eq, if_pos he]
    exact ⟨fun h' => by simp [power] at h', fun h' => by simp [power] at h', h⟩
  | .star a, ho, hf => by
    have ha := pa_par (good_txt a hf) (reads a ho hf)
    have h : PA (txt (.star a)) (.star a) := fun r => by
      obtain ⟨base, q, h1, h2⟩ := ha (42 :: r)
      refine ⟨base, q, ?_, ?_⟩
      · show atomP (par 3 a (txt a) ++ [42] ++ r) = _
        rw [List.append_assoc]; exact h1
      · rw [h2, starsF, if_pos rfl]
    exact ⟨fun _ => h, fun _ => h.row, h.row.rows⟩
  | .plus a, ho, hf => by
    have ha := pa_par (good_txt a hf) (reads a ho hf)
    have h : PA (txt (.plus a)) (.plus a) := fun r => by
      obtain ⟨base, q, h1, h2⟩ := ha (43 :: r)
      refine ⟨base, q, ?_, ?_⟩
      · show atomP (par 3 a (txt a) ++ [43] ++ r) = _
        rw [List.append_assoc]; exact h1
      · rw [h2, starsF, if_neg (by decide), if_pos rfl]
    exact ⟨fun _ => h, fun _ => h.row, h.row.rows⟩
  | .opt a, ho, hf => by
    have ha := pa_par (good_txt a hf) (reads a ho hf)
    have h : PA (txt (.opt a)) (.opt a) := fun r => by
      obtain ⟨base, q, h1, h2⟩ := ha (63 :: r)
      refine ⟨base, q, ?_, ?_⟩
      · show atomP (par 3 a (txt a) ++ [63] ++ r) = _
        rw [List.append_assoc]; exact h1
      · rw [h2, starsF, if_neg (by decide), if_neg (by decide), if_pos rfl]
    exact ⟨fun _ => h, fun _ => h.row, h.row.rows⟩
/-- the whole text -/
theorem reads_all {t : Rx} (ho : t.ok) (hf : t.fit) : rowsP (txt t) = some (t, []) := by
  have := (reads t ho hf).2.2 [] bare_nil rfl
  rw [List.append_nil] at this
  rw [this, orsP_eq]
  rfl

end Go.Proofs.Ytjiljfmejgiabaa
