/- Blanks around a text; words shown and read again; where words stand. -/
import Derived.Test.YtkpakpfjgeannaaWb
namespace Go.Proofs.Ytkpakpfjgeannaa

def preB : Txt := [9, 35, 32, 120, 59, 10]
theorem skL_pre (u : Txt) : skL false (preB ++ u) = 6 + skL false u := by
  have e : skL false (preB ++ u) = 1 + (1 + (1 + (1 + (1 + (1 + skL false u))))) := rfl
  omega
/-- a text's words, moved -/
def mvR (d : Nat) (r : List Wd × Nat × Int) : List Wd × Nat × Int := if r.2.2 = 0 then (r.1.map (mvW d), 0, 0) else (r.1, r.2.1 + d, r.2.2)
theorem blanks_of {s : Txt} (h : s.length ≤ 3900) : wrdA (preB ++ (s ++ sfxB)) = mvR 6 (wrdA s) := by
  have hl : (preB ++ (s ++ sfxB)).length = s.length + 8 := by rw [List.length_append, List.length_append]; show 6 + (s.length + 2) = _; omega
  rw [wrdA_S (by omega), wrdA_S (T := s) (by omega), skL_pre, skL_sfx, hl]
  have hd : ∀ k, (preB ++ (s ++ sfxB)).drop (6 + k) = (s ++ sfxB).drop k := fun k => by
    rw [← List.drop_drop]
    rfl
  rw [hd]
  have key : ∀ r : List Wd × Option Nat, resW [] (r.1.map (mvW 6), r.2.map (· + 6)) = mvR 6 (resW [] r) := fun r => by
    obtain ⟨l, o⟩ := r
    cases o with
    | none => rfl
    | some x => rfl
  by_cases hk : skL false s < s.length
  · rw [if_pos hk, List.drop_append_of_le_length (by omega)]
    have hne : s.drop (skL false s) ≠ [] := fun h => by have := congrArg List.length h; rw [List.length_drop, List.length_nil] at this; omega
    rw [wrS_sfx _ _ _ hne, Nat.add_comm 6 (skL false s), wrS_mv, key, wrS_fuel (s.length + 8) s.length _ _ (by rw [List.length_drop]; omega) (by rw [List.length_drop]; omega)]
  · rw [if_neg hk]
    have e1 : (s ++ sfxB).drop (s.length + 2) = [] := List.drop_eq_nil_of_le (by rw [List.length_append]; exact Nat.le_refl _)
    have e2 : s.drop (skL false s) = [] := List.drop_eq_nil_of_le (by omega)
    rw [e1, e2, wrS_nil, wrS_nil]
    rfl

/-- a word as All tells one -/
def GdK (k : Nat) (t : Txt) : Prop := (k = 1 ∧ t ≠ [] ∧ letB (t.headD 0).toNat = true ∧ (∀ d ∈ t, (letB d.toNat || digB d.toNat) = true) ∧ t.length ≤ 16) ∨ (k = 2 ∧ ∀ v, rgL false (t ++ 47 :: v) = some (t.length + 1)) ∨ (k = 3 ∧ ∃ c, t = [c] ∧ sgnB c.toNat = true)
theorem sgn_let {c : Nat} (h : sgnB c = true) : letB c = false ∧ c ≠ 47 := by
  unfold sgnB at h
  rw [Bool.or_eq_true, Bool.or_eq_true, Bool.or_eq_true, beq_iff_eq, beq_iff_eq, beq_iff_eq, beq_iff_eq] at h
  rcases h with ((rfl | rfl) | rfl) | rfl <;> decide
theorem let_sgn {c : Nat} (h : letB c = true) : sgnB c = false ∧ c ≠ 47 := by
  refine ⟨?_, fun e => by subst e; cases h⟩
  cases e : sgnB c with
  | false => rfl
  | true => rw [(sgn_let e).1] at h; cases h
theorem namL_all : ∀ u : Txt, ∀ d ∈ u.take (namL u), (letB d.toNat || digB d.toNat) = true
  | [], d, h => by cases h
  | c :: r, d, h => by
    rw [namL] at h
    by_cases hc : (letB c.toNat || digB c.toNat) = true
    · rw [if_pos hc, Nat.add_comm, List.take_succ_cons] at h
      rcases List.mem_cons.1 h with rfl | h
      · exact hc
      · exact namL_all r d h
    · rw [if_neg hc] at h
      cases h
theorem rgL_last : ∀ (tk : Bool) (u : Txt) (n : Nat), rgL tk u = some n → u.take n = u.take (n - 1) ++ [47]
  | _, [], n, h => by cases h
  | tk, c :: r, n, h => by
    rw [rgL] at h
    by_cases h1 : c.toNat = 10
    · rw [if_pos h1] at h; cases h
    · rw [if_neg h1] at h
      by_cases h2 : c.toNat = 47 ∧ tk = false
      · rw [if_pos h2] at h
        injection h with h
        subst h
        have : c = 47 := UInt8.toNat_inj.1 h2.1
        subst this
        rfl
      · rw [if_neg h2] at h
        cases e : rgL (c.toNat == 92 && !tk) r with
        | none => rw [e] at h; cases h
        | some m =>
          rw [e] at h
          have h : m + 1 = n := by injection h
          subst h
          have ih := rgL_last _ r m e
          have hm := (rgL_le _ r m e).1
          obtain ⟨q, rfl⟩ : ∃ q, m = q + 1 := ⟨m - 1, by omega⟩
          show c :: r.take (q + 1) = (c :: r).take (q + 1) ++ [47]
          rw [List.take_succ_cons, ih]
          rfl
theorem wd_good {u : Txt} {a n : Nat} (h : endL u = some n) : GdK (wdS u a n).1 (wdS u a n).2.2 := by
  cases u with
  | nil => cases h
  | cons c r =>
    have hle := endL_le h
    rw [endL] at h
    unfold wdS
    show GdK (kndW c.toNat) (if c.toNat = 47 then r.take (n - 2) else (c :: r).take n)
    by_cases hs : sgnB c.toNat = true
    · rw [if_pos hs] at h
      injection h with h
      subst h
      obtain ⟨h1, h2⟩ := sgn_let hs
      unfold kndW
      rw [h1, if_neg (by decide), if_neg h2, if_neg h2]
      exact Or.inr (Or.inr ⟨rfl, c, rfl, hs⟩)
    · rw [if_neg hs] at h
      by_cases hl : letB c.toNat = true
      · rw [if_pos hl] at h
        by_cases h16 : 16 < namL (c :: r)
        · rw [if_pos h16] at h; cases h
        · rw [if_neg h16] at h
          injection h with h
          subst h
          obtain ⟨-, h2⟩ := let_sgn hl
          unfold kndW
          rw [hl, if_pos rfl, if_neg h2]
          obtain ⟨q, hq⟩ : ∃ q, namL (c :: r) = q + 1 := ⟨namL (c :: r) - 1, by omega⟩
          refine Or.inl ⟨rfl, ?_, ?_, namL_all (c :: r), ?_⟩
          · rw [hq]; exact fun e => by cases e
          · rw [hq]; exact hl
          · rw [List.length_take]; omega
      · rw [if_neg hl] at h
        by_cases h47 : c.toNat = 47
        · rw [if_pos h47] at h
          cases e : rgL false r with
          | none => rw [e] at h; cases h
          | some m =>
            rw [e] at h
            have h : m + 1 = n := by injection h
            subst h
            unfold kndW
            rw [if_neg hl, if_pos h47, if_pos h47]
            refine Or.inr (Or.inl ⟨rfl, fun v => ?_⟩)
            have h1 := rgL_take _ r m e v
            have hm := rgL_le _ r m e
            rw [rgL_last _ r m e, List.append_assoc] at h1
            rw [show m + 1 - 2 = m - 1 by omega, List.length_take, show min (m - 1) r.length + 1 = m by omega]
            exact h1
        · rw [if_neg h47] at h; cases h
/-- as it is shown -/
def onK (k : Nat) (t : Txt) : Txt := if k = 2 then 47 :: (t ++ [47]) else t
theorem namL_stop {v : Txt} (hv : v = [] ∨ ∃ q, v = 32 :: q) : ∀ t : Txt, (∀ d ∈ t, (letB d.toNat || digB d.toNat) = true) → namL (t ++ v) = t.length
  | [], _ => by
    rcases hv with rfl | ⟨q, rfl⟩
    · rfl
    · rw [List.nil_append, namL, if_neg (by decide)]; rfl
  | c :: t, h => by
    rw [List.cons_append, namL, if_pos (h c (List.mem_cons_self ..)), namL_stop hv t (fun d hd => h d (List.mem_cons_of_mem _ hd)), List.length_cons]
    omega
theorem good_end {k : Nat} {t v : Txt} (a : Nat) (h : GdK k t) (hv : v = [] ∨ ∃ q, v = 32 :: q) : endL (onK k t ++ v) = some (onK k t).length ∧ wdS (onK k t ++ v) a (onK k t).length = (k, a, t) ∧ (onK k t ++ v) ≠ [] ∧ skL false (onK k t ++ v) = 0 := by
  rcases h with ⟨rfl, h1, h2, h3, h4⟩ | ⟨rfl, h1⟩ | ⟨rfl, c, rfl, h1⟩
  · have e : onK 1 t = t := if_neg (by decide)
    rw [e]
    cases t with
    | nil => exact absurd rfl h1
    | cons c r =>
      have h2 : letB c.toNat = true := h2
      obtain ⟨q1, q2⟩ := let_sgn h2
      have hn := namL_stop hv (c :: r) h3
      refine ⟨?_, ?_, fun e => (by cases e), ?_⟩
      · rw [List.cons_append] at hn ⊢
        rw [endL, q1, if_neg (by decide), if_pos h2, hn, if_neg (by omega)]
      · unfold wdS kndW
        show ((if letB c.toNat = true then 1 else if c.toNat = 47 then 2 else 3), a, if c.toNat = 47 then ((r ++ v).take ((c :: r).length - 2)) else ((c :: r) ++ v).take (c :: r).length) = (1, a, c :: r)
        rw [if_pos h2, if_neg q2, List.take_left]
      · have hb : ¬ (c.toNat = 9 ∨ c.toNat = 10 ∨ c.toNat = 13 ∨ c.toNat = 32) := fun e => by rcases e with e | e | e | e <;> (rw [e] at h2; cases h2)
        have h35 : ¬ c.toNat = 35 := fun e => by rw [e] at h2; cases h2
        rw [List.cons_append, skL, if_neg h35, blnB_no hb, if_neg (by decide)]
  · have e : onK 2 t = 47 :: (t ++ [47]) := if_pos rfl
    rw [e]
    have hlen : (47 :: (t ++ [47])).length = t.length + 2 := by rw [List.length_cons, List.length_append]; rfl
    rw [hlen]
    have hr := h1 v
    have e2 : (47 :: (t ++ [47])) ++ v = 47 :: (t ++ 47 :: v) := by rw [List.cons_append, List.append_assoc]; rfl
    rw [e2]
    refine ⟨?_, ?_, fun e => (by cases e), rfl⟩
    · rw [endL, if_neg (by decide), if_neg (by decide), if_pos (by decide), hr]
      rfl
    · unfold wdS
      show (2, a, (t ++ 47 :: v).take (t.length + 2 - 2)) = (2, a, t)
      rw [show t.length + 2 - 2 = t.length by omega, List.take_left]
  · have e : onK 3 [c] = [c] := if_neg (by decide)
    rw [e]
    obtain ⟨q1, q2⟩ := sgn_let h1
    refine ⟨?_, ?_, fun e => (by cases e), ?_⟩
    · show endL (c :: v) = some 1
      rw [endL, if_pos h1]
    · unfold wdS kndW
      show ((if letB c.toNat = true then 1 else if c.toNat = 47 then 2 else 3), a, if c.toNat = 47 then (v.take (1 - 2)) else (c :: v).take 1) = (3, a, [c])
      rw [q1, if_neg (by decide), if_neg q2, if_neg q2]
      rfl
    · have hb : ¬ (c.toNat = 9 ∨ c.toNat = 10 ∨ c.toNat = 13 ∨ c.toNat = 32) := fun e => by rcases e with e | e | e | e <;> (rw [e] at h1; cases h1)
      have h35 : ¬ c.toNat = 35 := fun e => by rw [e] at h1; cases h1
      show skL false (c :: v) = 0
      rw [skL, if_neg h35, blnB_no hb, if_neg (by decide)]
/-- words joined, a blank between each two -/
def jnW : List (Nat × Txt) → Txt
  | [] => []
  | [x] => onK x.1 x.2
  | x :: y :: r => onK x.1 x.2 ++ 32 :: jnW (y :: r)
theorem jn_skip : ∀ {ws : List (Nat × Txt)}, (∀ x ∈ ws, GdK x.1 x.2) → skL false (jnW ws) = 0
  | [], _ => rfl
  | [x], h => by
    have := (good_end (v := []) 0 (h x (List.mem_cons_self ..)) (Or.inl rfl)).2.2.2
    rw [List.append_nil] at this
    exact this
  | x :: y :: r, h => (good_end (v := 32 :: jnW (y :: r)) 0 (h x (List.mem_cons_self ..)) (Or.inr ⟨_, rfl⟩)).2.2.2
/-- joined words are read again -/
theorem jn_back : ∀ (ws : List (Nat × Txt)) (a f : Nat), (∀ x ∈ ws, GdK x.1 x.2) → (jnW ws).length ≤ f → (wrS f (jnW ws) a).2 = none ∧ (wrS f (jnW ws) a).1.map (fun x => (x.1, x.2.2)) = ws
  | [], a, f, _, _ => by
    show (wrS f [] a).2 = none ∧ _
    rw [show jnW [] = [] from rfl, wrS_nil]
    exact ⟨rfl, rfl⟩
  | [x], a, f, h, hf => by
    obtain ⟨h1, h2, h3, -⟩ := good_end (v := []) a (h x (List.mem_cons_self ..)) (Or.inl rfl)
    rw [List.append_nil] at h1 h2 h3
    have e : jnW [x] = onK x.1 x.2 := rfl
    rw [e] at hf ⊢
    have hle := endL_le h1
    obtain ⟨g, rfl⟩ : ∃ g, f = g + 1 := ⟨f - 1, by omega⟩
    rw [wrS_some h3 h1, List.drop_eq_nil_of_le (Nat.le_add_right _ _), wrS_nil, h2]
    exact ⟨rfl, rfl⟩
  | x :: y :: r, a, f, h, hf => by
    obtain ⟨h1, h2, h3, -⟩ := good_end (v := 32 :: jnW (y :: r)) a (h x (List.mem_cons_self ..)) (Or.inr ⟨_, rfl⟩)
    have e : jnW (x :: y :: r) = onK x.1 x.2 ++ 32 :: jnW (y :: r) := rfl
    rw [e] at hf ⊢
    have hle := endL_le h1
    rw [List.length_append, List.length_cons] at hf
    obtain ⟨g, rfl⟩ : ∃ g, f = g + 1 := ⟨f - 1, by omega⟩
    have hy : ∀ z ∈ y :: r, GdK z.1 z.2 := fun z hz => h z (List.mem_cons_of_mem _ hz)
    have hsk : skL false (32 :: jnW (y :: r)) = 1 := by
      show (if (32 : UInt8).toNat = 35 then _ else if blnB (32 : UInt8).toNat then 1 + skL false (jnW (y :: r)) else 0) = 1
      rw [if_neg (by decide), if_pos (by decide), jn_skip hy]
    rw [wrS_some h3 h1, h2, List.drop_left, hsk]
    have hd : (onK x.1 x.2 ++ 32 :: jnW (y :: r)).drop ((onK x.1 x.2).length + 1) = jnW (y :: r) := by rw [← List.drop_drop, List.drop_left]; rfl
    rw [hd]
    obtain ⟨i1, i2⟩ := jn_back (y :: r) (a + ((onK x.1 x.2).length + 1)) g hy (by omega)
    refine ⟨i1, ?_⟩
    show (x.1, x.2) :: List.map _ _ = _
    rw [i2]
theorem wrS_good : ∀ (f : Nat) (u : Txt) (a : Nat), ∀ x ∈ (wrS f u a).1, GdK x.1 x.2.2
  | 0, _, _, x, hx => by cases hx
  | f + 1, u, a, x, hx => by
    by_cases hu : u = []
    · subst hu; rw [wrS_nil] at hx; cases hx
    · cases he : endL u with
      | none => rw [wrS_none hu he] at hx; cases hx
      | some n =>
        rw [wrS_some hu he] at hx
        rcases List.mem_cons.1 hx with rfl | hx
        · exact wd_good he
        · exact wrS_good f _ _ x hx
theorem wrdA_good (T : Txt) : ∀ x ∈ (wrdA T).1, GdK x.1 x.2.2 := by
  intro x hx
  by_cases h : 4000 < T.length
  · unfold wrdA at hx; rw [if_pos h] at hx; cases hx
  · rw [wrdA_S (by omega)] at hx
    unfold resW at hx
    cases e : (wrS T.length (T.drop (skL false T)) (skL false T)).2 with
    | none => rw [e] at hx; exact wrS_good _ _ _ x hx
    | some y => rw [e] at hx; cases hx

end Go.Proofs.Ytkpakpfjgeannaa
