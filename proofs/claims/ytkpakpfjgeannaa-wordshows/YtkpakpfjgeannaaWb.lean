/- The maths of layer 11's laws: words by what is left of a text; shown words; blanks around a text. -/
import Derived.Test.YtkpakpfjgeannaaWq
namespace Go.Proofs.Ytkpakpfjgeannaa

/-- the word ahead, at place a -/
def wdS (u : Txt) (a n : Nat) : Wd := (kndW (u.headD 0).toNat, a, if (u.headD 0).toNat = 47 then (u.drop 1).take (n - 2) else u.take n)
/-- the words of what is left, that begins with no blank; where there is none -/
def wrS : Nat → Txt → Nat → List Wd × Option Nat
  | 0, _, _ => ([], none)
  | f + 1, u, a => if u = [] then ([], none) else match endL u with
    | none => ([], some a)
    | some n => (wdS u a n :: (wrS f (u.drop (n + skL false (u.drop n))) (a + (n + skL false (u.drop n)))).1, (wrS f (u.drop (n + skL false (u.drop n))) (a + (n + skL false (u.drop n)))).2)
theorem wdS_of (T : Txt) (a n : Nat) : wdS (T.drop a) a n = wdOf T a n := by
  unfold wdS wdOf
  rw [List.drop_drop]
theorem wrS_none {f : Nat} {u : Txt} {a : Nat} (h : u ≠ []) (he : endL u = none) : wrS (f + 1) u a = ([], some a) := by rw [wrS, if_neg h, he]
theorem wrS_some {f : Nat} {u : Txt} {a n : Nat} (h : u ≠ []) (he : endL u = some n) : wrS (f + 1) u a = (wdS u a n :: (wrS f (u.drop (n + skL false (u.drop n))) (a + (n + skL false (u.drop n)))).1, (wrS f (u.drop (n + skL false (u.drop n))) (a + (n + skL false (u.drop n)))).2) := by rw [wrS, if_neg h, he]
theorem wrS_nil (f a : Nat) : wrS f [] a = ([], none) := by
  cases f with
  | zero => rfl
  | succ f => rw [wrS, if_pos rfl]
/-- what the words are, by the place of the first fault -/
def resW (l : List Wd) (r : List Wd × Option Nat) : List Wd × Nat × Int := match r.2 with
  | none => (l ++ r.1, 0, 0)
  | some a => ([], a, 1)
theorem wrdR_S (T : Txt) : ∀ (f a : Nat) (l : List Wd), wrdR T f a l = resW l (wrS f (T.drop a) a)
  | 0, a, l => by rw [wrdR, wrS]; unfold resW; rw [List.append_nil]
  | f + 1, a, l => by
    rw [wrdR]
    by_cases ha : T.length ≤ a
    · rw [if_pos ha, List.drop_eq_nil_of_le ha, wrS_nil]
      unfold resW
      rw [List.append_nil]
    · rw [if_neg ha]
      have hne : T.drop a ≠ [] := fun h => ha (by have := congrArg List.length h; rw [List.length_drop] at this; simp at this; omega)
      cases he : endL (T.drop a) with
      | none => rw [wrS_none hne he]; rfl
      | some n =>
        rw [wrS_some hne he]
        show wrdR T f _ _ = _
        rw [wrdR_S T f, wdS_of, List.drop_drop, List.drop_drop, show a + n + skL false (T.drop (a + n)) = a + (n + skL false (T.drop (a + n))) by omega]
        unfold resW
        dsimp only
        cases (wrS f (T.drop (a + (n + skL false (T.drop (a + n))))) (a + (n + skL false (T.drop (a + n))))).2 with
        | none => dsimp only; rw [List.append_assoc]; rfl
        | some x => rfl
theorem wrS_fuel : ∀ (f g : Nat) (u : Txt) (a : Nat), u.length ≤ f → u.length ≤ g → wrS f u a = wrS g u a
  | 0, g, u, a, h, _ => by
    have : u = [] := List.eq_nil_of_length_eq_zero (by omega)
    subst this
    rw [wrS_nil, wrS_nil]
  | f + 1, 0, u, a, _, h => by
    have : u = [] := List.eq_nil_of_length_eq_zero (by omega)
    subst this
    rw [wrS_nil, wrS_nil]
  | f + 1, g + 1, u, a, h1, h2 => by
    by_cases hu : u = []
    · subst hu; rw [wrS_nil, wrS_nil]
    · cases he : endL u with
      | none => rw [wrS_none hu he, wrS_none hu he]
      | some n =>
        have h3 := endL_le he
        rw [wrS_some hu he, wrS_some hu he, wrS_fuel f g _ _ (by rw [List.length_drop]; omega) (by rw [List.length_drop]; omega)]
/-- moved by d places -/
def mvW (d : Nat) (x : Wd) : Wd := (x.1, x.2.1 + d, x.2.2)
theorem wdS_mv (u : Txt) (a n d : Nat) : wdS u (a + d) n = mvW d (wdS u a n) := rfl
theorem wrS_mv (d : Nat) : ∀ (f : Nat) (u : Txt) (a : Nat), wrS f u (a + d) = ((wrS f u a).1.map (mvW d), (wrS f u a).2.map (· + d))
  | 0, _, _ => rfl
  | f + 1, u, a => by
    by_cases hu : u = []
    · subst hu; rw [wrS_nil, wrS_nil]; rfl
    · cases he : endL u with
      | none => rw [wrS_none hu he, wrS_none hu he]; rfl
      | some n =>
        rw [wrS_some hu he, wrS_some hu he, wdS_mv, show a + d + (n + skL false (u.drop n)) = a + (n + skL false (u.drop n)) + d by omega, wrS_mv d f]
        rfl
/-- the words of a text that isn't too long -/
theorem wrdA_S {T : Txt} (h : T.length ≤ 4000) : wrdA T = resW [] (wrS T.length (T.drop (skL false T)) (skL false T)) := by
  unfold wrdA
  rw [if_neg (by omega), wrdR_S]

/-- blanks behind a text -/
def sfxB : Txt := [32, 10]
theorem skL_sfx : ∀ (rm : Bool) (u : Txt), skL rm (u ++ sfxB) = if skL rm u < u.length then skL rm u else u.length + 2
  | true, [] => by decide
  | false, [] => by decide
  | true, c :: r => by
    have ih := skL_sfx (c.toNat != 10) r
    rw [List.cons_append, skL, skL, ih, List.length_cons]
    split <;> split <;> omega
  | false, c :: r => by
    have i1 := skL_sfx true r
    have i2 := skL_sfx false r
    rw [List.cons_append, skL, skL, List.length_cons]
    split
    · rw [i1]; split <;> split <;> omega
    · split
      · rw [i2]; split <;> split <;> omega
      · rw [if_pos (by omega)]
theorem namL_sfx : ∀ u : Txt, namL (u ++ sfxB) = namL u
  | [] => by decide
  | c :: r => by rw [List.cons_append, namL, namL, namL_sfx r]
theorem rgL_sfx : ∀ (tk : Bool) (u : Txt), rgL tk (u ++ sfxB) = rgL tk u
  | true, [] => by decide
  | false, [] => by decide
  | tk, c :: r => by rw [List.cons_append, rgL, rgL, rgL_sfx _ r]
theorem endL_sfx {u : Txt} (h : u ≠ []) : endL (u ++ sfxB) = endL u := by
  cases u with
  | nil => exact absurd rfl h
  | cons c r =>
    have h1 := namL_sfx (c :: r)
    rw [List.cons_append] at h1 ⊢
    rw [endL, endL, h1, rgL_sfx]
theorem rgL_take : ∀ (tk : Bool) (u : Txt) (n : Nat), rgL tk u = some n → ∀ v, rgL tk (u.take n ++ v) = some n
  | _, [], n, h, _ => by cases h
  | tk, c :: r, n, h, v => by
    rw [rgL] at h
    by_cases h1 : c.toNat = 10
    · rw [if_pos h1] at h; cases h
    · rw [if_neg h1] at h
      by_cases h2 : c.toNat = 47 ∧ tk = false
      · rw [if_pos h2] at h
        injection h with h
        subst h
        show rgL tk (c :: v) = some 1
        rw [rgL, if_neg h1, if_pos h2]
      · rw [if_neg h2] at h
        cases e : rgL (c.toNat == 92 && !tk) r with
        | none => rw [e] at h; cases h
        | some m =>
          rw [e] at h
          have h : m + 1 = n := by injection h
          subst h
          have ih := rgL_take _ r m e v
          show rgL tk (c :: (r.take m ++ v)) = some (m + 1)
          rw [rgL, if_neg h1, if_neg h2, ih]
          rfl
/-- behind a text stand blanks alone: its words are the same -/
theorem wrS_sfx : ∀ (f : Nat) (u : Txt) (a : Nat), u ≠ [] → wrS f (u ++ sfxB) a = wrS f u a
  | 0, _, _, _ => rfl
  | f + 1, u, a, hu => by
    have hu' : u ++ sfxB ≠ [] := fun h => hu (List.append_eq_nil_iff.1 h).1
    cases he : endL u with
    | none => rw [wrS_none hu he, wrS_none hu' (by rw [endL_sfx hu]; exact he)]
    | some n =>
      have hn := endL_le he
      rw [wrS_some hu he, wrS_some hu' (by rw [endL_sfx hu]; exact he)]
      have hd : (u ++ sfxB).drop n = u.drop n ++ sfxB := by rw [List.drop_append_of_le_length hn.2]
      have hw : wdS (u ++ sfxB) a n = wdS u a n := by
        cases u with
        | nil => exact absurd rfl hu
        | cons c r =>
          unfold wdS
          show (kndW c.toNat, a, if c.toNat = 47 then ((r ++ sfxB).take (n - 2)) else ((c :: r) ++ sfxB).take n) = (kndW c.toNat, a, if c.toNat = 47 then (r.take (n - 2)) else (c :: r).take n)
          rw [List.take_append_of_le_length hn.2, List.take_append_of_le_length (by have := hn.2; rw [List.length_cons] at this; omega)]
      rw [hw, hd, skL_sfx]
      by_cases hk : skL false (u.drop n) < (u.drop n).length
      · rw [if_pos hk]
        rw [List.length_drop] at hk
        have hd2 : (u ++ sfxB).drop (n + skL false (u.drop n)) = u.drop (n + skL false (u.drop n)) ++ sfxB := by rw [List.drop_append_of_le_length (by omega)]
        have hne : u.drop (n + skL false (u.drop n)) ≠ [] := fun h => by have := congrArg List.length h; rw [List.length_drop, List.length_nil] at this; omega
        rw [hd2, wrS_sfx f _ _ hne]
      · rw [if_neg hk]
        have hle := skL_le false (u.drop n)
        rw [List.length_drop] at hk hle ⊢
        have e1 : (u ++ sfxB).drop (n + (u.length - n + 2)) = [] := List.drop_eq_nil_of_le (by rw [List.length_append]; show _ + 2 ≤ _; omega)
        have e2 : u.drop (n + skL false (u.drop n)) = [] := List.drop_eq_nil_of_le (by omega)
        rw [e1, e2, wrS_nil, wrS_nil]

end Go.Proofs.Ytkpakpfjgeannaa
