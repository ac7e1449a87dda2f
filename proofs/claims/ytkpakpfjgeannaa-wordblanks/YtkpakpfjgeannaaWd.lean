/- Shown words are read again; where words stand. -/
import Derived.Test.YtkpakpfjgeannaaWc
namespace Go.Proofs.Ytkpakpfjgeannaa

theorem oneW_on (x : Wd) : oneW (zOf x) = onK x.1 x.2.2 := by
  unfold oneW onK zOf
  dsimp only
  by_cases h : x.1 = 2
  · rw [if_pos h, if_pos (by omega)]; rfl
  · rw [if_neg h, if_neg (by omega)]
theorem shK_cons (x : Wz) (L : List Wz) : ∀ k, shK (x :: L) (k + 1) = oneW x ++ (if k = 0 then [] else 32 :: shK L k)
  | 0 => by
    show [] ++ ([] ++ oneW x) = oneW x ++ []
    simp
  | k + 1 => by
    have ih := shK_cons x L k
    have e1 : shK (x :: L) (k + 1 + 1) = shK (x :: L) (k + 1) ++ ([32] ++ oneW (L.getD k (0, 0, []))) := rfl
    have e2 : shK L (k + 1) = shK L k ++ ((if k = 0 then [] else [32]) ++ oneW (L.getD k (0, 0, []))) := rfl
    rw [e1, ih, e2]
    by_cases h : k = 0
    · subst h
      show (oneW x ++ []) ++ ([32] ++ oneW (L.getD 0 (0, 0, []))) = oneW x ++ 32 :: ([] ++ ([] ++ oneW (L.getD 0 (0, 0, []))))
      simp
    · rw [if_neg h, if_neg h, if_neg (Nat.succ_ne_zero k)]
      simp
theorem shK_jn : ∀ l : List Wd, shK (l.map zOf) l.length = jnW (l.map fun x => (x.1, x.2.2))
  | [] => rfl
  | [x] => by
    show shK [zOf x] (0 + 1) = onK x.1 x.2.2
    rw [shK_cons, if_pos rfl, List.append_nil, oneW_on]
  | x :: y :: r => by
    have ih := shK_jn (y :: r)
    show shK (zOf x :: (y :: r).map zOf) ((y :: r).length + 1) = onK x.1 x.2.2 ++ 32 :: jnW ((y :: r).map fun x => (x.1, x.2.2))
    rw [shK_cons, if_neg (by rw [List.length_cons]; omega), ih, oneW_on]
theorem kt_z (l : List Wd) : kt (l.map zOf) = (l.map fun x => (x.1, x.2.2)).map fun y => ((y.1 : Int), y.2) := by
  unfold kt
  rw [List.map_map, List.map_map]
  rfl
/-- there and back -/
theorem words_back {s : Txt} (hl : (shK ((wrdA s).1.map zOf) (wrdA s).1.length).length ≤ 4000) : (wrdA (shK ((wrdA s).1.map zOf) (wrdA s).1.length)).2.2 = 0 ∧ kt ((wrdA (shK ((wrdA s).1.map zOf) (wrdA s).1.length)).1.map zOf) = kt ((wrdA s).1.map zOf) := by
  have hg : ∀ x ∈ (wrdA s).1.map (fun x => (x.1, x.2.2)), GdK x.1 x.2 := fun x hx => by
    obtain ⟨y, hy, rfl⟩ := List.mem_map.1 hx
    exact wrdA_good s y hy
  rw [shK_jn] at hl ⊢
  rw [wrdA_S hl, jn_skip hg, List.drop_zero]
  obtain ⟨h1, h2⟩ := jn_back _ 0 _ hg (Nat.le_refl _)
  unfold resW
  rw [h1]
  refine ⟨rfl, ?_⟩
  dsimp only
  rw [List.nil_append, kt_z, kt_z, h2]

theorem wd_len {u : Txt} {a n : Nat} (h : endL u = some n) : (onK (wdS u a n).1 (wdS u a n).2.2).length = n := by
  have hle := endL_le h
  have h2 := endL_two h
  unfold wdS onK
  dsimp only
  by_cases h47 : (u.headD 0).toNat = 47
  · have hk : kndW (u.headD 0).toNat = 2 := by rw [h47]; rfl
    have := h2 h47
    rw [hk, if_pos rfl, if_pos h47, List.length_cons, List.length_append, List.length_take, List.length_drop, List.length_singleton]
    omega
  · have hk : kndW (u.headD 0).toNat ≠ 2 := by
      unfold kndW
      rw [if_neg h47]
      split <;> decide
    rw [if_neg hk, if_neg h47, List.length_take]
    omega
/-- words one behind the other, blanks alone between them -/
def PlcW (T : Txt) : Nat → List Wd → Prop
  | p, [] => p + skL false (T.drop p) = T.length
  | p, x :: l => p + skL false (T.drop p) = x.2.1 ∧ x.2.1 + (onK x.1 x.2.2).length ≤ T.length ∧ 0 < (onK x.1 x.2.2).length ∧ PlcW T (x.2.1 + (onK x.1 x.2.2).length) l
theorem plc_of (T : Txt) : ∀ (f p : Nat), p ≤ T.length → T.length ≤ p + skL false (T.drop p) + f → (wrS f (T.drop (p + skL false (T.drop p))) (p + skL false (T.drop p))).2 = none → PlcW T p (wrS f (T.drop (p + skL false (T.drop p))) (p + skL false (T.drop p))).1
  | 0, p, hp, h, _ => by
    have := skL_le false (T.drop p)
    rw [List.length_drop] at this
    show p + skL false (T.drop p) = T.length
    omega
  | f + 1, p, hp, h, hn => by
    have hsk := skL_le false (T.drop p)
    rw [List.length_drop] at hsk
    obtain ⟨a, ha⟩ : ∃ a, p + skL false (T.drop p) = a := ⟨_, rfl⟩
    rw [ha] at h hn ⊢
    by_cases hu : T.drop a = []
    · rw [hu, wrS_nil]
      have := congrArg List.length hu
      rw [List.length_drop, List.length_nil] at this
      show p + skL false (T.drop p) = T.length
      omega
    · cases he : endL (T.drop a) with
      | none => rw [wrS_none hu he] at hn; cases hn
      | some n =>
        have hle := endL_le he
        rw [List.length_drop] at hle
        rw [wrS_some hu he] at hn ⊢
        have hl := wd_len (a := a) he
        have e : (wdS (T.drop a) a n).2.1 = a := rfl
        rw [List.drop_drop, List.drop_drop, show a + (n + skL false (T.drop (a + n))) = a + n + skL false (T.drop (a + n)) by omega] at hn ⊢
        refine ⟨by rw [e]; exact ha, by rw [hl, e]; omega, by rw [hl]; omega, ?_⟩
        rw [hl, e]
        exact plc_of T f (a + n) (by omega) (by have := skL_le false (T.drop (a + n)); omega) hn
theorem words_places {s : Txt} (h0 : (wrdA s).2.2 = 0) : PlcW s 0 (wrdA s).1 := by
  by_cases h : 4000 < s.length
  · unfold wrdA at h0; rw [if_pos h] at h0; cases h0
  · rw [wrdA_S (by omega)] at h0 ⊢
    have := plc_of s s.length 0 (Nat.zero_le _) (by omega)
    rw [Nat.zero_add, List.drop_zero] at this
    unfold resW at h0 ⊢
    cases e : (wrS s.length (s.drop (skL false s)) (skL false s)).2 with
    | none => exact this e
    | some y => rw [e] at h0; cases h0
theorem wrS_err : ∀ (f : Nat) (u : Txt) (a y : Nat), (wrS f u a).2 = some y → y ≤ a + u.length
  | 0, _, _, _, h => by cases h
  | f + 1, u, a, y, h => by
    by_cases hu : u = []
    · subst hu; rw [wrS_nil] at h; cases h
    · cases he : endL u with
      | none => rw [wrS_none hu he] at h; injection h with h; omega
      | some n =>
        have hle := endL_le he
        have hsk := skL_le false (u.drop n)
        rw [List.length_drop] at hsk
        rw [wrS_some hu he] at h
        have := wrS_err f _ _ y h
        rw [List.length_drop] at this
        omega
/-- how many words there are, how long each is -/
theorem plc_few {T : Txt} : ∀ {l : List Wd} {p : Nat}, PlcW T p l → p ≤ T.length → p + l.length ≤ T.length ∧ ∀ x ∈ l, x.2.2.length ≤ T.length ∧ x.2.1 ≤ T.length
  | [], p, _, hp => ⟨hp, fun x hx => by cases hx⟩
  | x :: l, p, h, hp => by
    obtain ⟨h1, h2, h3, h4⟩ := h
    obtain ⟨i1, i2⟩ := plc_few h4 h2
    have h5 : x.2.2.length ≤ (onK x.1 x.2.2).length := by
      unfold onK
      split
      · rw [List.length_cons, List.length_append]; omega
      · exact Nat.le_refl _
    rw [List.length_cons]
    refine ⟨by omega, fun y hy => ?_⟩
    rcases List.mem_cons.1 hy with rfl | hy
    · exact ⟨by omega, by omega⟩
    · exact i2 y hy
theorem wrdA_few (s : Txt) : (wrdA s).1.length ≤ s.length ∧ (∀ x ∈ (wrdA s).1, x.2.2.length ≤ s.length ∧ x.2.1 ≤ s.length) ∧ (wrdA s).2.1 ≤ s.length ∧ 0 ≤ (wrdA s).2.2 ∧ (wrdA s).2.2 ≤ 3 ∧ ((wrdA s).2.2 ≠ 0 → (wrdA s).1 = []) ∧ ((wrdA s).2.2 = 0 → s.length ≤ 4000) := by
  by_cases h : 4000 < s.length
  · have e : wrdA s = ([], 0, 3) := if_pos h
    rw [e]
    exact ⟨Nat.zero_le _, fun x hx => (by cases hx), Nat.zero_le _, by decide, by decide, fun _ => rfl, fun e => (by cases e)⟩
  · have hS := wrdA_S (T := s) (by omega)
    cases e : (wrS s.length (s.drop (skL false s)) (skL false s)).2 with
    | none =>
      have e0 : (wrdA s).2.2 = 0 := by rw [hS]; unfold resW; rw [e]
      have e1 : (wrdA s).2.1 = 0 := by rw [hS]; unfold resW; rw [e]
      have hp := plc_few (words_places e0) (Nat.zero_le _)
      rw [Nat.zero_add] at hp
      exact ⟨hp.1, hp.2, by rw [e1]; exact Nat.zero_le _, by rw [e0]; decide, by rw [e0]; decide, fun h9 => absurd e0 h9, fun _ => by omega⟩
    | some y =>
      have e0 : wrdA s = ([], y, 1) := by rw [hS]; unfold resW; rw [e]
      have hy : y ≤ s.length := by
        have h9 := wrS_err _ _ _ y e
        have h8 := skL_le false s
        rw [List.length_drop] at h9
        omega
      rw [e0]
      exact ⟨Nat.zero_le _, fun x hx => (by cases hx), hy, by show (0 : Int) ≤ 1; decide, by show (1 : Int) ≤ 3; decide, fun _ => rfl, fun e => (by cases e)⟩

end Go.Proofs.Ytkpakpfjgeannaa
