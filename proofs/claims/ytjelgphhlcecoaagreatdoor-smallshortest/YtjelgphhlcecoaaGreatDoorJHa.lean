/- The maths of small.Shortest: texts by length, then byte by byte, and the states met in that order. The maths of the reference's Shortest: of each length the first text that leads to each state. small.Shortest's memory: which states are met, and the ways. -/
import Derived.Test.YtjelgphhlcecoaaGreatDoorJ14
import Derived.Test.YtjelgphhlcecoaaGreatDoorJQa
namespace Go.Proofs.YtjelgphhlcecoaaGreatDoor

/-- a text's number: by length, then byte by byte -/
def skR : Txt → Nat
  | [] => 1
  | c :: r => skR r * 256 + c.toNat
def skT (t : Txt) : Nat := skR t.reverse
theorem skT_snoc (t : Txt) (c : UInt8) : skT (t ++ [c]) = skT t * 256 + c.toNat := by
  unfold skT
  rw [List.reverse_append]
  rfl
theorem skR_pos : ∀ r : Txt, 1 ≤ skR r
  | [] => Nat.le_refl _
  | c :: r => by have := skR_pos r; unfold skR; omega
theorem skR_inj : ∀ r s : Txt, skR r = skR s → r = s
  | [], [], _ => rfl
  | [], d :: s, h => by
    have := skR_pos s
    have h' : 1 = skR s * 256 + d.toNat := h
    omega
  | c :: r, [], h => by
    have := skR_pos r
    have h' : skR r * 256 + c.toNat = 1 := h
    omega
  | c :: r, d :: s, h => by
    have h' : skR r * 256 + c.toNat = skR s * 256 + d.toNat := h
    have hc := c.toNat_lt
    have hd := d.toNat_lt
    have e1 : skR r = skR s := by omega
    have e2 : c.toNat = d.toNat := by omega
    rw [skR_inj r s e1, UInt8.toNat_inj.1 e2]
theorem skT_inj {t u : Txt} (h : skT t = skT u) : t = u := by
  have := skR_inj _ _ h
  rw [← List.reverse_reverse t, this, List.reverse_reverse]
theorem skR_bd : ∀ r : Txt, 256 ^ r.length ≤ skR r ∧ skR r + 1 ≤ 2 * 256 ^ r.length
  | [] => by decide
  | c :: r => by
    obtain ⟨h1, h2⟩ := skR_bd r
    have hc := c.toNat_lt
    rw [List.length_cons, Nat.pow_succ]
    unfold skR
    omega
theorem skT_len {t u : Txt} (h : t.length < u.length) : skT t < skT u := by
  have h1 := (skR_bd t.reverse).2
  have h2 := (skR_bd u.reverse).1
  rw [List.length_reverse] at h1 h2
  have h3 : 256 ^ (t.length + 1) ≤ 256 ^ u.length := Nat.pow_le_pow_right (by omega) h
  rw [Nat.pow_succ] at h3
  have h4 : 1 ≤ 256 ^ t.length := Nat.pow_pos (by omega)
  unfold skT
  omega
/-- the number by its first byte -/
def valF : Txt → Nat
  | [] => 0
  | c :: r => c.toNat * 256 ^ r.length + valF r
theorem valF_lt : ∀ t : Txt, valF t < 256 ^ t.length
  | [] => by decide
  | c :: r => by
    have h1 := valF_lt r
    have hc := c.toNat_lt
    have h2 : c.toNat * 256 ^ r.length + 256 ^ r.length ≤ 256 ^ r.length * 256 := by
      rw [← Nat.succ_mul, Nat.mul_comm]
      exact Nat.mul_le_mul_left _ (by omega)
    rw [List.length_cons, Nat.pow_succ]
    show c.toNat * 256 ^ r.length + valF r < _
    omega
theorem valF_snoc (c : UInt8) : ∀ t : Txt, valF (t ++ [c]) = valF t * 256 + c.toNat
  | [] => by show c.toNat * 256 ^ 0 + 0 = 0 * 256 + c.toNat; omega
  | d :: r => by
    show d.toNat * 256 ^ (r ++ [c]).length + valF (r ++ [c]) = (d.toNat * 256 ^ r.length + valF r) * 256 + c.toNat
    rw [valF_snoc c r, List.length_append, List.length_singleton, Nat.pow_succ, Nat.add_mul, ← Nat.mul_assoc]
    omega
theorem skR_val : ∀ r : Txt, skR r = 256 ^ r.length + valF r.reverse
  | [] => by decide
  | c :: r => by
    have ih := skR_val r
    rw [List.reverse_cons, valF_snoc, List.length_cons, Nat.pow_succ]
    show skR r * 256 + c.toNat = _
    omega
theorem skT_val (t : Txt) : skT t = 256 ^ t.length + valF t := by
  unfold skT
  rw [skR_val, List.length_reverse, List.reverse_reverse]
theorem less_key : ∀ t u : Txt, t.length = u.length → (Go.Op.bytesLess t u = true ↔ valF t < valF u)
  | [], [], _ => by simp [Go.Op.bytesLess, valF]
  | [], _ :: _, h => by cases h
  | _ :: _, [], h => by cases h
  | c :: t, d :: u, h => by
    have hl : t.length = u.length := by simpa using h
    have ih := less_key t u hl
    have h1 := valF_lt t
    have h2 := valF_lt u
    show (decide (c < d) || (c == d && Go.Op.bytesLess t u)) = true ↔ c.toNat * 256 ^ t.length + valF t < d.toNat * 256 ^ u.length + valF u
    rw [← hl] at h2 ⊢
    rw [Bool.or_eq_true, Bool.and_eq_true, decide_eq_true_eq, beq_iff_eq, ih, UInt8.lt_iff_toNat_lt]
    constructor
    · rintro (h3 | ⟨h3, h4⟩)
      · have h5 : (c.toNat + 1) * 256 ^ t.length ≤ d.toNat * 256 ^ t.length := Nat.mul_le_mul_right _ h3
        rw [Nat.succ_mul] at h5
        omega
      · subst h3
        omega
    · intro h3
      rcases Nat.lt_trichotomy c.toNat d.toNat with h4 | h4 | h4
      · exact Or.inl h4
      · have h5 := UInt8.toNat_inj.1 h4
        subst h5
        exact Or.inr ⟨rfl, by omega⟩
      · exfalso
        have h5 : (d.toNat + 1) * 256 ^ t.length ≤ c.toNat * 256 ^ t.length := Nat.mul_le_mul_right _ h4
        rw [Nat.succ_mul] at h5
        omega
theorem lessT {t u : Txt} (h : t.length = u.length) : Go.Op.bytesLess t u = decide (skT t < skT u) := by
  have h1 := less_key t u h
  have h2 : skT t < skT u ↔ valF t < valF u := by rw [skT_val, skT_val, h]; omega
  rw [Bool.eq_iff_iff, h1, decide_eq_true_eq, h2]

theorem goA_snoc (N : List (List Int)) (t : Txt) (c : UInt8) : goA N 0 (t ++ [c]) = nxA N (goA N 0 t) c.toNat := by rw [goA_app]; rfl

/-- what is asked of the answer -/
def BestT (N : List (List Int)) (A : List Int) (r : Int) (t : Txt) : Prop := doA N A 0 t = r ∧ ∀ u, doA N A 0 u = r → skT t ≤ skT u
theorem BestT.uniq {N : List (List Int)} {A : List Int} {r : Int} {t u : Txt} (h : BestT N A r t) (h' : BestT N A r u) : t = u := by
  have h1 := h.2 u h'.1
  have h2 := h'.2 t h.1
  exact skT_inj (by omega)

structure WI (N : List (List Int)) (W : List (Nat × Txt)) (X : Nat) : Prop where
  run : ∀ p ∈ W, goA N 0 p.2 = p.1 ∧ p.1 < N.length
  nd : (W.map Prod.fst).Nodup
  up : W.Pairwise (fun p q => skT p.2 < skT q.2)
  lt : ∀ p ∈ W, skT p.2 < X
  len : ∀ k, k < W.length → (W.getD k (0, [])).2.length ≤ k
theorem WI.start {N : List (List Int)} (h : 0 < N.length) : WI N [(0, [])] 256 :=
  ⟨fun p hp => by
    have : p = (0, []) := by simpa using hp
    subst this
    exact ⟨rfl, h⟩, by simp, by simp, fun p hp => by
    have : p = (0, []) := by simpa using hp
    subst this
    decide, fun k hk => by
    have : k = 0 := by simpa using hk
    subst this
    decide⟩
theorem WI.more {N : List (List Int)} {W : List (Nat × Txt)} {X Y : Nat} (h : WI N W X) (hXY : X ≤ Y) : WI N W Y :=
  ⟨h.run, h.nd, h.up, fun p hp => Nat.lt_of_lt_of_le (h.lt p hp) hXY, h.len⟩
theorem WI.push {N : List (List Int)} {W : List (Nat × Txt)} {X to : Nat} {t : Txt} (h : WI N W X) (hto : to < N.length) (hn : ¬ to ∈ W.map Prod.fst) (hg : goA N 0 t = to) (hk : skT t = X) (hl : t.length ≤ W.length) : WI N (W ++ [(to, t)]) (X + 1) := by
  refine ⟨fun p hp => ?_, ?_, ?_, fun p hp => ?_, fun k hkk => ?_⟩
  · rcases List.mem_append.1 hp with hp | hp
    · exact h.run p hp
    · have : p = (to, t) := by simpa using hp
      subst this
      exact ⟨hg, hto⟩
  · rw [List.map_append, List.nodup_append]
    refine ⟨h.nd, by simp, fun a ha b hb => ?_⟩
    have : b = to := by simpa using hb
    subst this
    exact fun e => hn (e ▸ ha)
  · rw [List.pairwise_append]
    refine ⟨h.up, by simp, fun a ha b hb => ?_⟩
    have : b = (to, t) := by simpa using hb
    subst this
    show skT a.2 < skT t
    rw [hk]
    exact h.lt a ha
  · rcases List.mem_append.1 hp with hp | hp
    · have := h.lt p hp
      omega
    · have : p = (to, t) := by simpa using hp
      subst this
      show skT t < X + 1
      omega
  · rw [List.length_append, List.length_singleton] at hkk
    rcases Nat.lt_or_ge k W.length with h1 | h1
    · rw [List.getD_eq_getElem?_getD, List.getElem?_append_left h1, ← List.getD_eq_getElem?_getD]
      exact h.len k h1
    · obtain rfl : k = W.length := by omega
      rw [List.getD_eq_getElem?_getD, List.getElem?_append_right (Nat.le_refl _), Nat.sub_self]
      exact hl

/-- a way's row, byte by byte -/
def rowW (N : List (List Int)) (p : Nat × Txt) (W : List (Nat × Txt)) : Nat → List (Nat × Txt)
  | 0 => W
  | b + 1 => if nxA N p.1 b < N.length ∧ ¬ nxA N p.1 b ∈ (rowW N p W b).map Prod.fst then rowW N p W b ++ [(nxA N p.1 b, p.2 ++ [UInt8.ofNat b])] else rowW N p W b
/-- the ways behind k of them -/
def wayW (N : List (List Int)) : Nat → List (Nat × Txt)
  | 0 => [(0, [])]
  | k + 1 => rowW N ((wayW N k).getD k (0, [])) (wayW N k) 256
theorem rowW_pre (N : List (List Int)) (p : Nat × Txt) (W : List (Nat × Txt)) : ∀ b, ∃ V, rowW N p W b = W ++ V
  | 0 => ⟨[], by simp [rowW]⟩
  | b + 1 => by
    obtain ⟨V, hV⟩ := rowW_pre N p W b
    unfold rowW
    split
    · exact ⟨V ++ [(nxA N p.1 b, p.2 ++ [UInt8.ofNat b])], by rw [hV, List.append_assoc]⟩
    · exact ⟨V, hV⟩
theorem rowW_is {N : List (List Int)} {p : Nat × Txt} {W : List (Nat × Txt)} {k : Nat} (h : WI N W (skT p.2 * 256)) (hk : k < W.length) (hp : W.getD k (0, []) = p) : ∀ b, b ≤ 256 → WI N (rowW N p W b) (skT p.2 * 256 + b) ∧ ∀ c, c < b → nxA N p.1 c < N.length → ∃ q ∈ rowW N p W b, q.1 = nxA N p.1 c ∧ skT q.2 ≤ skT p.2 * 256 + c
  | 0, _ => by rw [Nat.add_zero]; exact ⟨h, fun c hc => absurd hc (Nat.not_lt_zero _)⟩
  | b + 1, hb => by
    rw [← Nat.add_assoc]
    obtain ⟨h1, h2⟩ := rowW_is h hk hp b (by omega)
    have hpm : p ∈ W := by
      rw [← hp, List.getD_eq_getElem?_getD, List.getElem?_eq_getElem hk]
      exact List.getElem_mem _
    have hpl : p.2.length ≤ k := by have := h.len k hk; rw [hp] at this; exact this
    obtain ⟨V, hV⟩ := rowW_pre N p W b
    have hnat : (UInt8.ofNat b).toNat = b := by rw [UInt8.toNat_ofNat', Nat.mod_eq_of_lt (by omega)]
    by_cases hc : nxA N p.1 b < N.length ∧ ¬ nxA N p.1 b ∈ (rowW N p W b).map Prod.fst
    · have e : rowW N p W (b + 1) = rowW N p W b ++ [(nxA N p.1 b, p.2 ++ [UInt8.ofNat b])] := by rw [rowW, if_pos hc]
      rw [e]
      refine ⟨h1.push hc.1 hc.2 (by rw [goA_snoc, (h.run p hpm).1, hnat]) (by rw [skT_snoc, hnat]) (by rw [hV, List.length_append, List.length_append, List.length_singleton]; omega), fun c hcb hcn => ?_⟩
      rcases Nat.lt_or_ge c b with h9 | h9
      · obtain ⟨q, hq, h3⟩ := h2 c h9 hcn
        exact ⟨q, List.mem_append_left _ hq, h3⟩
      · obtain rfl : c = b := by omega
        exact ⟨_, List.mem_append_right _ (List.mem_singleton.2 rfl), rfl, by show skT (p.2 ++ [UInt8.ofNat c]) ≤ _; rw [skT_snoc, hnat]; omega⟩
    · have e : rowW N p W (b + 1) = rowW N p W b := by rw [rowW, if_neg hc]
      rw [e]
      refine ⟨h1.more (by omega), fun c hcb hcn => ?_⟩
      rcases Nat.lt_or_ge c b with h9 | h9
      · exact h2 c h9 hcn
      · obtain rfl : c = b := by omega
        have hin : nxA N p.1 c ∈ (rowW N p W c).map Prod.fst := Classical.byContradiction fun h3 => hc ⟨hcn, h3⟩
        obtain ⟨q, hq, h3⟩ := List.mem_map.1 hin
        exact ⟨q, hq, h3, by have := h1.lt q hq; omega⟩
theorem wayW_pre (N : List (List Int)) (k : Nat) : ∀ d, ∃ V, wayW N (k + d) = wayW N k ++ V
  | 0 => ⟨[], by simp⟩
  | d + 1 => by
    obtain ⟨V, hV⟩ := wayW_pre N k d
    obtain ⟨V', hV'⟩ := rowW_pre N ((wayW N (k + d)).getD (k + d) (0, [])) (wayW N (k + d)) 256
    exact ⟨V ++ V', by rw [← Nat.add_assoc, wayW, hV', hV, List.append_assoc]⟩
theorem wayW_getD (N : List (List Int)) {j k : Nat} (hj : j < (wayW N j).length) (h : j ≤ k) : (wayW N k).getD j (0, []) = (wayW N j).getD j (0, []) := by
  obtain ⟨V, hV⟩ := wayW_pre N j (k - j)
  rw [show j + (k - j) = k by omega] at hV
  rw [hV, List.getD_eq_getElem?_getD, List.getElem?_append_left hj, ← List.getD_eq_getElem?_getD]
theorem wayW_is {N : List (List Int)} (h0 : 0 < N.length) : ∀ k, (∀ j, j < k → j < (wayW N j).length) → ∃ X, WI N (wayW N k) X ∧ (k < (wayW N k).length → X ≤ skT ((wayW N k).getD k (0, [])).2 * 256) ∧ ∀ j, j < k → ∀ c, c < 256 → nxA N ((wayW N k).getD j (0, [])).1 c < N.length → ∃ q ∈ wayW N k, q.1 = nxA N ((wayW N k).getD j (0, [])).1 c ∧ skT q.2 ≤ skT ((wayW N k).getD j (0, [])).2 * 256 + c
  | 0, _ => ⟨256, WI.start h0, fun _ => by have h : skT ((wayW N 0).getD 0 (0, [])).2 = 1 := rfl; omega, fun j hj => absurd hj (Nat.not_lt_zero _)⟩
  | k + 1, hon => by
    obtain ⟨X, h1, h2, h3⟩ := wayW_is h0 k (fun j hj => hon j (by omega))
    have hk := hon k (by omega)
    obtain ⟨h4, h5⟩ := rowW_is (h1.more (h2 hk)) hk rfl 256 (Nat.le_refl _)
    obtain ⟨V, hV⟩ := wayW_pre N k 1
    have hg : ∀ j, j < k + 1 → (wayW N (k + 1)).getD j (0, []) = (wayW N k).getD j (0, []) := fun j hj => by
      rw [hV, List.getD_eq_getElem?_getD, List.getElem?_append_left (by omega), ← List.getD_eq_getElem?_getD]
    refine ⟨_, h4, fun hlt => ?_, fun j hj c hc hn => ?_⟩
    · have hlt' : k + 1 < (wayW N (k + 1)).length := hlt
      have h6 := List.pairwise_iff_getElem.1 h4.up k (k + 1) (show k < (wayW N (k + 1)).length by omega) hlt' (by omega)
      have e1 : (wayW N (k + 1)).getD k (0, []) = (wayW N (k + 1))[k]'(by omega) := by rw [List.getD_eq_getElem?_getD, List.getElem?_eq_getElem (show k < (wayW N (k + 1)).length by omega)]; rfl
      have e2 : (wayW N (k + 1)).getD (k + 1) (0, []) = (wayW N (k + 1))[k + 1]'hlt' := by rw [List.getD_eq_getElem?_getD, List.getElem?_eq_getElem hlt']; rfl
      have h7 : skT ((wayW N (k + 1)).getD k (0, [])).2 < skT ((wayW N (k + 1)).getD (k + 1) (0, [])).2 := by rw [e1, e2]; exact h6
      rw [hg k (by omega)] at h7
      omega
    · rw [hg j hj] at hn ⊢
      rcases Nat.lt_or_ge j k with h9 | h9
      · obtain ⟨q, hq, h10⟩ := h3 j h9 c hc hn
        exact ⟨q, by rw [hV]; exact List.mem_append_left _ hq, h10⟩
      · obtain rfl : j = k := by omega
        exact h5 c hc hn
theorem nxA_lt {N : List (List Int)} {i b : Nat} (h : nxA N i b < N.length) : i < N.length := by
  rcases Nat.lt_or_ge i N.length with h1 | h1
  · exact h1
  · unfold nxA at h
    rw [if_pos h1] at h
    omega
/-- every text that leads somewhere: its state is met by then, or the next way is not behind it -/
theorem way_all {N : List (List Int)} (h0 : 0 < N.length) {k : Nat} (hon : ∀ j, j < k → j < (wayW N j).length) : ∀ r : Txt, goA N 0 r.reverse < N.length → (∃ j, j < k ∧ ((wayW N k).getD j (0, [])).1 = goA N 0 r.reverse ∧ skT ((wayW N k).getD j (0, [])).2 ≤ skT r.reverse) ∨ (k < (wayW N k).length ∧ skT ((wayW N k).getD k (0, [])).2 ≤ skT r.reverse) := by
  obtain ⟨X, hW, -, hcl⟩ := wayW_is h0 k hon
  have key : ∀ q ∈ wayW N k, ∀ u : Txt, skT q.2 ≤ skT u → q.1 = goA N 0 u → (∃ j, j < k ∧ ((wayW N k).getD j (0, [])).1 = goA N 0 u ∧ skT ((wayW N k).getD j (0, [])).2 ≤ skT u) ∨ (k < (wayW N k).length ∧ skT ((wayW N k).getD k (0, [])).2 ≤ skT u) := by
    intro q hq u h1 h2
    obtain ⟨i, hi, e⟩ := List.getElem_of_mem hq
    have ei : (wayW N k).getD i (0, []) = q := by rw [List.getD_eq_getElem?_getD, List.getElem?_eq_getElem hi, ← e]; rfl
    rcases Nat.lt_or_ge i k with h9 | h9
    · exact Or.inl ⟨i, h9, by rw [ei]; exact h2, by rw [ei]; exact h1⟩
    · have hk : k < (wayW N k).length := by omega
      refine Or.inr ⟨hk, ?_⟩
      rcases Nat.eq_or_lt_of_le h9 with h10 | h10
      · subst h10; rw [ei]; exact h1
      · have h6 := List.pairwise_iff_getElem.1 hW.up k i hk hi h10
        have ek : (wayW N k).getD k (0, []) = (wayW N k)[k]'hk := by rw [List.getD_eq_getElem?_getD, List.getElem?_eq_getElem hk]; rfl
        rw [ek]
        rw [e] at h6
        omega
  intro r
  induction r with
  | nil =>
    intro _
    obtain ⟨V, hV⟩ := wayW_pre N 0 k
    rw [Nat.zero_add] at hV
    exact key (0, []) (by rw [hV]; exact List.mem_append_left _ (List.mem_singleton.2 rfl)) [] (Nat.le_refl _) rfl
  | cons c r ih =>
    intro hr
    rw [List.reverse_cons] at hr ⊢
    rw [goA_snoc] at hr
    have hc := c.toNat_lt
    rcases ih (nxA_lt hr) with ⟨j, hj, e1, e2⟩ | ⟨h1, h2⟩
    · rw [← e1] at hr
      obtain ⟨q, hq, e3, e4⟩ := hcl j hj c.toNat hc hr
      refine key q hq _ ?_ ?_
      · rw [skT_snoc]
        exact Nat.le_trans e4 (Nat.add_le_add_right (Nat.mul_le_mul_right 256 e2) _)
      · rw [goA_snoc, ← e1]; exact e3
    · refine Or.inr ⟨h1, ?_⟩
      rw [skT_snoc]
      omega
theorem do_in {N : List (List Int)} {A : List Int} {r : Int} (hr : 0 ≤ r) {u : Txt} (h : doA N A 0 u = r) : goA N 0 u < N.length := by
  rcases Nat.lt_or_ge (goA N 0 u) N.length with h1 | h1
  · exact h1
  · unfold doA acA at h
    rw [if_pos h1] at h
    omega
/-- the first way whose state is accepted by the rule is the answer -/
theorem way_best {N : List (List Int)} {A : List Int} {r : Int} (h0 : 0 < N.length) (hr : 0 ≤ r) {k : Nat} (hon : ∀ j, j < k → j < (wayW N j).length) (hno : ∀ j, j < k → acA N A ((wayW N j).getD j (0, [])).1 ≠ r) (hk : k < (wayW N k).length) (ha : acA N A ((wayW N k).getD k (0, [])).1 = r) : BestT N A r ((wayW N k).getD k (0, [])).2 ∧ ((wayW N k).getD k (0, [])).2.length ≤ k := by
  obtain ⟨X, hW, -, -⟩ := wayW_is h0 k hon
  have hm : (wayW N k).getD k (0, []) ∈ wayW N k := by
    rw [List.getD_eq_getElem?_getD, List.getElem?_eq_getElem hk]
    exact List.getElem_mem _
  refine ⟨⟨?_, fun u hu => ?_⟩, hW.len k hk⟩
  · unfold doA
    rw [(hW.run _ hm).1]
    exact ha
  · have h1 := way_all h0 hon u.reverse
    rw [List.reverse_reverse] at h1
    rcases h1 (do_in hr hu) with ⟨j, hj, e1, -⟩ | ⟨-, h2⟩
    · exfalso
      rw [wayW_getD N (hon j hj) (by omega)] at e1
      refine hno j hj ?_
      rw [e1]
      exact hu
    · exact h2
theorem way_none {N : List (List Int)} {A : List Int} {r : Int} (h0 : 0 < N.length) (hr : 0 ≤ r) {k : Nat} (hon : ∀ j, j < k → j < (wayW N j).length) (hno : ∀ j, j < k → acA N A ((wayW N j).getD j (0, [])).1 ≠ r) (hk : (wayW N k).length ≤ k) : ∀ u, doA N A 0 u ≠ r := by
  intro u hu
  have h1 := way_all h0 hon u.reverse
  rw [List.reverse_reverse] at h1
  rcases h1 (do_in hr hu) with ⟨j, hj, e1, -⟩ | ⟨h2, -⟩
  · rw [wayW_getD N (hon j hj) (by omega)] at e1
    refine hno j hj ?_
    rw [e1]
    exact hu
  · omega
theorem rowW_old {N : List (List Int)} {p : Nat × Txt} {W : List (Nat × Txt)} {b : Nat} (h : ¬ nxA N p.1 b < N.length ∨ nxA N p.1 b ∈ (rowW N p W b).map Prod.fst) : rowW N p W (b + 1) = rowW N p W b := by
  rw [rowW, if_neg]
  rintro ⟨h1, h2⟩
  rcases h with h | h
  · exact h h1
  · exact h2 h
theorem rowW_new {N : List (List Int)} {p : Nat × Txt} {W : List (Nat × Txt)} {b : Nat} (h : nxA N p.1 b < N.length) (h' : ¬ nxA N p.1 b ∈ (rowW N p W b).map Prod.fst) : rowW N p W (b + 1) = rowW N p W b ++ [(nxA N p.1 b, p.2 ++ [UInt8.ofNat b])] := by rw [rowW, if_pos ⟨h, h'⟩]

/-- numbers below n, none twice, are at most n -/
theorem nd_len : ∀ (n : Nat) (l : List Nat), l.Nodup → (∀ x ∈ l, x < n) → l.length ≤ n
  | 0, l, _, h => by
    cases l with
    | nil => exact Nat.le_refl _
    | cons a l => exact absurd (h a (List.mem_cons_self ..)) (Nat.not_lt_zero _)
  | n + 1, l, hn, h => by
    have h1 := nd_len n (l.erase n) (hn.erase n) (fun x hx => by
      have h2 := (hn.mem_erase_iff).1 hx
      have := h x h2.2
      omega)
    have h3 := List.length_erase (a := n) (l := l)
    rw [h3] at h1
    split at h1 <;> omega
theorem WI.few {N : List (List Int)} {W : List (Nat × Txt)} {X : Nat} (h : WI N W X) : W.length ≤ N.length := by
  have := nd_len N.length (W.map Prod.fst) h.nd (fun x hx => by
    obtain ⟨p, hp, rfl⟩ := List.mem_map.1 hx
    exact (h.run p hp).2)
  rwa [List.length_map] at this

end Go.Proofs.YtjelgphhlcecoaaGreatDoor
namespace Go.Proofs.YtjelgphhlcecoaaGreatDoor

/-- of texts of length L the first one to each state -/
structure LevI (N : List (List Int)) (L : Nat) (at' : List Bool) (tx : List Txt) : Prop where
  yes : ∀ i, i < N.length → at'.getD i false = true → goA N 0 (tx.getD i []) = i ∧ (tx.getD i []).length = L ∧ ∀ u : Txt, u.length = L → goA N 0 u = i → skT (tx.getD i []) ≤ skT u
  no : ∀ i, i < N.length → at'.getD i false = false → ∀ u : Txt, u.length = L → goA N 0 u ≠ i
/-- the same of length L + 1, of those candidates that are ahead of number x -/
structure ParI (N : List (List Int)) (L : Nat) (at' : List Bool) (tx : List Txt) (x : Nat) (on : List Bool) (more : List Txt) : Prop where
  yes : ∀ to, to < N.length → on.getD to false = true → goA N 0 (more.getD to []) = to ∧ (more.getD to []).length = L + 1 ∧ ∀ j c, j * 256 + c < x → j < N.length → c < 256 → at'.getD j false = true → nxA N j c = to → skT (more.getD to []) ≤ skT (tx.getD j []) * 256 + c
  no : ∀ to, to < N.length → on.getD to false = false → ∀ j c, j * 256 + c < x → j < N.length → c < 256 → at'.getD j false = true → nxA N j c ≠ to
theorem LevI.start {N : List (List Int)} {at' : List Bool} {tx : List Txt} (_h0 : 0 < N.length) (h1 : at'.getD 0 false = true) (h2 : ∀ i, 0 < i → at'.getD i false = false) (h3 : tx.getD 0 [] = []) : LevI N 0 at' tx := by
  have hz : ∀ u : Txt, u.length = 0 → u = [] := fun u h => List.eq_nil_of_length_eq_zero h
  refine ⟨fun i hi ha => ?_, fun i hi ha u hu e => ?_⟩
  · rcases Nat.eq_zero_or_pos i with e | e
    · subst e
      rw [h3]
      exact ⟨rfl, rfl, fun u hu _ => by rw [hz u hu]; exact Nat.le_refl _⟩
    · rw [h2 i e] at ha
      cases ha
  · rw [hz u hu] at e
    have e' : 0 = i := e
    subst e'
    rw [h1] at ha
    cases ha
theorem ParI.start {N : List (List Int)} {L : Nat} {at' : List Bool} {tx : List Txt} {on : List Bool} {more : List Txt} (h : ∀ i, on.getD i false = false) : ParI N L at' tx 0 on more :=
  ⟨fun to _ ha => (by rw [h to] at ha; cases ha), fun _ _ _ j c hx => absurd hx (Nat.not_lt_zero _)⟩
theorem ParI.fin {N : List (List Int)} {L : Nat} {at' : List Bool} {tx : List Txt} {on : List Bool} {more : List Txt} (hL : LevI N L at' tx) (h : ParI N L at' tx (N.length * 256) on more) : LevI N (L + 1) on more := by
  have key : ∀ u : Txt, u.length = L + 1 → ∃ (v : Txt) (c : UInt8), u = v ++ [c] ∧ v.length = L := fun u hu => by
    have hne : u ≠ [] := fun e => by rw [e] at hu; cases hu
    refine ⟨u.dropLast, u.getLast hne, (List.dropLast_concat_getLast hne).symm, ?_⟩
    rw [List.length_dropLast]
    omega
  have step : ∀ (v : Txt) (c : UInt8) (to : Nat), v.length = L → to < N.length → goA N 0 (v ++ [c]) = to → at'.getD (goA N 0 v) false = true ∧ goA N 0 v < N.length ∧ nxA N (goA N 0 v) c.toNat = to ∧ skT (tx.getD (goA N 0 v) []) ≤ skT v := by
    intro v c to hv hto e
    rw [goA_snoc] at e
    have hj : goA N 0 v < N.length := nxA_lt (by rw [e]; exact hto)
    have ha : at'.getD (goA N 0 v) false = true := by
      rcases hb : at'.getD (goA N 0 v) false with _ | _
      · exact absurd rfl (hL.no _ hj hb v hv)
      · rfl
    exact ⟨ha, hj, e, (hL.yes _ hj ha).2.2 v hv rfl⟩
  refine ⟨fun to hto ha => ?_, fun to hto ha u hu e => ?_⟩
  · obtain ⟨h1, h2, h3⟩ := h.yes to hto ha
    refine ⟨h1, h2, fun u hu e => ?_⟩
    obtain ⟨v, c, rfl, hv⟩ := key u hu
    obtain ⟨g1, g2, g3, g4⟩ := step v c to hv hto e
    have hc := c.toNat_lt
    have h4 := h3 _ c.toNat (by omega) g2 hc g1 g3
    rw [skT_snoc]
    exact Nat.le_trans h4 (Nat.add_le_add_right (Nat.mul_le_mul_right 256 g4) _)
  · obtain ⟨v, c, rfl, hv⟩ := key u hu
    obtain ⟨g1, g2, g3, g4⟩ := step v c to hv hto e
    have hc := c.toNat_lt
    exact h.no to hto ha _ c.toNat (by omega) g2 hc g1 g3
/-- nothing new: the byte leads nowhere -/
theorem ParI.skip {N : List (List Int)} {L : Nat} {at' : List Bool} {tx : List Txt} {on : List Bool} {more : List Txt} {i b : Nat} (h : ParI N L at' tx (i * 256 + b) on more) (hb : b < 256) (hn : at'.getD i false = true → N.length ≤ nxA N i b) : ParI N L at' tx (i * 256 + b + 1) on more := by
  have hx : ∀ j c, j * 256 + c < i * 256 + b + 1 → c < 256 → j * 256 + c < i * 256 + b ∨ (j = i ∧ c = b) := fun j c h1 h2 => by omega
  refine ⟨fun to hto ha => ?_, fun to hto ha j c h1 h2 h3 h4 h5 => ?_⟩
  · obtain ⟨h1, h2, h3⟩ := h.yes to hto ha
    refine ⟨h1, h2, fun j c g1 g2 g3 g4 g5 => ?_⟩
    rcases hx j c g1 g3 with g6 | ⟨rfl, rfl⟩
    · exact h3 j c g6 g2 g3 g4 g5
    · have := hn g4
      omega
  · rcases hx j c h1 h3 with g6 | ⟨rfl, rfl⟩
    · exact h.no to hto ha j c g6 h2 h3 h4 h5
    · have := hn h4
      omega
/-- a state where no text of this length leads to: its row is passed by -/
theorem ParI.pass {N : List (List Int)} {L : Nat} {at' : List Bool} {tx : List Txt} {on : List Bool} {more : List Txt} {i : Nat} (h : ParI N L at' tx (i * 256) on more) (hn : at'.getD i false = false) : ParI N L at' tx ((i + 1) * 256) on more := by
  have hx : ∀ j c, j * 256 + c < (i + 1) * 256 → c < 256 → j * 256 + c < i * 256 ∨ j = i := fun j c h1 h2 => by omega
  refine ⟨fun to hto ha => ?_, fun to hto ha j c h1 h2 h3 h4 h5 => ?_⟩
  · obtain ⟨h1, h2, h3⟩ := h.yes to hto ha
    refine ⟨h1, h2, fun j c g1 g2 g3 g4 g5 => ?_⟩
    rcases hx j c g1 g3 with g6 | rfl
    · exact h3 j c g6 g2 g3 g4 g5
    · rw [hn] at g4
      cases g4
  · rcases hx j c h1 h3 with g6 | rfl
    · exact h.no to hto ha j c g6 h2 h3 h4 h5
    · rw [hn] at h4
      cases h4
/-- the text there is ahead of the new one -/
theorem ParI.keep {N : List (List Int)} {L : Nat} {at' : List Bool} {tx : List Txt} {on : List Bool} {more : List Txt} {i b : Nat} (h : ParI N L at' tx (i * 256 + b) on more) (hb : b < 256) (hto : nxA N i b < N.length) (hon : on.getD (nxA N i b) false = true) (hk : skT (more.getD (nxA N i b) []) ≤ skT (tx.getD i []) * 256 + b) : ParI N L at' tx (i * 256 + b + 1) on more := by
  have hx : ∀ j c, j * 256 + c < i * 256 + b + 1 → c < 256 → j * 256 + c < i * 256 + b ∨ (j = i ∧ c = b) := fun j c h1 h2 => by omega
  refine ⟨fun to hto' ha => ?_, fun to hto' ha j c h1 h2 h3 h4 h5 => ?_⟩
  · obtain ⟨h1, h2, h3⟩ := h.yes to hto' ha
    refine ⟨h1, h2, fun j c g1 g2 g3 g4 g5 => ?_⟩
    rcases hx j c g1 g3 with g6 | ⟨rfl, rfl⟩
    · exact h3 j c g6 g2 g3 g4 g5
    · subst g5
      exact hk
  · rcases hx j c h1 h3 with g6 | ⟨rfl, rfl⟩
    · exact h.no to hto' ha j c g6 h2 h3 h4 h5
    · subst h5
      rw [hon] at ha
      cases ha
theorem getD_set' {α : Type} (l : List α) (k : Nat) (x d : α) (h : k < l.length) (j : Nat) : (l.set k x).getD j d = if j = k then x else l.getD j d := by
  by_cases e : j = k
  · subst e
    rw [if_pos rfl, List.getD_eq_getElem?_getD, List.getElem?_set_self h]
    rfl
  · rw [if_neg e, List.getD_eq_getElem?_getD, List.getElem?_set_ne (fun e' => e e'.symm), ← List.getD_eq_getElem?_getD]
/-- the new text is the first one -/
theorem ParI.put {N : List (List Int)} {L : Nat} {at' : List Bool} {tx : List Txt} {on : List Bool} {more : List Txt} {i b : Nat} (hL : LevI N L at' tx) (h : ParI N L at' tx (i * 256 + b) on more) (hb : b < 256) (hi : i < N.length) (ha : at'.getD i false = true) (hto : nxA N i b < N.length) (ho : nxA N i b < on.length) (hm : nxA N i b < more.length) (hk : on.getD (nxA N i b) false = true → skT (tx.getD i []) * 256 + b ≤ skT (more.getD (nxA N i b) [])) : ParI N L at' tx (i * 256 + b + 1) (on.set (nxA N i b) true) (more.set (nxA N i b) (tx.getD i [] ++ [UInt8.ofNat b])) := by
  have hx : ∀ j c, j * 256 + c < i * 256 + b + 1 → c < 256 → j * 256 + c < i * 256 + b ∨ (j = i ∧ c = b) := fun j c h1 h2 => by omega
  have hnat : (UInt8.ofNat b).toNat = b := by rw [UInt8.toNat_ofNat', Nat.mod_eq_of_lt hb]
  obtain ⟨y1, y2, y3⟩ := hL.yes i hi ha
  refine ⟨fun to hto' ha' => ?_, fun to hto' ha' j c h1 h2 h3 h4 h5 => ?_⟩
  · rw [getD_set' _ _ _ _ ho] at ha'
    rw [getD_set' _ _ _ _ hm]
    by_cases e : to = nxA N i b
    · subst e
      rw [if_pos rfl]
      refine ⟨by rw [goA_snoc, y1, hnat], by rw [List.length_append, y2]; rfl, fun j c g1 g2 g3 g4 g5 => ?_⟩
      rw [skT_snoc, hnat]
      rcases hx j c g1 g3 with g6 | ⟨rfl, rfl⟩
      · rcases hb' : on.getD (nxA N i b) false with _ | _
        · exact absurd g5 (h.no _ hto' hb' j c g6 g2 g3 g4)
        · have h7 := (h.yes _ hto' hb').2.2 j c g6 g2 g3 g4 g5
          have := hk hb'
          omega
      · exact Nat.le_refl _
    · rw [if_neg e] at ha' ⊢
      obtain ⟨h1, h2, h3⟩ := h.yes to hto' ha'
      refine ⟨h1, h2, fun j c g1 g2 g3 g4 g5 => ?_⟩
      rcases hx j c g1 g3 with g6 | ⟨rfl, rfl⟩
      · exact h3 j c g6 g2 g3 g4 g5
      · exact absurd g5.symm e
  · rw [getD_set' _ _ _ _ ho] at ha'
    by_cases e : to = nxA N i b
    · rw [if_pos e] at ha'
      cases ha'
    · rw [if_neg e] at ha'
      rcases hx j c h1 h3 with g6 | ⟨rfl, rfl⟩
      · exact h.no to hto' ha' j c g6 h2 h3 h4 h5
      · exact e h5.symm

/-- the best of the first i states -/
def BesI (N : List (List Int)) (A : List Int) (r : Int) (at' : List Bool) (tx : List Txt) (i : Nat) (f : Bool) (best : Txt) : Prop :=
  (f = true → (∃ j, j < i ∧ at'.getD j false = true ∧ acA N A j = r ∧ best = tx.getD j []) ∧ ∀ j, j < i → at'.getD j false = true → acA N A j = r → skT best ≤ skT (tx.getD j [])) ∧ (f = false → ∀ j, j < i → at'.getD j false = true → acA N A j ≠ r)
theorem BesI.start (N : List (List Int)) (A : List Int) (r : Int) (at' : List Bool) (tx : List Txt) (best : Txt) : BesI N A r at' tx 0 false best := ⟨fun e => (by cases e), fun _ j hj => absurd hj (Nat.not_lt_zero _)⟩
theorem BesI.skip {N : List (List Int)} {A : List Int} {r : Int} {at' : List Bool} {tx : List Txt} {i : Nat} {f : Bool} {best : Txt} (h : BesI N A r at' tx i f best) (hn : at'.getD i false = true → acA N A i = r → f = true ∧ skT best ≤ skT (tx.getD i [])) : BesI N A r at' tx (i + 1) f best := by
  refine ⟨fun e => ⟨?_, fun j hj ha hr => ?_⟩, fun e j hj ha hr => ?_⟩
  · obtain ⟨j, hj, h1⟩ := (h.1 e).1
    exact ⟨j, by omega, h1⟩
  · rcases Nat.lt_or_ge j i with h1 | h1
    · exact (h.1 e).2 j h1 ha hr
    · obtain rfl : j = i := by omega
      exact (hn ha hr).2
  · rcases Nat.lt_or_ge j i with h1 | h1
    · exact h.2 e j h1 ha hr
    · obtain rfl : j = i := by omega
      have := (hn ha hr).1
      rw [e] at this
      cases this
theorem BesI.take {N : List (List Int)} {A : List Int} {r : Int} {at' : List Bool} {tx : List Txt} {i : Nat} {f : Bool} {best : Txt} (h : BesI N A r at' tx i f best) (ha : at'.getD i false = true) (hr : acA N A i = r) (hk : f = true → skT (tx.getD i []) ≤ skT best) : BesI N A r at' tx (i + 1) true (tx.getD i []) := by
  refine ⟨fun _ => ⟨⟨i, by omega, ha, hr, rfl⟩, fun j hj ha' hr' => ?_⟩, fun e => by cases e⟩
  rcases Nat.lt_or_ge j i with h1 | h1
  · cases f with
    | true =>
      have h2 := (h.1 rfl).2 j h1 ha' hr'
      have := hk rfl
      omega
    | false => exact absurd hr' (h.2 rfl j h1 ha')
  · obtain rfl : j = i := by omega
    exact Nat.le_refl _
theorem BesI.found {N : List (List Int)} {A : List Int} {r : Int} {L : Nat} {at' : List Bool} {tx : List Txt} {best : Txt} (hr : 0 ≤ r) (hL : LevI N L at' tx) (h : BesI N A r at' tx N.length true best) (hs : ∀ u : Txt, u.length < L → doA N A 0 u ≠ r) : BestT N A r best := by
  obtain ⟨⟨j, hj, ha, hac, rfl⟩, h2⟩ := h.1 rfl
  obtain ⟨y1, y2, y3⟩ := hL.yes j hj ha
  refine ⟨by unfold doA; rw [y1]; exact hac, fun u hu => ?_⟩
  rcases Nat.lt_trichotomy u.length L with h3 | h3 | h3
  · exact absurd hu (hs u h3)
  · have hg := do_in hr hu
    have ha' : at'.getD (goA N 0 u) false = true := by
      rcases hb : at'.getD (goA N 0 u) false with _ | _
      · exact absurd rfl (hL.no _ hg hb u h3)
      · rfl
    have h4 := h2 _ hg ha' hu
    have h5 := (hL.yes _ hg ha').2.2 u h3 rfl
    omega
  · exact Nat.le_of_lt (skT_len (by rw [y2]; exact h3))
theorem BesI.none {N : List (List Int)} {A : List Int} {r : Int} {L : Nat} {at' : List Bool} {tx : List Txt} {best : Txt} (hr : 0 ≤ r) (hL : LevI N L at' tx) (h : BesI N A r at' tx N.length false best) (hs : ∀ u : Txt, u.length < L → doA N A 0 u ≠ r) : ∀ u : Txt, u.length < L + 1 → doA N A 0 u ≠ r := by
  intro u hu e
  rcases Nat.lt_or_ge u.length L with h3 | h3
  · exact hs u h3 e
  · have h3 : u.length = L := by omega
    have hg := do_in hr e
    have ha' : at'.getD (goA N 0 u) false = true := by
      rcases hb : at'.getD (goA N 0 u) false with _ | _
      · exact absurd rfl (hL.no _ hg hb u h3)
      · rfl
    exact h.2 rfl _ hg ha' e

end Go.Proofs.YtjelgphhlcecoaaGreatDoor
namespace Go.Proofs.YtjelgphhlcecoaaGreatDoor
open Go.RowKit Go.Maps

def wyC (p : Nat × Txt) : List Value := [.int .i64 (p.1 : Int), .string (strT p.2)]
structure ShO (n br : Nat) (w0 w : World) (pv : Value) (P : List (Nat × Txt)) (fl : List Bool) : Prop where
  mr : OwnT w w0.heap.size (.slice (some ⟨br, 0, none⟩) n n) fl
  pr : w.ownsRow w0.heap.size 58 2 pv P.length (P.flatMap wyC)
  mrk : ∀ i, i < n → (fl.getD i false = true ↔ i ∈ P.map Prod.fst)
  low : Below w0.heap.size w0 w
  np : ∀ k, pv.ownBlock = some k → k ≠ br
theorem ShO.len {n br : Nat} {w0 w : World} {pv : Value} {P : List (Nat × Txt)} {fl : List Bool} (h : ShO n br w0 w pv P fl) : fl.length = n := ownT_len (m := n) (r := br) h.mr
theorem ShO.keep {n br : Nat} {w0 w u : World} {pv : Value} {P : List (Nat × Txt)} {fl : List Bool} (h : ShO n br w0 w pv P fl) (hu : Below w.heap.size w u) : ShO n br w0 u pv P fl :=
  ⟨own_below h.mr hu, own_below h.pr hu, h.mrk, bl_step h.low hu, h.np⟩
theorem ShO.cell {n br : Nat} {w0 w : World} {pv : Value} {P : List (Nat × Txt)} {fl : List Bool} (h : ShO n br w0 w pv P fl) {x : Nat} (hx : x < n) : w.cell? ⟨br, x, none⟩ = some (.bool (fl.getD x false)) ∧ w.frozen? ⟨br, x, none⟩ = false := by
  have hl := h.len
  have h2 : w.ownsRow w0.heap.size 4 1 (.slice (some ⟨br, 0, none⟩) n n) n (fl.map Value.bool) := by
    have h9 := h.mr
    unfold OwnT at h9
    rw [hl] at h9
    exact h9
  have h3 := h2.cellAt x (by omega)
  rw [List.getElem?_map, List.getElem?_eq_getElem (by omega)] at h3
  exact ⟨by rw [h3, getD_el (show x < fl.length by omega)]; rfl, h2.frozenAt x⟩
theorem ShO.mark {n br : Nat} {w0 w : World} {pv : Value} {P : List (Nat × Txt)} {fl : List Bool} (h : ShO n br w0 w pv P fl) (x : Nat) : OwnT (w.setCell ⟨br, x, none⟩ (.bool true)) w0.heap.size (.slice (some ⟨br, 0, none⟩) n n) (fl.set x true) ∧ (w.setCell ⟨br, x, none⟩ (.bool true)).ownsRow w0.heap.size 58 2 pv P.length (P.flatMap wyC) ∧ Below w0.heap.size w0 (w.setCell ⟨br, x, none⟩ (.bool true)) := by
  have hbr := (h.mr.lt br rfl).1
  have hl := h.len
  refine ⟨?_, own_set h.pr (fun e => h.np _ e rfl), bl_set h.low _ _ _ hbr⟩
  have h1 := h.mr
  rw [← hl] at h1 ⊢
  exact OwnT.put (k := x) true h1
theorem ShO.push {n br : Nat} {w0 w u w' : World} {pv : Value} {P : List (Nat × Txt)} {fl : List Bool} (h : ShO n br w0 w pv P fl) {to : Nat} {t : Txt} (hto : to < n) (hu : Below (w.setCell ⟨br, to, none⟩ (.bool true)).heap.size (w.setCell ⟨br, to, none⟩ (.bool true)) u) {g cap : Nat}
    (ho : w'.ownsRow w0.heap.size 58 2 (.slice (some ⟨g, 0, none⟩) (P.length + 1) cap) (P.length + 1) (P.flatMap wyC ++ wyC (to, t))) (hg : u.grownBy w' pv.ownBlock) (hat : pv.ownBlock = some g ∨ g = u.heap.size) :
    ShO n br w0 w' (.slice (some ⟨g, 0, none⟩) (P.length + 1) cap) (P ++ [(to, t)]) (fl.set to true) := by
  obtain ⟨m1, m2, m3⟩ := h.mark to
  have hk := Kept.of_grown hg
  have a1 := own_below m1 hu
  have hbr := (a1.lt br rfl).2
  have hgn : g ≠ br := fun e => by
    subst e
    rcases hat with h1 | h1
    · exact h.np g h1 rfl
    · omega
  refine ⟨own_kept a1 hk (fun k e e' => h.np _ e' (by have e1 : br = k := (by injection e); exact e1.symm)), ?_, fun i hi => ?_, (bl_step m3 hu).trans (hk.below (fun k e => (h.pr.lt k e).1) (bl_step m3 hu).size), fun k e => ?_⟩
  · rw [List.length_append, List.flatMap_append, List.flatMap_singleton]
    exact ho
  · rw [List.map_append, List.mem_append, ← h.mrk i hi]
    by_cases e : i = to
    · subst e
      rw [List.getD_eq_getElem?_getD, List.getElem?_set_self (by rw [h.len]; exact hi)]
      simp
    · rw [List.getD_eq_getElem?_getD, List.getElem?_set_ne (fun e' => e e'.symm), ← List.getD_eq_getElem?_getD]
      simp [e]
  · have e1 : g = k := by injection e
    subst e1
    exact hgn
theorem ShO.way {n br : Nat} {w0 w : World} {pv : Value} {P : List (Nat × Txt)} {fl : List Bool} (h : ShO n br w0 w pv P fl) {k : Nat} (hk : k < P.length) : ∃ g c, pv = .slice (some ⟨g, 0, none⟩) P.length c ∧ w.cell? ⟨g, k * 2, none⟩ = some (.int .i64 ((P.getD k (0, [])).1 : Int)) ∧ w.cell? ⟨g, k * 2 + 1, none⟩ = some (.string (strT (P.getD k (0, [])).2)) := by
  obtain ⟨g, c, e, _⟩ := own_form3 h.pr (show 0 < P.length by omega)
  have ho := h.pr
  rw [e] at ho
  have hfl : ∀ (P : List (Nat × Txt)) (k : Nat), k < P.length → (P.flatMap wyC)[k * 2]? = some (.int .i64 ((P.getD k (0, [])).1 : Int)) ∧ (P.flatMap wyC)[k * 2 + 1]? = some (.string (strT (P.getD k (0, [])).2)) := by
    intro P
    induction P with
    | nil => intro k hk; exact absurd hk (Nat.not_lt_zero _)
    | cons a l ih =>
      intro k hk
      rw [List.flatMap_cons]
      cases k with
      | zero => exact ⟨rfl, rfl⟩
      | succ k =>
        have h1 := ih k (by simpa using hk)
        have e1 : (k + 1) * 2 = (wyC a).length + k * 2 := by show _ = 2 + _; omega
        have e2 : (k + 1) * 2 + 1 = (wyC a).length + (k * 2 + 1) := by show _ = 2 + _; omega
        rw [e1, List.getElem?_append_right (Nat.le_add_right _ _), Nat.add_sub_cancel_left, ← e1, e2, List.getElem?_append_right (Nat.le_add_right _ _), Nat.add_sub_cancel_left]
        exact h1
  obtain ⟨f1, f2⟩ := hfl P k hk
  exact ⟨g, c, e, (ho.cellAt (k * 2) (by omega)).trans f1, (ho.cellAt (k * 2 + 1) (by omega)).trans f2⟩
set_option maxRecDepth 20000 in
theorem Tryz.infoWy : (Tryz.prog.info? 58).map (fun i => (i.zero, i.size, i.bytes)) = some (some (.agg #[.int .i64 0, .string ⟨#[]⟩]), 2, 24) := by kernel_rfl
/-- its start: state 0 is met, by the empty text -/
theorem ShO.start {n : Nat} {w0 w3 X1 X2 : World} (hb : Below w0.heap.size w0 w3) (h0 : 0 < n) (hn : n ≤ 1000) (h1 : w3.alloc (.cells (madeCells #[.bool false] n) 4) = X1) (h2 : X1.setCell ⟨w3.heap.size, 0, none⟩ (.bool true) = X2) :
    ShO n w3.heap.size w0 (X2.alloc (.cells #[.int .i64 0, .string ⟨#[]⟩] 58)) (.slice (some ⟨X2.heap.size, 0, none⟩) 1 1) [(0, [])] ((List.replicate n false).set 0 true) ∧ (X1.cell? ⟨w3.heap.size, 0, none⟩ = some (.bool false) ∧ X1.frozen? ⟨w3.heap.size, 0, none⟩ = false) ∧ Below w0.heap.size w0 X1 ∧ Below w0.heap.size w0 X2 ∧ Below w3.heap.size w3 X2 := by
  have o1 := made_bools w3 n (by omega)
  have b1 := al' w3 (.cells (madeCells #[.bool false] n) 4)
  have s1 : (w3.alloc (.cells (madeCells #[.bool false] n) 4)).heap.size = w3.heap.size + 1 := by simp
  rw [h1] at o1 b1 s1
  have hsz := hb.size
  have hl : (List.replicate n false).length = n := List.length_replicate
  have o2 : OwnT X2 w3.heap.size (.slice (some ⟨w3.heap.size, 0, none⟩) n n) ((List.replicate n false).set 0 true) := by
    have h9 := OwnT.put (k := 0) true (by rw [hl]; exact o1)
    rw [hl, h2] at h9
    exact h9
  have b2 : Below w0.heap.size w0 X2 := by rw [← h2]; exact bl_set (bl_step hb b1) _ _ _ (by omega)
  have b2' : Below w3.heap.size w3 X2 := by rw [← h2]; exact bl_set b1 _ _ _ (Nat.le_refl _)
  have s2 : X2.heap.size = w3.heap.size + 1 := by rw [← s1, ← h2]; simp
  have b3 := al' X2 (.cells #[.int .i64 0, .string ⟨#[]⟩] 58)
  have o3 : (X2.alloc (.cells #[.int .i64 0, .string ⟨#[]⟩] 58)).ownsRow X2.heap.size 58 2 (.slice (some ⟨X2.heap.size, 0, none⟩) 1 1) 1 [.int .i64 0, .string ⟨#[]⟩] := World.ownsRow_lit X2 (e := 58) (size := 2) #[.int .i64 0, .string ⟨#[]⟩] 1 (Nat.le_refl _) (by decide) rfl
  generalize X2.alloc (.cells #[.int .i64 0, .string ⟨#[]⟩] 58) = X3 at b3 o3 ⊢
  have hc : X1.cell? ⟨w3.heap.size, 0, none⟩ = some (.bool false) ∧ X1.frozen? ⟨w3.heap.size, 0, none⟩ = false := by
    have h9 : X1.ownsRow w3.heap.size 4 1 (.slice (some ⟨w3.heap.size, 0, none⟩) n n) n ((List.replicate n false).map Value.bool) := by
      have h8 := o1
      unfold OwnT at h8
      rw [hl] at h8
      exact h8
    have h3 := h9.cellAt 0 (by omega)
    rw [List.getElem?_map, List.getElem?_eq_getElem (by rw [hl]; exact h0)] at h3
    exact ⟨by rw [h3]; simp, h9.frozenAt 0⟩
  refine ⟨⟨own_base (own_below o2 b3) (by omega), own_base o3 (by omega), fun i hi => ?_, bl_step b2 b3, fun k e => ?_⟩, hc, bl_step hb b1, b2, b2'⟩
  · rw [getD_set' _ _ _ _ (by rw [hl]; exact h0)]
    by_cases e : i = 0
    · subst e; simp
    · rw [if_neg e, List.getD_eq_getElem?_getD, List.getElem?_replicate, if_pos hi]
      simp [e]
  · have e1 : X2.heap.size = k := by injection e
    omega

end Go.Proofs.YtjelgphhlcecoaaGreatDoor
