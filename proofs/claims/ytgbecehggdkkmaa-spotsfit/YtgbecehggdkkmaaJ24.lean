/- A rule's cells, gone through with a stack of rules. What a rule's cells make follow, cell by cell, with a stack of rules. -/
import Derived.Test.YtgbecehggdkkmaaJ3
import Derived.Test.YtgbecehggdkkmaaJ23
import Derived.Laws.OwnMore
namespace Go.Proofs.Ytgbecehggdkkmaa
open Go.RowKit

/-- a cell, with the rules that lie there, the last first -/
def stepS (st : List Rx) (c : Cel) : List Rx :=
  if c.op = 1 then .set c.s :: st
  else if c.op = 2 then .eps :: st
  else if c.op = 3 then match st with | b :: a :: r => .cat a b :: r | r => r
  else if c.op = 4 then match st with | b :: a :: r => .or a b :: r | r => r
  else if c.op = 5 then match st with | a :: r => .star a :: r | r => r
  else if c.op = 6 then match st with | a :: r => .plus a :: r | r => r
  else match st with | a :: r => .opt a :: r | r => r
def stK (l : List Cel) (k : Nat) : List Rx := (l.take k).foldl stepS []
theorem fold_post : ∀ (t : Rx) (st : List Rx), (post t).foldl stepS st = t :: st
  | .set S, st => by simp [post, stepS]
  | .eps, st => by simp [post, stepS]
  | .cat a b, st => by
    show (post a ++ (post b ++ [(⟨3, noneB⟩ : Cel)])).foldl stepS st = _
    rw [List.foldl_append, fold_post a st, List.foldl_append, fold_post b (a :: st)]
    simp [stepS]
  | .or a b, st => by
    show (post a ++ (post b ++ [(⟨4, noneB⟩ : Cel)])).foldl stepS st = _
    rw [List.foldl_append, fold_post a st, List.foldl_append, fold_post b (a :: st)]
    simp [stepS]
  | .star a, st => by
    show (post a ++ [(⟨5, noneB⟩ : Cel)]).foldl stepS st = _
    rw [List.foldl_append, fold_post a st]
    simp [stepS]
  | .plus a, st => by
    show (post a ++ [(⟨6, noneB⟩ : Cel)]).foldl stepS st = _
    rw [List.foldl_append, fold_post a st]
    simp [stepS]
  | .opt a, st => by
    show (post a ++ [(⟨7, noneB⟩ : Cel)]).foldl stepS st = _
    rw [List.foldl_append, fold_post a st]
    simp [stepS]
theorem stK_end (t : Rx) : stK (post t) (post t).length = [t] := by
  unfold stK
  rw [List.take_length, fold_post]
theorem stK_succ (l : List Cel) (k : Nat) (h : k < l.length) : stK l (k + 1) = stepS (stK l k) l[k] := by
  unfold stK
  rw [List.take_succ_eq_append_getElem h, List.foldl_append]
  rfl
theorem stepS_len {st : List Rx} {c : Cel} (h0 : 0 ≤ wants c.op) (h1 : wants c.op ≤ (st.length : Int)) : ((stepS st c).length : Int) = (st.length : Int) - wants c.op + 1 := by
  obtain ⟨op, S⟩ := c
  simp only at h0 h1 ⊢
  rcases wants_cases op h0 with ⟨rfl, hw⟩ | ⟨rfl, hw⟩ | ⟨rfl, hw⟩ | ⟨rfl, hw⟩ | ⟨rfl, hw⟩ | ⟨rfl, hw⟩ | ⟨rfl, hw⟩
  · rw [hw]; simp [stepS]
  · rw [hw]; simp [stepS]
  · rw [hw] at h1 ⊢
    match st, h1 with
    | b :: a :: r, _ => simp [stepS]; omega
    | [_], h => simp at h
    | [], h => simp at h
  · rw [hw] at h1 ⊢
    match st, h1 with
    | b :: a :: r, _ => simp [stepS]; omega
    | [_], h => simp at h
    | [], h => simp at h
  · rw [hw] at h1 ⊢
    match st, h1 with
    | a :: r, _ => simp [stepS]
    | [], h => simp at h
  · rw [hw] at h1 ⊢
    match st, h1 with
    | a :: r, _ => simp [stepS]
    | [], h => simp at h
  · rw [hw] at h1 ⊢
    match st, h1 with
    | a :: r, _ => simp [stepS]
    | [], h => simp at h
/-- of a right rule: at each cell its operands lie there -/
theorem stK_right {l : List Cel} (hr : rightB l = true) : ∀ k, k ≤ l.length → depthN l k = some ((stK l k).length : Int)
  | 0, _ => rfl
  | k + 1, hk => by
    have ih := stK_right hr k (by omega)
    have hd : depthN l (k + 1) ≠ none := fun e => by
      have := right_bad (depth_none l e l.length hk)
      rw [hr] at this
      cases this
    rw [depth_succ l ih (by omega)] at hd ⊢
    rw [stK_succ l k (by omega)]
    by_cases hb : badC ((stK l k).length : Int) l[k] = true
    · rw [if_pos hb] at hd; exact absurd rfl hd
    · rw [if_neg hb]
      simp only [badC, Bool.or_eq_true, decide_eq_true_eq, not_or, Int.not_lt] at hb
      rw [stepS_len hb.1.1 hb.1.2]
theorem stK_wants {l : List Cel} (hr : rightB l = true) (k : Nat) (hk : k < l.length) : 0 ≤ wants l[k].op ∧ wants l[k].op ≤ ((stK l k).length : Int) := by
  have h1 := stK_right hr (k + 1) hk
  rw [depth_succ l (stK_right hr k (by omega)) hk] at h1
  by_cases hb : badC ((stK l k).length : Int) l[k] = true
  · rw [if_pos hb] at h1; cases h1
  · simp only [badC, Bool.or_eq_true, decide_eq_true_eq, not_or, Int.not_lt] at hb
    exact hb.1
/-- the first of a row -/
theorem own_cut {w : World} {base size n g cap : Nat} {e : TypeId} {xs : List Value} (h : w.ownsRow base e size (.slice (some ⟨g, 0, none⟩) n cap) n xs) (r : Nat) (hr : r ≤ n) : w.ownsRow base e size (.slice (some ⟨g, 0, none⟩) r cap) r (xs.take (r * size)) := by
  rcases h.2 with ⟨e', _⟩ | ⟨g', cap', cur, e', h1, h2, h3, h4, h5, h6⟩
  · cases e'
  · injection e' with e1 e2 e3
    subst e3
    injection e1 with e1
    injection e1 with e1
    subst e1
    have hle : r * size ≤ n * size := Nat.mul_le_mul_right _ hr
    refine ⟨by rw [List.length_take, h.1]; omega, .inr ⟨g, cap, cur, rfl, h1, h2, by omega, h4, h5, ?_⟩⟩
    rw [← h6, List.take_take, Nat.min_eq_left hle]

end Go.Proofs.Ytgbecehggdkkmaa
namespace Go.Proofs.Ytgbecehggdkkmaa
open Go.RowKit

/-- how many spots the rules that lie there have -/
def nS : List Rx → Nat
  | [] => 0
  | t :: r => nS r + nSets t
/-- what stands behind what in them -/
def FolS : List Rx → Nat → Nat → Prop
  | [], _, _ => False
  | t :: r, j, k => FolS r j k ∨ Fol t (nS r) j k
def setsS : List Rx → List W4
  | [] => []
  | t :: r => setsS r ++ setsL t
theorem setsS_len : ∀ st : List Rx, (setsS st).length = nS st
  | [] => rfl
  | t :: r => by show (setsS r ++ setsL t).length = _; rw [List.length_append, setsS_len r, setsL_len]; rfl
theorem folS_in : ∀ (st : List Rx) (j k : Nat), FolS st j k → j < nS st ∧ k < nS st
  | [], _, _, h => h.elim
  | t :: r, j, k, h => by
    simp only [nS]
    rcases h with h | h
    · have := folS_in r j k h; omega
    · have := fol_in t _ j k h; omega
/-- numbers that are spots' -/
def InN (l : List Int) (n : Nat) : Prop := ∀ x ∈ l, 0 ≤ x ∧ x < (n : Int)
theorem up_range : ∀ n : Nat, Up ((List.range n).map fun k : Nat => (k : Int)) := fun n => by
  unfold Up
  rw [List.pairwise_map]
  exact (List.pairwise_lt_range (n := n)).imp fun h => by omega
theorem inN_len {l : List Int} {n : Nat} (hu : Up l) (h : InN l n) : l.length ≤ n := by
  have := up_sub_len hu (up_range n) fun x hx => by
    have := h x hx
    rw [List.mem_map]
    exact ⟨x.toNat, by rw [List.mem_range]; omega, by omega⟩
  simpa using this
/-- lists tell what stands behind what -/
structure FolOK (R : Nat → Nat → Prop) (n : Nat) (fl : List (List Int)) : Prop where
  len : fl.length = n
  up : ∀ j, j < n → Up (fl.getD j [])
  mem : ∀ j x, j < n → (x ∈ fl.getD j [] ↔ ∃ k : Nat, x = (k : Int) ∧ R j k)
theorem FolOK.congr {R R' : Nat → Nat → Prop} {n : Nat} {fl : List (List Int)} (h : FolOK R n fl) (hR : ∀ j k, j < n → (R j k ↔ R' j k)) : FolOK R' n fl :=
  ⟨h.len, h.up, fun j x hj => by
    rw [h.mem j x hj]
    constructor
    · rintro ⟨k, e, hk⟩; exact ⟨k, e, (hR j k hj).1 hk⟩
    · rintro ⟨k, e, hk⟩; exact ⟨k, e, (hR j k hj).2 hk⟩⟩
theorem FolOK.inN {R : Nat → Nat → Prop} {n : Nat} {fl : List (List Int)} (h : FolOK R n fl) (hR : ∀ j k, R j k → k < n) (j : Nat) (hj : j < n) : InN (fl.getD j []) n := fun x hx => by
  obtain ⟨k, e, hk⟩ := (h.mem j x hj).1 hx
  have := hR j k hk
  omega
/-- each of the first is linked to all of the second -/
def linkL (fl : List (List Int)) (to : List Int) : List Int → List (List Int)
  | [] => fl
  | x :: r => linkL (fl.set x.toNat (unionL (fl.getD x.toNat []) to)) to r
theorem linkL_len (to : List Int) : ∀ (from' : List Int) (fl : List (List Int)), (linkL fl to from').length = fl.length
  | [], _ => rfl
  | x :: r, fl => by rw [linkL, linkL_len to r, List.length_set]
theorem linkL_snoc (to : List Int) : ∀ (a : List Int) (fl : List (List Int)) (x : Int), linkL fl to (a ++ [x]) = (linkL fl to a).set x.toNat (unionL ((linkL fl to a).getD x.toNat []) to)
  | [], _, _ => rfl
  | y :: r, fl, x => by rw [List.cons_append, linkL, linkL, linkL_snoc to r]
theorem linkL_take {from' : List Int} {k : Nat} (h : k < from'.length) (fl : List (List Int)) (to : List Int) : linkL fl to (from'.take (k + 1)) = (linkL fl to (from'.take k)).set from'[k].toNat (unionL ((linkL fl to (from'.take k)).getD from'[k].toNat []) to) := by
  rw [List.take_succ_eq_append_getElem h, linkL_snoc]
theorem getD_set {α : Type} (l : List α) (i j : Nat) (x d : α) : (l.set i x).getD j d = if i = j ∧ j < l.length then x else l.getD j d := by
  simp only [List.getD_eq_getElem?_getD, List.getElem?_set]
  by_cases h : i = j
  · subst h
    by_cases h' : i < l.length
    · simp [h']
    · simp [h']
  · simp [h]
theorem linkL_up (to : List Int) : ∀ (from' : List Int) (fl : List (List Int)) (j : Nat), Up (fl.getD j []) → Up ((linkL fl to from').getD j [])
  | [], _, _, h => h
  | x :: r, fl, j, h => by
    rw [linkL]
    refine linkL_up to r _ j ?_
    rw [getD_set]
    split
    · exact ofL_up _
    · exact h
theorem linkL_mem (to : List Int) : ∀ (from' : List Int) (fl : List (List Int)) (j : Nat), InN from' fl.length → j < fl.length → ∀ y, (y ∈ (linkL fl to from').getD j [] ↔ y ∈ fl.getD j [] ∨ ((j : Int) ∈ from' ∧ y ∈ to))
  | [], fl, j, _, _, y => by simp [linkL]
  | x :: r, fl, j, h, hj, y => by
    have hx := h x (by simp)
    rw [linkL, linkL_mem to r _ j (fun z hz => by rw [List.length_set]; exact h z (List.mem_cons_of_mem _ hz)) (by rw [List.length_set]; exact hj), getD_set]
    by_cases e : x.toNat = j
    · subst e
      have e' : ((x.toNat : Nat) : Int) = x := by omega
      rw [if_pos ⟨rfl, hj⟩, unionL_mem, e']
      simp only [List.mem_cons, true_or, true_and]
      constructor
      · rintro ((h | h) | ⟨_, h⟩)
        · exact Or.inl h
        · exact Or.inr h
        · exact Or.inr h
      · rintro (h | h)
        · exact Or.inl (Or.inl h)
        · exact Or.inl (Or.inr h)
    · have e' : ¬ (j : Int) = x := by omega
      rw [if_neg (fun hh => e hh.1)]
      simp only [List.mem_cons, e', false_or]
theorem FolOK.link {R : Nat → Nat → Prop} {A B : Nat → Prop} {n : Nat} {fl : List (List Int)} {from' to : List Int} (h : FolOK R n fl) (hf : ∀ x, x ∈ from' ↔ ∃ k : Nat, x = (k : Int) ∧ A k) (hA : ∀ k, A k → k < n) (ht : ∀ x, x ∈ to ↔ ∃ k : Nat, x = (k : Int) ∧ B k) : FolOK (fun j k => R j k ∨ (A j ∧ B k)) n (linkL fl to from') where
  len := by rw [linkL_len, h.len]
  up := fun j hj => linkL_up to from' fl j (h.up j hj)
  mem := fun j x hj => by
    rw [linkL_mem to from' fl j (fun z hz => by obtain ⟨k, e, hk⟩ := (hf z).1 hz; have := hA k hk; rw [h.len]; omega) (by rw [h.len]; exact hj), h.mem j x hj, hf, ht]
    constructor
    · rintro (⟨k, e, hk⟩ | ⟨⟨k', e', hk'⟩, k, e, hk⟩)
      · exact ⟨k, e, Or.inl hk⟩
      · have : j = k' := by omega
        subst this
        exact ⟨k, e, Or.inr ⟨hk', hk⟩⟩
    · rintro ⟨k, e, hk | ⟨ha, hb⟩⟩
      · exact Or.inl ⟨k, e, hk⟩
      · exact Or.inr ⟨⟨j, rfl, ha⟩, k, e, hb⟩
theorem FolOK.more {R : Nat → Nat → Prop} {n : Nat} {fl : List (List Int)} (h : FolOK R n fl) (hR : ∀ j k, R j k → j < n) : FolOK R (n + 1) (fl ++ [[]]) where
  len := by rw [List.length_append, h.len]; rfl
  up := fun j hj => by
    by_cases e : j < n
    · rw [List.getD_eq_getElem?_getD, List.getElem?_append_left (by rw [h.len]; exact e), ← List.getD_eq_getElem?_getD]
      exact h.up j e
    · have : j = n := by omega
      subst this
      rw [List.getD_eq_getElem?_getD, List.getElem?_append_right (by rw [h.len]; exact Nat.le_refl _), h.len]
      simp [Up]
  mem := fun j x hj => by
    by_cases e : j < n
    · rw [List.getD_eq_getElem?_getD, List.getElem?_append_left (by rw [h.len]; exact e), ← List.getD_eq_getElem?_getD]
      exact h.mem j x e
    · have : j = n := by omega
      subst this
      rw [List.getD_eq_getElem?_getD, List.getElem?_append_right (by rw [h.len]; exact Nat.le_refl _), h.len]
      simp
      intro k _ hk
      have := hR _ _ hk
      omega
/-- the links of a stack, at a cell -/
theorem folS_set (S : W4) (st : List Rx) (j k : Nat) : FolS (.set S :: st) j k ↔ FolS st j k := by simp [FolS, Fol]
theorem folS_eps (st : List Rx) (j k : Nat) : FolS (.eps :: st) j k ↔ FolS st j k := by simp [FolS, Fol]
theorem folS_cat (a b : Rx) (st : List Rx) (j k : Nat) : FolS (.cat a b :: st) j k ↔ FolS (b :: a :: st) j k ∨ (Lst a (nS st) j ∧ Fst b (nS st + nSets a) k) := by
  simp only [FolS, Fol, nS, or_assoc]
theorem folS_or (a b : Rx) (st : List Rx) (j k : Nat) : FolS (.or a b :: st) j k ↔ FolS (b :: a :: st) j k := by
  simp only [FolS, Fol, nS, or_assoc]
theorem folS_star (a : Rx) (st : List Rx) (j k : Nat) : FolS (.star a :: st) j k ↔ FolS (a :: st) j k ∨ (Lst a (nS st) j ∧ Fst a (nS st) k) := by
  simp only [FolS, Fol, or_assoc]
theorem folS_plus (a : Rx) (st : List Rx) (j k : Nat) : FolS (.plus a :: st) j k ↔ FolS (a :: st) j k ∨ (Lst a (nS st) j ∧ Fst a (nS st) k) := by
  simp only [FolS, Fol, or_assoc]
theorem folS_opt (a : Rx) (st : List Rx) (j k : Nat) : FolS (.opt a :: st) j k ↔ FolS (a :: st) j k := by simp only [FolS, Fol]
theorem nS_cat (a b : Rx) (st : List Rx) : nS (.cat a b :: st) = nS (b :: a :: st) := by simp only [nS, nSets]; omega
theorem nS_or (a b : Rx) (st : List Rx) : nS (.or a b :: st) = nS (b :: a :: st) := by simp only [nS, nSets]; omega
theorem setsS_cat (a b : Rx) (st : List Rx) : setsS (.cat a b :: st) = setsS (b :: a :: st) := by simp [setsS, setsL]
theorem setsS_or (a b : Rx) (st : List Rx) : setsS (.or a b :: st) = setsS (b :: a :: st) := by simp [setsS, setsL]
/-- what all the cells make: a rule's spots -/
theorem isSp_of {t : Rx} {fl : List (List Int)} {first last : List Int} (hf : FolOK (FolS [t]) (nS [t]) fl) (h1 : ∀ x, x ∈ first ↔ ∃ k : Nat, x = (k : Int) ∧ Fst t 0 k) (h2 : ∀ x, x ∈ last ↔ ∃ k : Nat, x = (k : Int) ∧ Lst t 0 k) : IsSp t ⟨setsS [t], t.null, first, last, fl⟩ where
  sets := rfl
  null := rfl
  first := h1
  last := h2
  len := by have := hf.len; simpa [nS] using this
  follow := fun j x hj => by
    rw [hf.mem j x (by simpa [nS] using hj)]
    simp [FolS, nS]
/-- rising spots of a rule are told by it -/
theorem isSp_uniq {t : Rx} {p q : Sp} (hp : IsSp t p) (hq : IsSp t q) (p1 : Up p.first) (p2 : Up p.last) (p3 : ∀ j, j < nSets t → Up (p.follow.getD j [])) (q1 : Up q.first) (q2 : Up q.last) (q3 : ∀ j, j < nSets t → Up (q.follow.getD j [])) : p = q := by
  obtain ⟨a1, a2, a3, a4, a5⟩ := p
  obtain ⟨b1, b2, b3, b4, b5⟩ := q
  have e1 := hp.sets.trans hq.sets.symm
  have e2 := hp.null.trans hq.null.symm
  have e3 := up_uniq p1 q1 fun x => (hp.first x).trans (hq.first x).symm
  have e4 := up_uniq p2 q2 fun x => (hp.last x).trans (hq.last x).symm
  have e5 : a5 = b5 := by
    have l1 := hp.len
    have l2 := hq.len
    simp only at l1 l2
    refine List.ext_getElem (by omega) fun j h1 h2 => ?_
    have := up_uniq (p3 j (by omega)) (q3 j (by omega)) fun x => (hp.follow j x (by omega)).trans (hq.follow j x (by omega)).symm
    simp only [List.getD_eq_getElem?_getD, List.getElem?_eq_getElem h1, List.getElem?_eq_getElem h2] at this
    exact this
  simp only at e1 e2 e3 e4
  rw [e1, e2, e3, e4, e5]

end Go.Proofs.Ytgbecehggdkkmaa
