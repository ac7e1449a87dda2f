/- A rule's spots fit just what the rule fits. A rule's cells, gone through with a stack of rules. What a rule's cells make follow, cell by cell, with a stack of rules. Lists that lie apart from what changes. -/
import Derived.Test.YtonlcnmlklaicaaGreatDoorJ11
import Derived.Test.YtonlcnmlklaicaaGreatDoorJ2
import Derived.Test.YtonlcnmlklaicaaGreatDoorJ6
import Derived.Laws.OwnMore
import Derived.Deep.RegionLaw
import Derived.Deep.AppendLies
namespace Go.Proofs.YtonlcnmlklaicaaGreatDoor
open Go.RowKit

/-- these are a rule's spots -/
structure IsSp (t : Rx) (p : Sp) : Prop where
  sets : p.sets = setsL t
  null : p.null = t.null
  first : ∀ x, x ∈ p.first ↔ ∃ k : Nat, x = (k : Int) ∧ Fst t 0 k
  last : ∀ x, x ∈ p.last ↔ ∃ k : Nat, x = (k : Int) ∧ Lst t 0 k
  len : p.follow.length = nSets t
  follow : ∀ j x, j < nSets t → (x ∈ p.follow.getD j [] ↔ ∃ k : Nat, x = (k : Int) ∧ Fol t 0 j k)
theorem IsSp.last_has {t : Rx} {p : Sp} (h : IsSp t p) (k : Nat) : p.last.contains (k : Int) = true ↔ Lst t 0 k := by
  rw [List.contains_iff_mem, h.last]
  exact ⟨fun ⟨j, e, hj⟩ => by have : k = j := by omega
                              rw [this]; exact hj, fun hk => ⟨k, rfl, hk⟩⟩
theorem IsSp.n {t : Rx} {p : Sp} (h : IsSp t p) : p.sets.length = nSets t := by rw [h.sets, setsL_len]

end Go.Proofs.YtonlcnmlklaicaaGreatDoor
namespace Go.Proofs.YtonlcnmlklaicaaGreatDoor
open Go.RowKit

/-- a cell, with the rules that lie there, the last first -/
def stepS (st : List Rx) (c : Cel) : List Rx :=
  if c.op = 1 then .set c.s :: st
  else if c.op = 2 then .eps :: st
  else if c.op = 3 then match st with | b :: a :: r => .cat a b :: r | r => r
  else if c.op = 4 then match st with | b :: a :: r => .or a b :: r | r => r
  else if c.op = 5 then match st with | a :: r => .star a :: r | r => r
  else if c.op = 6 then match st with | a :: r => .plus a :: r | r => r
  else match st with | a :: r => .opt a :: r | r => r
def stK (l : List Cel) (k : Nat) : List Rx := (l.take k).foldl stepS []
theorem fold_post : ∀ (t : Rx) (st : List Rx), (post t).foldl stepS st = t :: st
  | .set S, st => by simp [post, stepS]
  | .eps, st => by simp [post, stepS]
  | .cat a b, st => by
    show (post a ++ (post b ++ [(⟨3, noneB⟩ : Cel)])).foldl stepS st = _
    rw [List.foldl_append, fold_post a st, List.foldl_append, fold_post b (a :: st)]
    simp [stepS]
  | .or a b, st => by
    show (post a ++ (post b ++ [(⟨4, noneB⟩ : Cel)])).foldl stepS st = _
    rw [List.foldl_append, fold_post a st, List.foldl_append, fold_post b (a :: st)]
    simp [stepS]
  | .star a, st => by
    show (post a ++ [(⟨5, noneB⟩ : Cel)]).foldl stepS st = _
    rw [List.foldl_append, fold_post a st]
    simp [stepS]
  | .plus a, st => by
    show (post a ++ [(⟨6, noneB⟩ : Cel)]).foldl stepS st = _
    rw [List.foldl_append, fold_post a st]
    simp [stepS]
  | .opt a, st => by
    show (post a ++ [(⟨7, noneB⟩ : Cel)]).foldl stepS st = _
    rw [List.foldl_append, fold_post a st]
    simp [stepS]
theorem stK_end (t : Rx) : stK (post t) (post t).length = [t] := by
  unfold stK
  rw [List.take_length, fold_post]
theorem stK_succ (l : List Cel) (k : Nat) (h : k < l.length) : stK l (k + 1) = stepS (stK l k) l[k] := by
  unfold stK
  rw [List.take_succ_eq_append_getElem h, List.foldl_append]
  rfl
theorem stepS_len {st : List Rx} {c : Cel} (h0 : 0 ≤ wants c.op) (h1 : wants c.op ≤ (st.length : Int)) : ((stepS st c).length : Int) = (st.length : Int) - wants c.op + 1 := by
  obtain ⟨op, S⟩ := c
  simp only at h0 h1 ⊢
  rcases wants_cases op h0 with ⟨rfl, hw⟩ | ⟨rfl, hw⟩ | ⟨rfl, hw⟩ | ⟨rfl, hw⟩ | ⟨rfl, hw⟩ | ⟨rfl, hw⟩ | ⟨rfl, hw⟩
  · rw [hw]; simp [stepS]
  · rw [hw]; simp [stepS]
  · rw [hw] at h1 ⊢
    match st, h1 with
    | b :: a :: r, _ => simp [stepS]; omega
    | [_], h => simp at h
    | [], h => simp at h
  · rw [hw] at h1 ⊢
    match st, h1 with
    | b :: a :: r, _ => simp [stepS]; omega
    | [_], h => simp at h
    | [], h => simp at h
  · rw [hw] at h1 ⊢
    match st, h1 with
    | a :: r, _ => simp [stepS]
    | [], h => simp at h
  · rw [hw] at h1 ⊢
    match st, h1 with
    | a :: r, _ => simp [stepS]
    | [], h => simp at h
  · rw [hw] at h1 ⊢
    match st, h1 with
    | a :: r, _ => simp [stepS]
    | [], h => simp at h
/-- of a right rule: at each cell its operands lie there -/
theorem stK_right {l : List Cel} (hr : rightB l = true) : ∀ k, k ≤ l.length → depthN l k = some ((stK l k).length : Int)
  | 0, _ => rfl
  | k + 1, hk => by
    have ih := stK_right hr k (by omega)
    have hd : depthN l (k + 1) ≠ none := fun e => by
      have := right_bad (depth_none l e l.length hk)
      rw [hr] at this
      cases this
    rw [depth_succ l ih (by omega)] at hd ⊢
    rw [stK_succ l k (by omega)]
    by_cases hb : badC ((stK l k).length : Int) l[k] = true
    · rw [if_pos hb] at hd; exact absurd rfl hd
    · rw [if_neg hb]
      simp only [badC, Bool.or_eq_true, decide_eq_true_eq, not_or, Int.not_lt] at hb
      rw [stepS_len hb.1.1 hb.1.2]
theorem stK_wants {l : List Cel} (hr : rightB l = true) (k : Nat) (hk : k < l.length) : 0 ≤ wants l[k].op ∧ wants l[k].op ≤ ((stK l k).length : Int) := by
  have h1 := stK_right hr (k + 1) hk
  rw [depth_succ l (stK_right hr k (by omega)) hk] at h1
  by_cases hb : badC ((stK l k).length : Int) l[k] = true
  · rw [if_pos hb] at h1; cases h1
  · simp only [badC, Bool.or_eq_true, decide_eq_true_eq, not_or, Int.not_lt] at hb
    exact hb.1
/-- the first of a row -/
theorem own_cut {w : World} {base size n g cap : Nat} {e : TypeId} {xs : List Value} (h : w.ownsRow base e size (.slice (some ⟨g, 0, none⟩) n cap) n xs) (r : Nat) (hr : r ≤ n) : w.ownsRow base e size (.slice (some ⟨g, 0, none⟩) r cap) r (xs.take (r * size)) := by
  rcases h.2 with ⟨e', _⟩ | ⟨g', cap', cur, e', h1, h2, h3, h4, h5, h6⟩
  · cases e'
  · injection e' with e1 e2 e3
    subst e3
    injection e1 with e1
    injection e1 with e1
    subst e1
    have hle : r * size ≤ n * size := Nat.mul_le_mul_right _ hr
    refine ⟨by rw [List.length_take, h.1]; omega, .inr ⟨g, cap, cur, rfl, h1, h2, by omega, h4, h5, ?_⟩⟩
    rw [← h6, List.take_take, Nat.min_eq_left hle]

end Go.Proofs.YtonlcnmlklaicaaGreatDoor
namespace Go.Proofs.YtonlcnmlklaicaaGreatDoor
open Go.RowKit

/-- how many spots the rules that lie there have -/
def nS : List Rx → Nat
  | [] => 0
  | t :: r => nS r + nSets t
/-- what stands behind what in them -/
def FolS : List Rx → Nat → Nat → Prop
  | [], _, _ => False
  | t :: r, j, k => FolS r j k ∨ Fol t (nS r) j k
def setsS : List Rx → List W4
  | [] => []
  | t :: r => setsS r ++ setsL t
theorem setsS_len : ∀ st : List Rx, (setsS st).length = nS st
  | [] => rfl
  | t :: r => by show (setsS r ++ setsL t).length = _; rw [List.length_append, setsS_len r, setsL_len]; rfl
theorem folS_in : ∀ (st : List Rx) (j k : Nat), FolS st j k → j < nS st ∧ k < nS st
  | [], _, _, h => h.elim
  | t :: r, j, k, h => by
    simp only [nS]
    rcases h with h | h
    · have := folS_in r j k h; omega
    · have := fol_in t _ j k h; omega
/-- numbers that are spots' -/
def InN (l : List Int) (n : Nat) : Prop := ∀ x ∈ l, 0 ≤ x ∧ x < (n : Int)
theorem up_range : ∀ n : Nat, Up ((List.range n).map fun k : Nat => (k : Int)) := fun n => by
  unfold Up
  rw [List.pairwise_map]
  exact (List.pairwise_lt_range (n := n)).imp fun h => by omega
theorem inN_len {l : List Int} {n : Nat} (hu : Up l) (h : InN l n) : l.length ≤ n := by
  have := up_sub_len hu (up_range n) fun x hx => by
    have := h x hx
    rw [List.mem_map]
    exact ⟨x.toNat, by rw [List.mem_range]; omega, by omega⟩
  simpa using this
/-- lists tell what stands behind what -/
structure FolOK (R : Nat → Nat → Prop) (n : Nat) (fl : List (List Int)) : Prop where
  len : fl.length = n
  up : ∀ j, j < n → Up (fl.getD j [])
  mem : ∀ j x, j < n → (x ∈ fl.getD j [] ↔ ∃ k : Nat, x = (k : Int) ∧ R j k)
theorem FolOK.congr {R R' : Nat → Nat → Prop} {n : Nat} {fl : List (List Int)} (h : FolOK R n fl) (hR : ∀ j k, j < n → (R j k ↔ R' j k)) : FolOK R' n fl :=
  ⟨h.len, h.up, fun j x hj => by
    rw [h.mem j x hj]
    constructor
    · rintro ⟨k, e, hk⟩; exact ⟨k, e, (hR j k hj).1 hk⟩
    · rintro ⟨k, e, hk⟩; exact ⟨k, e, (hR j k hj).2 hk⟩⟩
theorem FolOK.inN {R : Nat → Nat → Prop} {n : Nat} {fl : List (List Int)} (h : FolOK R n fl) (hR : ∀ j k, R j k → k < n) (j : Nat) (hj : j < n) : InN (fl.getD j []) n := fun x hx => by
  obtain ⟨k, e, hk⟩ := (h.mem j x hj).1 hx
  have := hR j k hk
  omega
/-- each of the first is linked to all of the second -/
def linkL (fl : List (List Int)) (to : List Int) : List Int → List (List Int)
  | [] => fl
  | x :: r => linkL (fl.set x.toNat (unionL (fl.getD x.toNat []) to)) to r
theorem linkL_len (to : List Int) : ∀ (from' : List Int) (fl : List (List Int)), (linkL fl to from').length = fl.length
  | [], _ => rfl
  | x :: r, fl => by rw [linkL, linkL_len to r, List.length_set]
theorem linkL_snoc (to : List Int) : ∀ (a : List Int) (fl : List (List Int)) (x : Int), linkL fl to (a ++ [x]) = (linkL fl to a).set x.toNat (unionL ((linkL fl to a).getD x.toNat []) to)
  | [], _, _ => rfl
  | y :: r, fl, x => by rw [List.cons_append, linkL, linkL, linkL_snoc to r]
theorem linkL_take {from' : List Int} {k : Nat} (h : k < from'.length) (fl : List (List Int)) (to : List Int) : linkL fl to (from'.take (k + 1)) = (linkL fl to (from'.take k)).set from'[k].toNat (unionL ((linkL fl to (from'.take k)).getD from'[k].toNat []) to) := by
  rw [List.take_succ_eq_append_getElem h, linkL_snoc]
theorem getD_set {α : Type} (l : List α) (i j : Nat) (x d : α) : (l.set i x).getD j d = if i = j ∧ j < l.length then x else l.getD j d := by
  simp only [List.getD_eq_getElem?_getD, List.getElem?_set]
  by_cases h : i = j
  · subst h
    by_cases h' : i < l.length
    · simp [h']
    · simp [h']
  · simp [h]
theorem linkL_up (to : List Int) : ∀ (from' : List Int) (fl : List (List Int)) (j : Nat), Up (fl.getD j []) → Up ((linkL fl to from').getD j [])
  | [], _, _, h => h
  | x :: r, fl, j, h => by
    rw [linkL]
    refine linkL_up to r _ j ?_
    rw [getD_set]
    split
    · exact ofL_up _
    · exact h
theorem linkL_mem (to : List Int) : ∀ (from' : List Int) (fl : List (List Int)) (j : Nat), InN from' fl.length → j < fl.length → ∀ y, (y ∈ (linkL fl to from').getD j [] ↔ y ∈ fl.getD j [] ∨ ((j : Int) ∈ from' ∧ y ∈ to))
  | [], fl, j, _, _, y => by simp [linkL]
  | x :: r, fl, j, h, hj, y => by
    have hx := h x (by simp)
    rw [linkL, linkL_mem to r _ j (fun z hz => by rw [List.length_set]; exact h z (List.mem_cons_of_mem _ hz)) (by rw [List.length_set]; exact hj), getD_set]
    by_cases e : x.toNat = j
    · subst e
      have e' : ((x.toNat : Nat) : Int) = x := by omega
      rw [if_pos ⟨rfl, hj⟩, unionL_mem, e']
      simp only [List.mem_cons, true_or, true_and]
      constructor
      · rintro ((h | h) | ⟨_, h⟩)
        · exact Or.inl h
        · exact Or.inr h
        · exact Or.inr h
      · rintro (h | h)
        · exact Or.inl (Or.inl h)
        · exact Or.inl (Or.inr h)
    · have e' : ¬ (j : Int) = x := by omega
      rw [if_neg (fun hh => e hh.1)]
      simp only [List.mem_cons, e', false_or]
theorem FolOK.link {R : Nat → Nat → Prop} {A B : Nat → Prop} {n : Nat} {fl : List (List Int)} {from' to : List Int} (h : FolOK R n fl) (hf : ∀ x, x ∈ from' ↔ ∃ k : Nat, x = (k : Int) ∧ A k) (hA : ∀ k, A k → k < n) (ht : ∀ x, x ∈ to ↔ ∃ k : Nat, x = (k : Int) ∧ B k) : FolOK (fun j k => R j k ∨ (A j ∧ B k)) n (linkL fl to from') where
  len := by rw [linkL_len, h.len]
  up := fun j hj => linkL_up to from' fl j (h.up j hj)
  mem := fun j x hj => by
    rw [linkL_mem to from' fl j (fun z hz => by obtain ⟨k, e, hk⟩ := (hf z).1 hz; have := hA k hk; rw [h.len]; omega) (by rw [h.len]; exact hj), h.mem j x hj, hf, ht]
    constructor
    · rintro (⟨k, e, hk⟩ | ⟨⟨k', e', hk'⟩, k, e, hk⟩)
      · exact ⟨k, e, Or.inl hk⟩
      · have : j = k' := by omega
        subst this
        exact ⟨k, e, Or.inr ⟨hk', hk⟩⟩
    · rintro ⟨k, e, hk | ⟨ha, hb⟩⟩
      · exact Or.inl ⟨k, e, hk⟩
      · exact Or.inr ⟨⟨j, rfl, ha⟩, k, e, hb⟩
theorem FolOK.more {R : Nat → Nat → Prop} {n : Nat} {fl : List (List Int)} (h : FolOK R n fl) (hR : ∀ j k, R j k → j < n) : FolOK R (n + 1) (fl ++ [[]]) where
  len := by rw [List.length_append, h.len]; rfl
  up := fun j hj => by
    by_cases e : j < n
    · rw [List.getD_eq_getElem?_getD, List.getElem?_append_left (by rw [h.len]; exact e), ← List.getD_eq_getElem?_getD]
      exact h.up j e
    · have : j = n := by omega
      subst this
      rw [List.getD_eq_getElem?_getD, List.getElem?_append_right (by rw [h.len]; exact Nat.le_refl _), h.len]
      simp [Up]
  mem := fun j x hj => by
    by_cases e : j < n
    · rw [List.getD_eq_getElem?_getD, List.getElem?_append_left (by rw [h.len]; exact e), ← List.getD_eq_getElem?_getD]
      exact h.mem j x e
    · have : j = n := by omega
      subst this
      rw [List.getD_eq_getElem?_getD, List.getElem?_append_right (by rw [h.len]; exact Nat.le_refl _), h.len]
      simp
      intro k _ hk
      have := hR _ _ hk
      omega
/-- the links of a stack, at a cell -/
theorem folS_set (S : W4) (st : List Rx) (j k : Nat) : FolS (.set S :: st) j k ↔ FolS st j k := by simp [FolS, Fol]
theorem folS_eps (st : List Rx) (j k : Nat) : FolS (.eps :: st) j k ↔ FolS st j k := by simp [FolS, Fol]
theorem folS_cat (a b : Rx) (st : List Rx) (j k : Nat) : FolS (.cat a b :: st) j k ↔ FolS (b :: a :: st) j k ∨ (Lst a (nS st) j ∧ Fst b (nS st + nSets a) k) := by
  simp only [FolS, Fol, nS, or_assoc]
theorem folS_or (a b : Rx) (st : List Rx) (j k : Nat) : FolS (.or a b :: st) j k ↔ FolS (b :: a :: st) j k := by
  simp only [FolS, Fol, nS, or_assoc]
theorem folS_star (a : Rx) (st : List Rx) (j k : Nat) : FolS (.star a :: st) j k ↔ FolS (a :: st) j k ∨ (Lst a (nS st) j ∧ Fst a (nS st) k) := by
  simp only [FolS, Fol, or_assoc]
theorem folS_plus (a : Rx) (st : List Rx) (j k : Nat) : FolS (.plus a :: st) j k ↔ FolS (a :: st) j k ∨ (Lst a (nS st) j ∧ Fst a (nS st) k) := by
  simp only [FolS, Fol, or_assoc]
theorem folS_opt (a : Rx) (st : List Rx) (j k : Nat) : FolS (.opt a :: st) j k ↔ FolS (a :: st) j k := by simp only [FolS, Fol]
theorem nS_cat (a b : Rx) (st : List Rx) : nS (.cat a b :: st) = nS (b :: a :: st) := by simp only [nS, nSets]; omega
theorem nS_or (a b : Rx) (st : List Rx) : nS (.or a b :: st) = nS (b :: a :: st) := by simp only [nS, nSets]; omega
theorem setsS_cat (a b : Rx) (st : List Rx) : setsS (.cat a b :: st) = setsS (b :: a :: st) := by simp [setsS, setsL]
theorem setsS_or (a b : Rx) (st : List Rx) : setsS (.or a b :: st) = setsS (b :: a :: st) := by simp [setsS, setsL]
/-- what all the cells make: a rule's spots -/
theorem isSp_of {t : Rx} {fl : List (List Int)} {first last : List Int} (hf : FolOK (FolS [t]) (nS [t]) fl) (h1 : ∀ x, x ∈ first ↔ ∃ k : Nat, x = (k : Int) ∧ Fst t 0 k) (h2 : ∀ x, x ∈ last ↔ ∃ k : Nat, x = (k : Int) ∧ Lst t 0 k) : IsSp t ⟨setsS [t], t.null, first, last, fl⟩ where
  sets := rfl
  null := rfl
  first := h1
  last := h2
  len := by have := hf.len; simpa [nS] using this
  follow := fun j x hj => by
    rw [hf.mem j x (by simpa [nS] using hj)]
    simp [FolS, nS]
end Go.Proofs.YtonlcnmlklaicaaGreatDoor
namespace Go.Proofs.YtonlcnmlklaicaaGreatDoor
open Go.RowKit

theorem Kept.cell {F : Nat → Prop} {w w' : World} (h : Kept F w w') {b o : Nat} {v : Value} (hc : w.cell? ⟨b, o, .none⟩ = some v) (hb : b < w.heap.size) (hn : ¬ F b) : w'.cell? ⟨b, o, .none⟩ = some v := by
  simp only [World.cell?, h.block b hb hn] at hc ⊢
  exact hc
theorem Kept.of_grown {w w' : World} {r : Option Nat} (h : w.grownBy w' r) : Kept (fun k => r = some k) w w' := by
  obtain ⟨h1, h2, h3, h4, h5⟩ := h
  exact ⟨by assumption, by assumption, by assumption, by assumption, fun k hk hn => h5 k hk (fun e => hn (by first | exact e | exact e.symm))⟩
/-- lies in none of the blocks F -/
def Off (F : Nat → Prop) (v : Value) : Prop := ∀ ad n c, v = .slice (some ad) n c → 0 < n → ¬ F ad.block
theorem Off.nil (F : Nat → Prop) : Off F (.slice none 0 0) := fun _ _ _ h => by cases h
theorem Nums.kept {F : Nat → Prop} {w w' : World} {v : Value} {l : List Int} (h : Nums w v l) (hk : Kept F w w') (ho : Off F v) : Nums w' v l := by
  obtain ⟨a, cap, rfl, hc, hn, hat⟩ := h
  refine ⟨a, cap, rfl, hc, hn, fun j hj => ?_⟩
  obtain ⟨b, o, rfl, hlt, h1⟩ := hat j hj
  exact ⟨b, o, rfl, Nat.lt_of_lt_of_le hlt hk.size, hk.cell h1 hlt (ho _ _ _ rfl (by omega))⟩
theorem Off.more {F G : Nat → Prop} {w : World} {v : Value} {l : List Int} (ho : Off F v) (h : Nums w v l) (hG : ∀ k, G k → F k ∨ w.heap.size ≤ k) : Off G v := fun ad n c e hn hg => by
  obtain ⟨a, cap, rfl, hc, hz, hat⟩ := h
  injection e with e1 e2 e3
  subst e1 e2
  obtain ⟨b, o, e, hlt, h1⟩ := hat 0 hn
  rcases hG _ hg with h | h
  · exact ho _ _ _ rfl hn h
  · cases e
    exact absurd hlt (Nat.not_lt.2 h)
theorem Off.new {F : Nat → Prop} {w : World} {B : Nat} {v : Value} {l : List Int} (h : Own w B v l) (hF : ∀ k, F k → k < B) : Off F v := fun ad n c e hn hf => by
  have h' := h
  rcases h.2 with ⟨rfl, _⟩ | ⟨g, cap, cur, rfl, hb, _⟩
  · cases e
  · injection e with e1
    cases e1
    have : g < B := hF _ hf
    omega
abbrev nilV : Value := .slice none 0 0
/-- lists, each apart -/
def NumsF (F : Nat → Prop) (w : World) (vs : List Value) (ls : List (List Int)) : Prop := vs.length = ls.length ∧ ∀ j, Nums w (vs.getD j nilV) (ls.getD j []) ∧ Off F (vs.getD j nilV)
theorem NumsF.kept {F : Nat → Prop} {w w' : World} {vs : List Value} {ls : List (List Int)} (h : NumsF F w vs ls) (hk : Kept F w w') : NumsF F w' vs ls := ⟨h.1, fun j => ⟨(h.2 j).1.kept hk (h.2 j).2, (h.2 j).2⟩⟩
theorem NumsF.more {F G : Nat → Prop} {w : World} {vs : List Value} {ls : List (List Int)} (h : NumsF F w vs ls) (hG : ∀ k, G k → F k ∨ w.heap.size ≤ k) : NumsF G w vs ls := ⟨h.1, fun j => ⟨(h.2 j).1, (h.2 j).2.more (h.2 j).1 hG⟩⟩
theorem NumsF.nil (F : Nat → Prop) (w : World) : NumsF F w [] [] := ⟨rfl, fun _ => ⟨Nums.nil w, Off.nil F⟩⟩
theorem getD_snoc {α : Type} (l : List α) (x d : α) (j : Nat) : (l ++ [x]).getD j d = if j = l.length then x else l.getD j d := by
  simp only [List.getD_eq_getElem?_getD]
  by_cases h : j < l.length
  · rw [List.getElem?_append_left h, if_neg (by omega)]
  · rw [List.getElem?_append_right (by omega)]
    by_cases e : j = l.length
    · subst e; simp
    · rw [if_neg e, List.getElem?_eq_none (by simp; omega), List.getElem?_eq_none (by omega)]
theorem NumsF.snoc {F : Nat → Prop} {w : World} {vs : List Value} {ls : List (List Int)} (h : NumsF F w vs ls) {v : Value} {l : List Int} (hn : Nums w v l) (ho : Off F v) : NumsF F w (vs ++ [v]) (ls ++ [l]) :=
  ⟨by simp [h.1], fun j => by
    rw [getD_snoc, getD_snoc, h.1]
    split
    · exact ⟨hn, ho⟩
    · exact h.2 j⟩
theorem NumsF.set {F : Nat → Prop} {w : World} {vs : List Value} {ls : List (List Int)} (h : NumsF F w vs ls) {v : Value} {l : List Int} (hn : Nums w v l) (ho : Off F v) (i : Nat) : NumsF F w (vs.set i v) (ls.set i l) :=
  ⟨by simp [h.1], fun j => by
    rw [getD_set, getD_set, h.1]
    split
    · exact ⟨hn, ho⟩
    · exact h.2 j⟩
theorem numss_of {F : Nat → Prop} {w : World} {B : Nat} {v : Value} {vs : List Value} {ls : List (List Int)} (h : w.ownsRow B 23 1 v vs.length vs) (hn : NumsF F w vs ls) : Numss w v ls := by
  have h' := h
  have hl := hn.1
  rcases h.2 with ⟨rfl, h0⟩ | ⟨g, cap, cur, rfl, _, _, hc, _⟩
  · have e : ls.length = 0 := by omega
    exact ⟨none, 0, by rw [e], by omega, fun _ => rfl, fun j hj => by omega⟩
  · refine ⟨_, cap, by rw [hl], by omega, (fun h => by cases h), fun j hj => ⟨g, 0, vs.getD j nilV, rfl, (h'.lt g rfl).2, ?_, ?_⟩⟩
    · rw [Nat.zero_add, h'.cellAt j (by omega), List.getD_eq_getElem?_getD, List.getElem?_eq_getElem (by omega)]
      rfl
    · have := (hn.2 j).1
      rwa [List.getD_eq_getElem?_getD (l := ls), List.getElem?_eq_getElem hj] at this
/-- sets in a row of the call's own -/
def flatS (l : List W4) : List Value := l.flatMap fun S => [.int .u64 (S.a : Int), .int .u64 (S.b : Int), .int .u64 (S.c : Int), .int .u64 (S.d : Int)]
theorem flatS_app (l m : List W4) : flatS (l ++ m) = flatS l ++ flatS m := by unfold flatS; rw [List.flatMap_append]
theorem flatS_at : ∀ (l : List W4) (j : Nat) (hj : j < l.length), (flatS l)[j * 4]? = some (.int .u64 (l[j].a : Int)) ∧ (flatS l)[j * 4 + 1]? = some (.int .u64 (l[j].b : Int)) ∧ (flatS l)[j * 4 + 2]? = some (.int .u64 (l[j].c : Int)) ∧ (flatS l)[j * 4 + 3]? = some (.int .u64 (l[j].d : Int))
  | S :: t, 0, _ => by simp [flatS]
  | S :: t, j + 1, hj => by
    have ih := flatS_at t j (by simpa using hj)
    unfold flatS at ih ⊢
    rw [List.flatMap_cons, show (j + 1) * 4 = 4 + j * 4 by omega]
    simp only [Nat.add_assoc]
    rw [List.getElem?_append_right (by simp), List.getElem?_append_right (by simp), List.getElem?_append_right (by simp), List.getElem?_append_right (by simp)]
    simp only [List.length_cons, List.length_nil, Nat.zero_add, List.getElem_cons_succ]
    refine ⟨?_, ?_, ?_, ?_⟩
    · rw [← ih.1]; congr 1; omega
    · rw [← ih.2.1]; congr 1; omega
    · rw [← ih.2.2.1]; congr 1; omega
    · rw [← ih.2.2.2]; congr 1; omega
abbrev OwnS (w : World) (B : Nat) (v : Value) (l : List W4) : Prop := w.ownsRow B 65 4 v l.length (flatS l)
theorem Sets.of_own {w : World} {B : Nat} {v : Value} {l : List W4} (h : OwnS w B v l) (hf : ∀ S ∈ l, Fit4 S) : Sets w v l := by
  have h' := h
  rcases h.2 with ⟨rfl, h0⟩ | ⟨g, cap, cur, rfl, _, _, hc, _⟩
  · exact ⟨none, 0, by rw [h0], by omega, fun _ => rfl, hf, fun j hj => by omega⟩
  · refine ⟨_, cap, rfl, hc, (fun h => by cases h), hf, fun j hj => ⟨g, 0, rfl, (h'.lt g rfl).2, ?_⟩⟩
    obtain ⟨e0, e1, e2, e3⟩ := flatS_at l j hj
    rw [Nat.zero_add]
    exact ⟨(h'.cellAt _ (by omega)).trans e0, (h'.cellAt _ (by omega)).trans e1, (h'.cellAt _ (by omega)).trans e2, (h'.cellAt _ (by omega)).trans e3⟩

/-- a call at a step of a region that draws its order -/
theorem step_call {P : Program} {ops : Array Oper} {o : Oper} {a : Act} {w : World} {K : Act → World → Prop} {Q : Exit → Act → World → Prop} {E : Prop} (hgd : o.guard = none) (f : FuncId) (args : Array Value)
    (hrun : (execOp a.eval o).run P w = .ok (.enter f args) w) {R : Ending → World → Prop} (hc : Calls P f args w R) (h : ∀ e w', R e w' → ∃ v, e = .returned v ∧ K (a.put o.dst v) w') :
    if Region.wanted o (yielded ops a.tmps) = true then Oper.wp P o a w K Q else E := by
  have hw : Region.wanted o (yielded ops a.tmps) = true := by simp [Region.wanted, hgd]
  rw [if_pos hw]
  unfold Oper.wp
  rw [hrun, Oper.upon_enter]
  refine hc.mono fun e w' hr => ?_
  obtain ⟨v, rfl, hk⟩ := h e w' hr
  exact hk

end Go.Proofs.YtonlcnmlklaicaaGreatDoor
