/- A rule's spots fit just what the rule fits. The maths of layer 8: states of rules, and what they are behind a text. The maths of layer 8: the automaton of the states that are met. The reference of layer 8: accept, wide. -/
import Derived.Test.YtjelgphhlcecoaaGreatDoorJ11
namespace Go.Proofs.YtjelgphhlcecoaaGreatDoor
open Go.RowKit

/-- these are a rule's spots -/
structure IsSp (t : Rx) (p : Sp) : Prop where
  sets : p.sets = setsL t
  null : p.null = t.null
  first : ∀ x, x ∈ p.first ↔ ∃ k : Nat, x = (k : Int) ∧ Fst t 0 k
  last : ∀ x, x ∈ p.last ↔ ∃ k : Nat, x = (k : Int) ∧ Lst t 0 k
  len : p.follow.length = nSets t
  follow : ∀ j x, j < nSets t → (x ∈ p.follow.getD j [] ↔ ∃ k : Nat, x = (k : Int) ∧ Fol t 0 j k)
theorem IsSp.last_has {t : Rx} {p : Sp} (h : IsSp t p) (k : Nat) : p.last.contains (k : Int) = true ↔ Lst t 0 k := by
  rw [List.contains_iff_mem, h.last]
  exact ⟨fun ⟨j, e, hj⟩ => by have : k = j := by omega
                              rw [this]; exact hj, fun hk => ⟨k, rfl, hk⟩⟩
theorem IsSp.n {t : Rx} {p : Sp} (h : IsSp t p) : p.sets.length = nSets t := by rw [h.sets, setsL_len]

end Go.Proofs.YtjelgphhlcecoaaGreatDoor
namespace Go.Proofs.YtjelgphhlcecoaaGreatDoor

abbrev St := List Int
def noSp : Sp := ⟨[], false, [], [], []⟩
def enc (r k : Nat) : Int := (r : Int) * 1000 + (k : Int)
theorem enc_div {r k : Nat} (h : k < 1000) : (enc r k / 1000).toNat = r := by unfold enc; omega
theorem enc_mod {r k : Nat} (h : k < 1000) : enc r k % 1000 = (k : Int) := by unfold enc; omega
theorem enc_inj {r k r' k' : Nat} (h : k < 1000) (h' : k' < 1000) (e : enc r k = enc r' k') : r = r' ∧ k = k' := by unfold enc at e; omega
def wideL (r : Nat) (l : List Int) : List Int := l.map fun x => (r : Int) * 1000 + x
theorem wideL_mem (r : Nat) (l : List Int) (y : Int) : y ∈ wideL r l ↔ ∃ x ∈ l, y = (r : Int) * 1000 + x := by
  unfold wideL
  rw [List.mem_map]
  exact ⟨fun ⟨x, h, e⟩ => ⟨x, h, e.symm⟩, fun ⟨x, h, e⟩ => ⟨x, h, e.symm⟩⟩
def oneS (r : Nat) (p : Sp) : List Int := wideL r p.first ++ (if p.null then [(r : Int) * 1000 + 999] else [])
/-- the first state, of the first m rules -/
def firstS (all : List Sp) : Nat → St
  | 0 => []
  | m + 1 => firstS all m ++ oneS m (all.getD m noSp)
/-- where a state's number leads by a byte -/
def byOne (all : List Sp) (b : Nat) (x : Int) : List Int :=
  if x % 1000 = 999 ∨ hasB ((all.getD (x / 1000).toNat noSp).sets.getD (x % 1000).toNat noneB) b = false then []
  else wideL (x / 1000).toNat ((all.getD (x / 1000).toNat noSp).follow.getD (x % 1000).toNat []) ++ (if (all.getD (x / 1000).toNat noSp).last.contains (x % 1000) then [x / 1000 * 1000 + 999] else [])
def byS (all : List Sp) (st : St) (b : Nat) : St := ofL (st.flatMap (byOne all b))
def accS : St → Int
  | [] => -1
  | x :: l => if x % 1000 = 999 then x / 1000 else accS l
theorem byS_up (all : List Sp) (st : St) (b : Nat) : Up (byS all st b) := ofL_up _
theorem byS_mem (all : List Sp) (st : St) (b : Nat) (y : Int) : y ∈ byS all st b ↔ ∃ x ∈ st, y ∈ byOne all b x := by
  unfold byS
  rw [ofL_mem, List.mem_flatMap]
/-- these are the rules' spots -/
structure RuS (ts : List Rx) (all : List Sp) : Prop where
  len : all.length = ts.length
  is : ∀ r (h : r < ts.length), IsSp ts[r] (all.getD r noSp)
  few : ∀ r (h : r < ts.length), nSets ts[r] ≤ 60
  up : ∀ r, r < ts.length → Up (all.getD r noSp).first
/-- what a state's number may be -/
def FrmS (ts : List Rx) (x : Int) : Prop := ∃ r, ∃ h : r < ts.length, ∃ k, x = enc r k ∧ (k = 999 ∨ k < nSets ts[r])
theorem FrmS.pos {ts : List Rx} {x : Int} (h : FrmS ts x) : 0 ≤ x := by
  obtain ⟨r, _, k, rfl, _⟩ := h
  unfold enc
  omega
theorem oneS_mem {ts : List Rx} {all : List Sp} (R : RuS ts all) {r : Nat} (h : r < ts.length) (x : Int) :
    x ∈ oneS r (all.getD r noSp) ↔ (∃ k, Fst ts[r] 0 k ∧ x = enc r k) ∨ (ts[r].null = true ∧ x = enc r 999) := by
  unfold oneS
  rw [List.mem_append, wideL_mem]
  have H := R.is r h
  constructor
  · rintro (⟨y, h1, h2⟩ | h1)
    · obtain ⟨k, rfl, hk⟩ := (H.first y).1 h1
      exact Or.inl ⟨k, hk, h2⟩
    · rw [H.null] at h1
      split at h1
      · rename_i hn
        exact Or.inr ⟨hn, by simpa [enc] using h1⟩
      · cases h1
  · rintro (⟨k, hk, rfl⟩ | ⟨hn, rfl⟩)
    · exact Or.inl ⟨(k : Int), (H.first _).2 ⟨k, rfl, hk⟩, rfl⟩
    · refine Or.inr ?_
      rw [H.null, if_pos hn]
      simp [enc]
theorem firstS_mem (all : List Sp) (x : Int) : ∀ m, x ∈ firstS all m ↔ ∃ r, r < m ∧ x ∈ oneS r (all.getD r noSp)
  | 0 => by simp [firstS]
  | m + 1 => by
    rw [firstS, List.mem_append, firstS_mem all x m]
    constructor
    · rintro (⟨r, h, hx⟩ | hx)
      · exact ⟨r, by omega, hx⟩
      · exact ⟨m, by omega, hx⟩
    · rintro ⟨r, h, hx⟩
      by_cases e : r = m
      · subst e; exact Or.inr hx
      · exact Or.inl ⟨r, by omega, hx⟩
theorem oneS_in {ts : List Rx} {all : List Sp} (R : RuS ts all) {r : Nat} (h : r < ts.length) {x : Int} (hx : x ∈ oneS r (all.getD r noSp)) : ∃ k, x = enc r k ∧ k < 1000 ∧ (k = 999 ∨ k < nSets ts[r]) := by
  rcases (oneS_mem R h x).1 hx with ⟨k, hk, rfl⟩ | ⟨_, rfl⟩
  · have := fst_in ts[r] 0 k hk
    have := R.few r h
    exact ⟨k, rfl, by omega, Or.inr (by omega)⟩
  · exact ⟨999, rfl, by omega, Or.inl rfl⟩
theorem up_app {a b : List Int} (ha : Up a) (hb : Up b) (h : ∀ x ∈ a, ∀ y ∈ b, x < y) : Up (a ++ b) := List.pairwise_append.2 ⟨ha, hb, h⟩
theorem wideL_up (r : Nat) {l : List Int} (h : Up l) : Up (wideL r l) := by
  unfold wideL
  rw [Up, List.pairwise_map]
  exact List.Pairwise.imp (fun h => by omega) h
theorem oneS_up {ts : List Rx} {all : List Sp} (R : RuS ts all) {r : Nat} (h : r < ts.length) : Up (oneS r (all.getD r noSp)) := by
  unfold oneS
  refine up_app (wideL_up r (R.up r h)) (by split <;> simp [Up]) ?_
  intro x hx y hy
  rw [wideL_mem] at hx
  obtain ⟨z, hz, rfl⟩ := hx
  obtain ⟨k, rfl, hk⟩ := ((R.is r h).first z).1 hz
  have := fst_in ts[r] 0 k hk
  have := R.few r h
  split at hy
  · have : y = (r : Int) * 1000 + 999 := by simpa using hy
    omega
  · cases hy
theorem firstS_up {ts : List Rx} {all : List Sp} (R : RuS ts all) : ∀ m, m ≤ ts.length → Up (firstS all m)
  | 0, _ => List.Pairwise.nil
  | m + 1, hm => by
    refine up_app (firstS_up R m (by omega)) (oneS_up R (by omega)) ?_
    intro x hx y hy
    obtain ⟨r, hr, hx⟩ := (firstS_mem all x m).1 hx
    obtain ⟨k, rfl, _, _⟩ := oneS_in R (by omega) hx
    obtain ⟨k', rfl, _, _⟩ := oneS_in R (by omega) hy
    unfold enc
    omega
theorem byOne_end (all : List Sp) (b r : Nat) : byOne all b (enc r 999) = [] := by
  have e : enc r 999 % 1000 = 999 := enc_mod (by omega)
  unfold byOne
  rw [if_pos (Or.inl e)]
theorem byOne_mem {ts : List Rx} {all : List Sp} (R : RuS ts all) {r j : Nat} (h : r < ts.length) (hj : j < nSets ts[r]) (b : Nat) (y : Int) :
    y ∈ byOne all b (enc r j) ↔ hasB (gOf ts[r] j) b = true ∧ ((∃ k, Fol ts[r] 0 j k ∧ y = enc r k) ∨ (Lst ts[r] 0 j ∧ y = enc r 999)) := by
  have hf := R.few r h
  have H := R.is r h
  have e1 : (enc r j / 1000).toNat = r := enc_div (by omega)
  have e2 : enc r j % 1000 = (j : Int) := enc_mod (by omega)
  have e3 : enc r j / 1000 * 1000 + 999 = enc r 999 := by unfold enc; omega
  have e4 : ((all.getD r noSp).sets.getD j noneB) = gOf ts[r] j := by rw [H.sets]; rfl
  unfold byOne
  rw [e1, e2, e3, Int.toNat_natCast, e4]
  by_cases hb : hasB (gOf ts[r] j) b = true
  · rw [if_neg (by rw [hb]; simp; omega)]
    simp only [hb, true_and]
    rw [List.mem_append, wideL_mem]
    refine or_congr ?_ ?_
    · constructor
      · rintro ⟨x, h1, rfl⟩
        obtain ⟨k, rfl, hk⟩ := (H.follow j x hj).1 h1
        exact ⟨k, hk, rfl⟩
      · rintro ⟨k, hk, rfl⟩
        exact ⟨(k : Int), (H.follow j _ hj).2 ⟨k, rfl, hk⟩, rfl⟩
    · by_cases hl : (all.getD r noSp).last.contains (j : Int) = true
      · rw [if_pos hl]
        have := (H.last_has j).1 hl
        simp [this]
      · rw [if_neg hl]
        have : ¬ Lst ts[r] 0 j := fun h => hl ((H.last_has j).2 h)
        simp [this]
  · rw [if_pos (Or.inr (by simpa using hb))]
    simp [hb]
/-- a state's numbers lead to numbers of states -/
theorem by_frm {ts : List Rx} {all : List Sp} (R : RuS ts all) {st : St} (h : ∀ x ∈ st, FrmS ts x) (b : Nat) : ∀ y ∈ byS all st b, FrmS ts y := by
  intro y hy
  obtain ⟨x, hx, hy⟩ := (byS_mem all st b y).1 hy
  obtain ⟨r, hr, k, rfl, rfl | hk⟩ := h x hx
  · rw [byOne_end] at hy; cases hy
  · rcases ((byOne_mem R hr hk b y).1 hy).2 with ⟨k', hf, rfl⟩ | ⟨_, rfl⟩
    · have := fol_in ts[r] 0 k k' hf
      exact ⟨r, hr, k', rfl, Or.inr (by omega)⟩
    · exact ⟨r, hr, 999, rfl, Or.inl rfl⟩
theorem first_frm {ts : List Rx} {all : List Sp} (R : RuS ts all) : ∀ x ∈ firstS all all.length, FrmS ts x := by
  intro x hx
  obtain ⟨r, hr, hx⟩ := (firstS_mem all x _).1 hx
  have hr' : r < ts.length := by rw [← R.len]; exact hr
  obtain ⟨k, rfl, _, h⟩ := oneS_in R hr' hx
  exact ⟨r, hr', k, rfl, h⟩
/-- the first rule whose end is in a state -/
theorem acc_none {ts : List Rx} : ∀ {st : St}, (∀ x ∈ st, FrmS ts x) → (∀ r, r < ts.length → ¬ enc r 999 ∈ st) → (∀ r (h : r < ts.length), nSets ts[r] ≤ 60) → accS st = -1
  | [], _, _, _ => rfl
  | x :: l, hf, hn, h60 => by
    have hx : ¬ x % 1000 = 999 := by
      intro hx
      obtain ⟨r, h, k, rfl, rfl | hk⟩ := hf x (by simp)
      · exact hn r h (by simp)
      · have := h60 r h
        rw [enc_mod (by omega)] at hx
        omega
    rw [accS, if_neg hx]
    exact acc_none (fun y hy => hf y (by simp [hy])) (fun r h hm => hn r h (by simp [hm])) h60
theorem acc_some {ts : List Rx} {r : Nat} : ∀ {st : St}, Up st → (∀ x ∈ st, FrmS ts x) → enc r 999 ∈ st → (∀ r', r' < r → ¬ enc r' 999 ∈ st) → (∀ r (h : r < ts.length), nSets ts[r] ≤ 60) → accS st = (r : Int)
  | [], _, _, h, _, _ => by cases h
  | x :: l, hu, hf, hm, hn, h60 => by
    rw [Up, List.pairwise_cons] at hu
    by_cases hx : x % 1000 = 999
    · rw [accS, if_pos hx]
      obtain ⟨r0, h, k, rfl, hk⟩ := hf x (by simp)
      have hk9 : k = 999 := by
        rcases hk with rfl | hk
        · rfl
        · have := h60 r0 h
          rw [enc_mod (by omega)] at hx
          omega
      subst hk9
      have hle : enc r0 999 ≤ enc r 999 := by
        rcases List.mem_cons.1 hm with e | hm
        · omega
        · have := hu.1 _ hm; omega
      have hge : ¬ r0 < r := fun hlt => hn r0 hlt (by simp)
      have hr : r0 = r := by unfold enc at hle; omega
      subst hr
      unfold enc
      omega
    · rw [accS, if_neg hx]
      have hm' : enc r 999 ∈ l := by
        rcases List.mem_cons.1 hm with e | hm
        · rw [← e, enc_mod (by omega)] at hx
          exact absurd rfl hx
        · exact hm
      exact acc_some hu.2 (fun y hy => hf y (by simp [hy])) hm' (fun r' h' h => hn r' h' (by simp [h])) h60
theorem acc_ge {ts : List Rx} : ∀ {st : St}, (∀ x ∈ st, FrmS ts x) → -1 ≤ accS st
  | [], _ => by simp [accS]
  | x :: l, hf => by
    rw [accS]
    split
    · have := (hf x (by simp)).pos; omega
    · exact acc_ge fun y hy => hf y (by simp [hy])

end Go.Proofs.YtjelgphhlcecoaaGreatDoor
namespace Go.Proofs.YtjelgphhlcecoaaGreatDoor

/-- behind b bytes of a state: the states that are met by then, and its row -/
def rowK (all : List Sp) (st : St) (S : List St) : Nat → List St × List Int
  | 0 => (S, [])
  | b + 1 =>
    if byS all st b = [] then ((rowK all st S b).1, (rowK all st S b).2 ++ [-1])
    else if byS all st b ∈ (rowK all st S b).1 then ((rowK all st S b).1, (rowK all st S b).2 ++ [((rowK all st S b).1.idxOf (byS all st b) : Int)])
    else ((rowK all st S b).1 ++ [byS all st b], (rowK all st S b).2 ++ [((rowK all st S b).1.length : Int)])
theorem rowK_none {all : List Sp} {st : St} {S : List St} {b : Nat} (h : byS all st b = []) : rowK all st S (b + 1) = ((rowK all st S b).1, (rowK all st S b).2 ++ [-1]) := by rw [rowK, if_pos h]
theorem rowK_old {all : List Sp} {st : St} {S : List St} {b : Nat} (h : ¬ byS all st b = []) (hm : byS all st b ∈ (rowK all st S b).1) : rowK all st S (b + 1) = ((rowK all st S b).1, (rowK all st S b).2 ++ [((rowK all st S b).1.idxOf (byS all st b) : Int)]) := by rw [rowK, if_neg h, if_pos hm]
theorem rowK_new {all : List Sp} {st : St} {S : List St} {b : Nat} (h : ¬ byS all st b = []) (hm : ¬ byS all st b ∈ (rowK all st S b).1) : rowK all st S (b + 1) = ((rowK all st S b).1 ++ [byS all st b], (rowK all st S b).2 ++ [((rowK all st S b).1.length : Int)]) := by rw [rowK, if_neg h, if_neg hm]
theorem rowK_cases (all : List Sp) (st : St) (S : List St) (b : Nat) :
    (byS all st b = [] ∧ rowK all st S (b + 1) = ((rowK all st S b).1, (rowK all st S b).2 ++ [-1])) ∨
    (byS all st b ≠ [] ∧ byS all st b ∈ (rowK all st S b).1 ∧ rowK all st S (b + 1) = ((rowK all st S b).1, (rowK all st S b).2 ++ [((rowK all st S b).1.idxOf (byS all st b) : Int)])) ∨
    (byS all st b ≠ [] ∧ ¬ byS all st b ∈ (rowK all st S b).1 ∧ rowK all st S (b + 1) = ((rowK all st S b).1 ++ [byS all st b], (rowK all st S b).2 ++ [((rowK all st S b).1.length : Int)])) := by
  by_cases h : byS all st b = []
  · exact Or.inl ⟨h, rowK_none h⟩
  · by_cases hm : byS all st b ∈ (rowK all st S b).1
    · exact Or.inr (Or.inl ⟨h, hm, rowK_old h hm⟩)
    · exact Or.inr (Or.inr ⟨h, hm, rowK_new h hm⟩)
/-- a row's number is right -/
def RowOK (T : List St) (to : St) (n : Int) : Prop := (to = [] ∧ n = -1) ∨ (to ≠ [] ∧ ∃ m : Nat, n = (m : Int) ∧ T[m]? = some to)
theorem RowOK.more {T : List St} {to : St} {n : Int} (h : RowOK T to n) (U : List St) : RowOK (T ++ U) to n := by
  rcases h with h | ⟨h, m, e, hm⟩
  · exact Or.inl h
  · refine Or.inr ⟨h, m, e, ?_⟩
    have hlt : m < T.length := by
      rcases Nat.lt_or_ge m T.length with h | h
      · exact h
      · rw [List.getElem?_eq_none h] at hm; cases hm
    rw [List.getElem?_append_left hlt]
    exact hm
theorem RowOK.range {T : List St} {to : St} {n : Int} (h : RowOK T to n) : -1 ≤ n ∧ n < (T.length : Int) ∨ (n = -1) := by
  rcases h with ⟨_, h⟩ | ⟨_, m, e, hm⟩
  · exact Or.inr h
  · have hlt : m < T.length := by
      rcases Nat.lt_or_ge m T.length with h | h
      · exact h
      · rw [List.getElem?_eq_none h] at hm; cases hm
    exact Or.inl ⟨by omega, by omega⟩
theorem idx_at {T : List St} {to : St} (h : to ∈ T) : T[T.idxOf to]? = some to := by
  have hl : T.idxOf to < T.length := List.idxOf_lt_length_of_mem h
  rw [List.getElem?_eq_getElem hl, List.getElem_idxOf hl]
theorem getD_snoc_left {α : Type} {l : List α} {x d : α} {c : Nat} (h : c < l.length) : (l ++ [x]).getD c d = l.getD c d := by
  simp [List.getD_eq_getElem?_getD, List.getElem?_append_left h]
theorem getD_snoc_at {α : Type} {l : List α} {x d : α} {c : Nat} (h : c = l.length) : (l ++ [x]).getD c d = x := by
  subst h
  simp [List.getD_eq_getElem?_getD]
/-- what a row is, when b of its bytes are gone through -/
structure RowIs (all : List Sp) (st : St) (S : List St) (b : Nat) (q : List St × List Int) : Prop where
  pre : ∃ U, q.1 = S ++ U ∧ (∀ x ∈ U, ∃ c, c < b ∧ x = byS all st c ∧ x ≠ [])
  nd : q.1.Nodup
  len : q.2.length = b
  row : ∀ c, c < b → RowOK q.1 (byS all st c) (q.2.getD c 0)
theorem rowK_is (all : List Sp) (st : St) (S : List St) (hS : S.Nodup) : ∀ b, RowIs all st S b (rowK all st S b)
  | 0 => ⟨⟨[], by simp [rowK], by simp⟩, hS, rfl, fun c hc => by omega⟩
  | b + 1 => by
    have ih := rowK_is all st S hS b
    obtain ⟨U, hU, hU'⟩ := ih.pre
    rcases rowK_cases all st S b with ⟨h, e⟩ | ⟨h, hm, e⟩ | ⟨h, hm, e⟩
    · rw [e]
      refine ⟨⟨U, hU, fun x hx => ?_⟩, ih.nd, by simp [ih.len], fun c hc => ?_⟩
      · obtain ⟨c, hc, hx⟩ := hU' x hx
        exact ⟨c, by omega, hx⟩
      · rcases Nat.lt_or_ge c b with hlt | hge
        · rw [getD_snoc_left (by rw [ih.len]; exact hlt)]
          exact ih.row c hlt
        · obtain rfl : c = b := by omega
          rw [getD_snoc_at ih.len.symm]
          exact Or.inl ⟨h, rfl⟩
    · rw [e]
      refine ⟨⟨U, hU, fun x hx => ?_⟩, ih.nd, by simp [ih.len], fun c hc => ?_⟩
      · obtain ⟨c, hc, hx⟩ := hU' x hx
        exact ⟨c, by omega, hx⟩
      · rcases Nat.lt_or_ge c b with hlt | hge
        · rw [getD_snoc_left (by rw [ih.len]; exact hlt)]
          exact ih.row c hlt
        · obtain rfl : c = b := by omega
          rw [getD_snoc_at ih.len.symm]
          exact Or.inr ⟨h, _, rfl, idx_at hm⟩
    · rw [e]
      refine ⟨⟨U ++ [byS all st b], by rw [hU, List.append_assoc], fun x hx => ?_⟩, ?_, by simp [ih.len], fun c hc => ?_⟩
      · rcases List.mem_append.1 hx with hx | hx
        · obtain ⟨c, hc, hx⟩ := hU' x hx
          exact ⟨c, by omega, hx⟩
        · have : x = byS all st b := by simpa using hx
          exact ⟨b, by omega, this, by rw [this]; exact h⟩
      · rw [List.nodup_append]
        refine ⟨ih.nd, by simp, fun a ha b' hb => ?_⟩
        have : b' = byS all st b := by simpa using hb
        subst this
        exact fun e => hm (e ▸ ha)
      · rcases Nat.lt_or_ge c b with hlt | hge
        · rw [getD_snoc_left (by rw [ih.len]; exact hlt)]
          exact (ih.row c hlt).more _
        · obtain rfl : c = b := by omega
          rw [getD_snoc_at ih.len.symm]
          exact Or.inr ⟨h, _, rfl, by simp⟩
/-- the states, the rows and what they accept, when i states are gone through -/
def stsK (all : List Sp) : Nat → List St
  | 0 => [firstS all all.length]
  | i + 1 => (rowK all ((stsK all i).getD i []) (stsK all i) 256).1
def nxtK (all : List Sp) : Nat → List (List Int)
  | 0 => []
  | i + 1 => nxtK all i ++ [(rowK all ((stsK all i).getD i []) (stsK all i) 256).2]
def accK (all : List Sp) : Nat → List Int
  | 0 => []
  | i + 1 => accK all i ++ [accS ((stsK all i).getD i [])]
theorem nxtK_len (all : List Sp) : ∀ i, (nxtK all i).length = i
  | 0 => rfl
  | i + 1 => by simp [nxtK, nxtK_len all i]
theorem accK_len (all : List Sp) : ∀ i, (accK all i).length = i
  | 0 => rfl
  | i + 1 => by simp [accK, accK_len all i]
theorem stsK_nd (all : List Sp) : ∀ i, (stsK all i).Nodup
  | 0 => by simp [stsK]
  | i + 1 => (rowK_is all _ _ (stsK_nd all i) 256).nd
theorem stsK_more (all : List Sp) (i : Nat) : ∃ U, stsK all (i + 1) = stsK all i ++ U ∧ (∀ x ∈ U, ∃ c, c < 256 ∧ x = byS all ((stsK all i).getD i []) c ∧ x ≠ []) := (rowK_is all _ _ (stsK_nd all i) 256).pre
theorem stsK_mono (all : List Sp) (i : Nat) : ∀ d, ∃ U, stsK all (i + d) = stsK all i ++ U
  | 0 => ⟨[], by simp⟩
  | d + 1 => by
    obtain ⟨U, hU⟩ := stsK_mono all i d
    obtain ⟨V, hV, _⟩ := stsK_more all (i + d)
    exact ⟨U ++ V, by rw [← Nat.add_assoc, hV, hU, List.append_assoc]⟩
/-- a row is right at every later time -/
theorem nxtK_row (all : List Sp) {i j : Nat} (hij : j < i) : ((nxtK all i).getD j []).length = 256 ∧ ∀ c, c < 256 → RowOK (stsK all i) (byS all ((stsK all j).getD j []) c) (((nxtK all i).getD j []).getD c 0) := by
  induction i with
  | zero => omega
  | succ i ih =>
    rw [nxtK]
    rcases Nat.lt_or_ge j i with hlt | hge
    · rw [getD_snoc_left (by rw [nxtK_len]; exact hlt)]
      obtain ⟨h1, h2⟩ := ih hlt
      refine ⟨h1, fun c hc => ?_⟩
      obtain ⟨U, hU, _⟩ := stsK_more all i
      rw [hU]
      exact (h2 c hc).more U
    · obtain rfl : j = i := by omega
      rw [getD_snoc_at (nxtK_len all j).symm]
      have H := rowK_is all ((stsK all j).getD j []) (stsK all j) (stsK_nd all j) 256
      exact ⟨H.len, H.row⟩
theorem accK_at (all : List Sp) {i j : Nat} (hij : j < i) : (accK all i).getD j 0 = accS ((stsK all j).getD j []) := by
  induction i with
  | zero => omega
  | succ i ih =>
    rw [accK]
    rcases Nat.lt_or_ge j i with hlt | hge
    · rw [getD_snoc_left (by rw [accK_len]; exact hlt)]
      exact ih hlt
    · obtain rfl : j = i := by omega
      rw [getD_snoc_at (accK_len all j).symm]
theorem stsK_frm {ts : List Rx} {all : List Sp} (R : RuS ts all) : ∀ i, ∀ st ∈ stsK all i, ∀ x ∈ st, FrmS ts x
  | 0 => by
    intro st hst
    have : st = firstS all all.length := by simpa [stsK] using hst
    subst this
    exact first_frm R
  | i + 1 => by
    have ih := stsK_frm R i
    intro st hst
    obtain ⟨U, hU, hU'⟩ := stsK_more all i
    rw [hU] at hst
    rcases List.mem_append.1 hst with h | h
    · exact ih st h
    · obtain ⟨c, _, rfl, _⟩ := hU' st h
      refine by_frm R (fun x hx => ?_) c
      rcases Nat.lt_or_ge i (stsK all i).length with hl | hl
      · have hm : (stsK all i).getD i [] ∈ stsK all i := by
          rw [List.getD_eq_getElem?_getD, List.getElem?_eq_getElem hl]
          exact List.getElem_mem hl
        exact ih _ hm x hx
      · rw [List.getD_eq_getElem?_getD, List.getElem?_eq_none hl] at hx
        cases hx
/-- where the rows lead behind i bytes -/
def goK (N : List (List Int)) (s : Txt) : Nat → Int
  | 0 => 0
  | i + 1 => if goK N s i < 0 then -1 else (N.getD (goK N s i).toNat []).getD (s.getD i 0).toNat 0
/-- the automaton is right -/
theorem nxtK_right {ts : List Rx} {all : List Sp} (R : RuS ts all) {n : Nat} (hn : (stsK all n).length = n) (hj : ∀ j, j < n → j < (stsK all j).length) (h0 : 0 < n) : (∀ j, j < n → ((nxtK all n).getD j []).length = 256 ∧ -1 ≤ (accK all n).getD j 0 ∧ ∀ c, c < 256 → -1 ≤ ((nxtK all n).getD j []).getD c 0 ∧ ((nxtK all n).getD j []).getD c 0 < (n : Int)) := by
  intro j hlt
  obtain ⟨h1, h2⟩ := nxtK_row all hlt
  refine ⟨h1, ?_, fun c hc => ?_⟩
  · rw [accK_at all hlt]
    have hl := hj j hlt
    refine acc_ge (ts := ts) (stsK_frm R j _ ?_)
    rw [List.getD_eq_getElem?_getD, List.getElem?_eq_getElem hl]
    exact List.getElem_mem hl
  · rcases (h2 c hc).range with h | h
    · rw [hn] at h; exact h
    · rw [h]; omega

end Go.Proofs.YtjelgphhlcecoaaGreatDoor
namespace Go.Proofs.YtjelgphhlcecoaaGreatDoor
open Go.RowKit

theorem wideL_len (r : Nat) (l : List Int) : (wideL r l).length = l.length := by simp [wideL]
end Go.Proofs.YtjelgphhlcecoaaGreatDoor
