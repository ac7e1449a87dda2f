/- Parts that are split by each set in turn: what they are, and that they come, sorted, to the one list. -/
import Derived.Test.YtpkndedppfdekaaDoorUniq
namespace Go.Proofs.YtpkndedppfdekaaDoor

theorem and_has (S T : W4) (x : Nat) (hx : x < 256) : hasB (andB S T) x = (hasB S x && hasB T x) := by unfold andB; rw [mkB_has _ x hx]
theorem not_has (S : W4) (x : Nat) (hx : x < 256) : hasB (notB S) x = !hasB S x := by unfold notB; rw [mkB_has _ x hx]
theorem and_fit (S T : W4) : Fit4 (andB S T) := by unfold andB; exact mkB_fit _
theorem cls_fit (l : List W4) (r : Nat) : Fit4 (clsB l r) := by unfold clsB; exact mkB_fit _
attribute [local irreducible] andB notB clsB noneB hasB
/-- is a part left whole? -/
def idleC (S P : W4) : Bool := decide (andB P S = noneB) || decide (andB P S = P)
def headC (S P : W4) : W4 := if idleC S P then P else andB P S
def tailC (S P : W4) : List W4 := if idleC S P then [] else [andB P (notB S)]
def splitL (S : W4) (l : List W4) : List W4 := l.map (headC S) ++ l.flatMap (tailC S)
/-- .. behind the first i of them -/
def splitI (S : W4) (l : List W4) (i : Nat) : List W4 := (l.take i).map (headC S) ++ l.drop i ++ (l.take i).flatMap (tailC S)
theorem splitI_zero (S : W4) (l : List W4) : splitI S l 0 = l := by simp [splitI]
theorem splitI_end (S : W4) (l : List W4) (i : Nat) (hi : l.length ≤ i) : splitI S l i = splitL S l := by
  unfold splitI splitL
  rw [List.take_of_length_le hi, List.drop_of_length_le hi, List.append_nil]
theorem splitI_idle (S : W4) (l : List W4) (i : Nat) (hi : i < l.length) (h : idleC S l[i] = true) : splitI S l (i + 1) = splitI S l i := by
  unfold splitI
  rw [List.take_succ_eq_append_getElem hi, List.map_append, List.flatMap_append, List.drop_eq_getElem_cons hi]
  simp [headC, tailC, h]
theorem splitI_cut (S : W4) (l : List W4) (i : Nat) (hi : i < l.length) (h : idleC S l[i] = false) : splitI S l (i + 1) = (splitI S l i).set i (andB l[i] S) ++ [andB l[i] (notB S)] := by
  unfold splitI
  rw [List.take_succ_eq_append_getElem hi, List.map_append, List.flatMap_append, List.drop_eq_getElem_cons hi]
  have hl : ((l.take i).map (headC S)).length = i := by rw [List.length_map, List.length_take]; omega
  generalize List.map (headC S) (l.take i) = A at hl ⊢
  generalize List.flatMap (tailC S) (l.take i) = B
  have e : ((A ++ l[i] :: List.drop (i + 1) l) ++ B).set i (andB l[i] S) = (A ++ andB l[i] S :: List.drop (i + 1) l) ++ B := by
    rw [List.append_assoc, List.set_append_right _ _ (by omega), hl, Nat.sub_self, List.append_assoc]
    rfl
  rw [e]
  simp [headC, tailC, h]
theorem splitI_len (S : W4) (l : List W4) (i : Nat) (hi : i ≤ l.length) : l.length ≤ (splitI S l i).length := by
  unfold splitI
  simp
  omega
theorem splitI_more (S : W4) (l : List W4) : ∀ i, i ≤ l.length → (splitI S l i).length ≤ l.length + i
  | 0, _ => by rw [splitI_zero]; omega
  | i + 1, hi => by
    have ih := splitI_more S l i (by omega)
    cases h : idleC S l[i] with
    | true => rw [splitI_idle S l i (by omega) h]; omega
    | false => rw [splitI_cut S l i (by omega) h]; simp; omega
theorem splitI_at (S : W4) (l : List W4) (i j : Nat) (hi : i ≤ j) (hj : j < l.length) : (splitI S l i)[j]? = some l[j] := by
  unfold splitI
  have hl : ((l.take i).map (headC S)).length = i := by rw [List.length_map, List.length_take]; omega
  rw [List.append_assoc, List.getElem?_append_right (by omega), hl, List.getElem?_append_left (by rw [List.length_drop]; omega), List.getElem?_drop]
  rw [show i + (j - i) = j by omega, List.getElem?_eq_getElem hj]
theorem splitI_fit (S : W4) (l : List W4) (hl : ∀ P ∈ l, Fit4 P) (i : Nat) : ∀ P ∈ splitI S l i, Fit4 P := by
  intro P hP
  unfold splitI at hP
  rw [List.mem_append, List.mem_append, List.mem_map, List.mem_flatMap] at hP
  rcases hP with (⟨Q, hQ, rfl⟩ | hP) | ⟨Q, hQ, hP⟩
  · unfold headC
    split
    · exact hl Q (List.mem_of_mem_take hQ)
    · exact and_fit _ _
  · exact hl P (List.mem_of_mem_drop hP)
  · unfold tailC at hP
    split at hP
    · cases hP
    · rw [List.mem_singleton] at hP; subst hP; exact and_fit _ _

/-- no byte in two -/
def Apart (P Q : W4) : Prop := ∀ x, x < 256 → hasB P x = true → hasB Q x = false
theorem Apart.symm {P Q : W4} (h : Apart P Q) : Apart Q P := fun x hx hq => by
  cases hp : hasB P x with
  | false => rfl
  | true => rw [h x hx hp] at hq; cases hq
structure Good (l ps : List W4) : Prop where
  cls : ∀ P ∈ ps, ∃ r, r < 256 ∧ P = clsB l r
  all : ∀ r, r < 256 → clsB l r ∈ ps
  apart : ps.Pairwise Apart
theorem Good.fit {l ps : List W4} (h : Good l ps) : ∀ P ∈ ps, Fit4 P := fun P hP => by
  obtain ⟨r, _, rfl⟩ := h.cls P hP
  exact cls_fit _ _
theorem good_nil : Good [] [notB noneB] where
  cls := fun P hP => by rw [List.mem_singleton] at hP; subst hP; exact ⟨0, by omega, (cls_nil 0).symm⟩
  all := fun r _ => by rw [cls_nil]; exact List.mem_singleton.2 rfl
  apart := List.pairwise_singleton _ _

theorem idle_cls {l : List W4} {S : W4} (hS : Fit4 S) {r : Nat} (hr : r < 256) (h : idleC S (clsB l r) = true) : clsB (l ++ [S]) r = clsB l r := by
  have hself : hasB (clsB l r) r = true := by rw [cls_has l r r hr]; exact al_refl l r
  have hfit : Fit4 (clsB l r) := cls_fit l r
  rw [cls_snoc l S hS]
  unfold idleC at h
  rw [Bool.or_eq_true, decide_eq_true_iff, decide_eq_true_iff] at h
  rcases h with h | h
  · have hno : ∀ x, x < 256 → (hasB (clsB l r) x && hasB S x) = false := fun x hx => by rw [← and_has _ _ x hx, h, noneB_has]
    have hr0 : hasB S r = false := by have := hno r hr; rw [hself] at this; simpa using this
    rw [hr0]
    refine set_ext (and_fit _ _) hfit fun x hx => ?_
    simp only [Bool.false_eq_true, if_false]
    rw [and_has _ _ x hx, not_has _ x hx]
    have := hno x hx
    revert this
    cases hasB (clsB l r) x <;> cases hasB S x <;> simp
  · have hyes : ∀ x, x < 256 → (hasB (clsB l r) x && hasB S x) = hasB (clsB l r) x := fun x hx => by rw [← and_has _ _ x hx, h]
    have hr0 : hasB S r = true := by have := hyes r hr; rw [hself] at this; simpa using this
    rw [hr0]
    simpa using h
theorem cut_cls {l : List W4} {S : W4} (hS : Fit4 S) {r : Nat} : clsB (l ++ [S]) r = andB (clsB l r) S ∨ clsB (l ++ [S]) r = andB (clsB l r) (notB S) := by
  rw [cls_snoc l S hS]
  cases hasB S r
  · rw [if_neg Bool.false_ne_true]; exact Or.inr rfl
  · rw [if_pos rfl]; exact Or.inl rfl
/-- a set that isn't empty has a byte -/
theorem some_byte {P : W4} (hP : Fit4 P) (h : P ≠ noneB) : ∃ x, x < 256 ∧ hasB P x = true :=
  Classical.byContradiction fun hn => h (set_ext hP noneB_fit fun x hx => by
    rw [noneB_has]
    cases hx' : hasB P x with
    | false => rfl
    | true => exact absurd ⟨x, hx, hx'⟩ hn)
theorem cut_both {l : List W4} {S : W4} (hS : Fit4 S) {r : Nat} (h : idleC S (clsB l r) = false) :
    (∃ x, x < 256 ∧ andB (clsB l r) S = clsB (l ++ [S]) x) ∧ ∃ x, x < 256 ∧ andB (clsB l r) (notB S) = clsB (l ++ [S]) x := by
  have hfit : Fit4 (clsB l r) := cls_fit l r
  unfold idleC at h
  rw [Bool.or_eq_false_iff, decide_eq_false_iff_not, decide_eq_false_iff_not] at h
  constructor
  · obtain ⟨x, hx, hh⟩ := some_byte (and_fit _ _) h.1
    rw [and_has _ _ x hx, Bool.and_eq_true, cls_has l r x hx] at hh
    exact ⟨x, hx, by rw [cls_snoc l S hS, hh.2, cls_same hh.1, if_pos rfl]⟩
  · have hne : andB (clsB l r) (notB S) ≠ noneB := fun e => h.2 (set_ext (and_fit _ _) hfit fun x hx => by
      have h1 : (hasB (clsB l r) x && !hasB S x) = false := by rw [← not_has S x hx, ← and_has _ _ x hx, e, noneB_has]
      rw [and_has _ _ x hx]
      revert h1
      cases hasB (clsB l r) x <;> cases hasB S x <;> simp)
    obtain ⟨x, hx, hh⟩ := some_byte (and_fit _ _) hne
    rw [and_has _ _ x hx, not_has S x hx, Bool.and_eq_true, cls_has l r x hx] at hh
    have h0 : hasB S x = false := by simpa using hh.2
    exact ⟨x, hx, by rw [cls_snoc l S hS, h0, cls_same hh.1, if_neg Bool.false_ne_true]⟩
theorem head_sub (S P : W4) (x : Nat) (hx : x < 256) (h : hasB (headC S P) x = true) : hasB P x = true := by
  unfold headC at h
  split at h
  · exact h
  · rw [and_has _ _ x hx, Bool.and_eq_true] at h; exact h.1
theorem tail_sub {S P T : W4} (hT : T ∈ tailC S P) (x : Nat) (hx : x < 256) (h : hasB T x = true) : hasB P x = true := by
  unfold tailC at hT
  split at hT
  · cases hT
  · rw [List.mem_singleton] at hT
    subst hT
    rw [and_has _ _ x hx, Bool.and_eq_true] at h; exact h.1
theorem head_tail {S P T : W4} (hT : T ∈ tailC S P) : Apart (headC S P) T := fun x hx h => by
  unfold tailC at hT
  unfold headC at h
  cases hi : idleC S P with
  | true => rw [hi] at hT; simp at hT
  | false =>
    rw [hi] at hT h
    simp only [Bool.false_eq_true, if_false, List.mem_singleton] at hT h
    subst hT
    rw [and_has _ _ x hx, Bool.and_eq_true] at h
    rw [and_has _ _ x hx, not_has _ x hx, h.2]
    simp
theorem Apart.sub {P Q P' Q' : W4} (h : Apart P Q) (hp : ∀ x, x < 256 → hasB P' x = true → hasB P x = true) (hq : ∀ x, x < 256 → hasB Q' x = true → hasB Q x = true) : Apart P' Q' := fun x hx h' => by
  have h1 := h x hx (hp x hx h')
  cases h2 : hasB Q' x with
  | false => rfl
  | true => rw [hq x hx h2] at h1; cases h1
theorem apart_of {ps : List W4} (h : ps.Pairwise Apart) {P Q : W4} (hP : P ∈ ps) (hQ : Q ∈ ps) (hne : P ≠ Q) : Apart P Q := by
  obtain ⟨i, hi, rfl⟩ := List.mem_iff_getElem.1 hP
  obtain ⟨j, hj, rfl⟩ := List.mem_iff_getElem.1 hQ
  rcases Nat.lt_trichotomy i j with h' | h' | h'
  · exact List.pairwise_iff_getElem.1 h i j hi hj h'
  · subst h'; exact absurd rfl hne
  · exact (List.pairwise_iff_getElem.1 h j i hj hi h').symm
theorem split_apart (S : W4) : ∀ ps : List W4, ps.Pairwise Apart → (splitL S ps).Pairwise Apart := fun ps h => by
  unfold splitL
  rw [List.pairwise_append]
  refine ⟨?_, ?_, ?_⟩
  · rw [List.pairwise_map]
    exact h.imp fun {P Q} hpq => hpq.sub (head_sub S P) (head_sub S Q)
  · rw [List.pairwise_flatMap]
    refine ⟨fun P _ => ?_, h.imp fun {P Q} hpq => fun T hT U hU => hpq.sub (fun x hx hh => tail_sub hT x hx hh) (fun x hx hh => tail_sub hU x hx hh)⟩
    unfold tailC
    split
    · exact List.Pairwise.nil
    · exact List.pairwise_singleton _ _
  · intro A hA B hB
    obtain ⟨P, hP, rfl⟩ := List.mem_map.1 hA
    obtain ⟨Q, hQ, hB⟩ := List.mem_flatMap.1 hB
    by_cases e : P = Q
    · subst e; exact head_tail hB
    · have : Apart P Q := apart_of h hP hQ e
      exact this.sub (head_sub S P) (tail_sub hB)
theorem Good.split {l ps : List W4} (h : Good l ps) {S : W4} (hS : Fit4 S) : Good (l ++ [S]) (splitL S ps) where
  cls := fun A hA => by
    unfold splitL at hA
    rw [List.mem_append, List.mem_map, List.mem_flatMap] at hA
    rcases hA with ⟨P, hP, rfl⟩ | ⟨P, hP, hA⟩
    · obtain ⟨r, hr, rfl⟩ := h.cls P hP
      unfold headC
      cases hi : idleC S (clsB l r) with
      | true => simp only [if_true]; exact ⟨r, hr, (idle_cls hS hr hi).symm⟩
      | false => simp only [Bool.false_eq_true, if_false]; exact (cut_both hS hi).1
    · obtain ⟨r, hr, rfl⟩ := h.cls P hP
      unfold tailC at hA
      cases hi : idleC S (clsB l r) with
      | true => rw [hi] at hA; simp at hA
      | false =>
        rw [hi] at hA
        simp only [Bool.false_eq_true, if_false, List.mem_singleton] at hA
        subst hA
        exact (cut_both hS hi).2
  all := fun r hr => by
    have hm := h.all r hr
    unfold splitL
    rw [List.mem_append, List.mem_map, List.mem_flatMap]
    cases hi : idleC S (clsB l r) with
    | true =>
      rw [idle_cls hS hr hi]
      exact Or.inl ⟨clsB l r, hm, by unfold headC; rw [hi, if_pos rfl]⟩
    | false =>
      rcases cut_cls (l := l) hS (r := r) with e | e
      · exact Or.inl ⟨clsB l r, hm, by unfold headC; rw [hi, e, if_neg Bool.false_ne_true]⟩
      · exact Or.inr ⟨clsB l r, hm, by unfold tailC; rw [hi, e, if_neg Bool.false_ne_true]; exact List.mem_singleton.2 rfl⟩
  apart := split_apart S ps h.apart

theorem Good.least {l ps : List W4} (h : Good l ps) : ∀ P ∈ ps, ∃ m : Nat, m < 256 ∧ leastB P = (m : Int) ∧ hasB P m = true := fun P hP => by
  obtain ⟨r, hr, rfl⟩ := h.cls P hP
  obtain ⟨q, hq, e⟩ := List.mem_map.1 (parts_mem l r hr)
  rw [← e]
  have hq2 := repN_lt l 256 q hq
  exact ⟨q, hq2, least_cls l q hq, by rw [cls_has l q q hq2]; exact al_refl l q⟩
/-- good parts, sorted by their least bytes: the one list -/
theorem Good.sorted {l ps qs : List W4} (h : Good l ps) (hp : qs.Perm ps) (hs : qs.Pairwise (fun P Q => leastB P ≤ leastB Q)) : qs = partsB l := by
  have ha : qs.Pairwise Apart := (hp.pairwise_iff (fun {P Q} h => h.symm)).2 h.apart
  refine parts_uniq (fun P hP => h.cls P (hp.mem_iff.1 hP)) (fun r hr => hp.mem_iff.2 (h.all r hr)) ?_
  refine (hs.and ha).imp_of_mem fun {P Q} hP hQ hpq => ?_
  obtain ⟨m, hm, em, bm⟩ := h.least P (hp.mem_iff.1 hP)
  obtain ⟨n, hn, en, bn⟩ := h.least Q (hp.mem_iff.1 hQ)
  have hle := hpq.1
  rw [em, en] at hle ⊢
  rcases Nat.lt_or_ge m n with h' | h'
  · omega
  · have e : m = n := by omega
    subst e
    rw [hpq.2 m hm bm] at bn
    cases bn
theorem Good.len {l ps : List W4} (h : Good l ps) : ps.length ≤ 256 := by
  have hp := List.mergeSort_perm ps (fun P Q => decide (leastB P ≤ leastB Q))
  have hs := List.pairwise_mergeSort (le := fun P Q => decide (leastB P ≤ leastB Q)) (fun a b c h1 h2 => by simp at *; omega) (fun a b => by simp; omega) ps
  have e := h.sorted hp (hs.imp fun h => by simpa using h)
  have hl := hp.length_eq
  rw [e] at hl
  have h2 : (partsB l).length ≤ 256 := by unfold partsB; rw [List.length_map]; exact repN_len l 256
  omega

end Go.Proofs.YtpkndedppfdekaaDoor
