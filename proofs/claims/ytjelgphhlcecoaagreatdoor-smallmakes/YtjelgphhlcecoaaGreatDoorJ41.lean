/- Parts that are split by each set in turn: what they are, and that they come, sorted, to the one list. append onto a list of one's own, in a region that draws its order: where it lies behind it, and that a list that had no room is left as it was. split of package bytes: a list of parts of the call's own, cut by one set. -/
import Derived.Test.YtjelgphhlcecoaaGreatDoorJ24
import Derived.Test.YtjelgphhlcecoaaGreatDoorJ34
import Derived.Test.YtjelgphhlcecoaaGreatDoorJ28
import Derived.Test.YtjelgphhlcecoaaGreatDoorJ40
import Derived.Test.YtjelgphhlcecoaaGreatDoorJ35
import Derived.Test.YtjelgphhlcecoaaGreatDoorJ37
import Derived.Deep.AppendLies
import Derived.Deep.RegionLaw
import Derived.Maps.AppendAt
namespace Go.Proofs.YtjelgphhlcecoaaGreatDoor

theorem and_has (S T : W4) (x : Nat) (hx : x < 256) : hasB (andB S T) x = (hasB S x && hasB T x) := by unfold andB; rw [mkB_has _ x hx]
theorem not_has (S : W4) (x : Nat) (hx : x < 256) : hasB (notB S) x = !hasB S x := by unfold notB; rw [mkB_has _ x hx]
theorem and_fit (S T : W4) : Fit4 (andB S T) := by unfold andB; exact mkB_fit _
theorem cls_fit (l : List W4) (r : Nat) : Fit4 (clsB l r) := by unfold clsB; exact mkB_fit _
attribute [local irreducible] andB notB clsB noneB hasB
/-- is a part left whole? -/
def idleQ (S P : W4) : Bool := decide (andB P S = noneB) || decide (andB P S = P)
def headQ (S P : W4) : W4 := if idleQ S P then P else andB P S
def tailQ (S P : W4) : List W4 := if idleQ S P then [] else [andB P (notB S)]
def splitL (S : W4) (l : List W4) : List W4 := l.map (headQ S) ++ l.flatMap (tailQ S)
/-- .. behind the first i of them -/
def splitI (S : W4) (l : List W4) (i : Nat) : List W4 := (l.take i).map (headQ S) ++ l.drop i ++ (l.take i).flatMap (tailQ S)
theorem splitI_zero (S : W4) (l : List W4) : splitI S l 0 = l := by simp [splitI]
theorem splitI_end (S : W4) (l : List W4) (i : Nat) (hi : l.length ≤ i) : splitI S l i = splitL S l := by
  unfold splitI splitL
  rw [List.take_of_length_le hi, List.drop_of_length_le hi, List.append_nil]
theorem splitI_idle (S : W4) (l : List W4) (i : Nat) (hi : i < l.length) (h : idleQ S l[i] = true) : splitI S l (i + 1) = splitI S l i := by
  unfold splitI
  rw [List.take_succ_eq_append_getElem hi, List.map_append, List.flatMap_append, List.drop_eq_getElem_cons hi]
  simp [headQ, tailQ, h]
theorem splitI_cut (S : W4) (l : List W4) (i : Nat) (hi : i < l.length) (h : idleQ S l[i] = false) : splitI S l (i + 1) = (splitI S l i).set i (andB l[i] S) ++ [andB l[i] (notB S)] := by
  unfold splitI
  rw [List.take_succ_eq_append_getElem hi, List.map_append, List.flatMap_append, List.drop_eq_getElem_cons hi]
  have hl : ((l.take i).map (headQ S)).length = i := by rw [List.length_map, List.length_take]; omega
  generalize List.map (headQ S) (l.take i) = A at hl ⊢
  generalize List.flatMap (tailQ S) (l.take i) = B
  have e : ((A ++ l[i] :: List.drop (i + 1) l) ++ B).set i (andB l[i] S) = (A ++ andB l[i] S :: List.drop (i + 1) l) ++ B := by
    rw [List.append_assoc, List.set_append_right _ _ (by omega), hl, Nat.sub_self, List.append_assoc]
    rfl
  rw [e]
  simp [headQ, tailQ, h]
theorem splitI_len (S : W4) (l : List W4) (i : Nat) (hi : i ≤ l.length) : l.length ≤ (splitI S l i).length := by
  unfold splitI
  simp
  omega
theorem splitI_more (S : W4) (l : List W4) : ∀ i, i ≤ l.length → (splitI S l i).length ≤ l.length + i
  | 0, _ => by rw [splitI_zero]; omega
  | i + 1, hi => by
    have ih := splitI_more S l i (by omega)
    cases h : idleQ S l[i] with
    | true => rw [splitI_idle S l i (by omega) h]; omega
    | false => rw [splitI_cut S l i (by omega) h]; simp; omega
theorem splitI_at (S : W4) (l : List W4) (i j : Nat) (hi : i ≤ j) (hj : j < l.length) : (splitI S l i)[j]? = some l[j] := by
  unfold splitI
  have hl : ((l.take i).map (headQ S)).length = i := by rw [List.length_map, List.length_take]; omega
  rw [List.append_assoc, List.getElem?_append_right (by omega), hl, List.getElem?_append_left (by rw [List.length_drop]; omega), List.getElem?_drop]
  rw [show i + (j - i) = j by omega, List.getElem?_eq_getElem hj]
theorem splitI_fit (S : W4) (l : List W4) (hl : ∀ P ∈ l, Fit4 P) (i : Nat) : ∀ P ∈ splitI S l i, Fit4 P := by
  intro P hP
  unfold splitI at hP
  rw [List.mem_append, List.mem_append, List.mem_map, List.mem_flatMap] at hP
  rcases hP with (⟨Q, hQ, rfl⟩ | hP) | ⟨Q, hQ, hP⟩
  · unfold headQ
    split
    · exact hl Q (List.mem_of_mem_take hQ)
    · exact and_fit _ _
  · exact hl P (List.mem_of_mem_drop hP)
  · unfold tailQ at hP
    split at hP
    · cases hP
    · rw [List.mem_singleton] at hP; subst hP; exact and_fit _ _

/-- no byte in two -/
def Apart (P Q : W4) : Prop := ∀ x, x < 256 → hasB P x = true → hasB Q x = false
theorem Apart.symm {P Q : W4} (h : Apart P Q) : Apart Q P := fun x hx hq => by
  cases hp : hasB P x with
  | false => rfl
  | true => rw [h x hx hp] at hq; cases hq
structure GoodP (l ps : List W4) : Prop where
  cls : ∀ P ∈ ps, ∃ r, r < 256 ∧ P = clsB l r
  all : ∀ r, r < 256 → clsB l r ∈ ps
  apart : ps.Pairwise Apart
theorem GoodP.fit {l ps : List W4} (h : GoodP l ps) : ∀ P ∈ ps, Fit4 P := fun P hP => by
  obtain ⟨r, _, rfl⟩ := h.cls P hP
  exact cls_fit _ _
theorem goodP_nil : GoodP [] [notB noneB] where
  cls := fun P hP => by rw [List.mem_singleton] at hP; subst hP; exact ⟨0, by omega, (cls_nil 0).symm⟩
  all := fun r _ => by rw [cls_nil]; exact List.mem_singleton.2 rfl
  apart := List.pairwise_singleton _ _

theorem idle_cls {l : List W4} {S : W4} (hS : Fit4 S) {r : Nat} (hr : r < 256) (h : idleQ S (clsB l r) = true) : clsB (l ++ [S]) r = clsB l r := by
  have hself : hasB (clsB l r) r = true := by rw [cls_has l r r hr]; exact al_refl l r
  have hfit : Fit4 (clsB l r) := cls_fit l r
  rw [cls_snoc l S hS]
  unfold idleQ at h
  rw [Bool.or_eq_true, decide_eq_true_iff, decide_eq_true_iff] at h
  rcases h with h | h
  · have hno : ∀ x, x < 256 → (hasB (clsB l r) x && hasB S x) = false := fun x hx => by rw [← and_has _ _ x hx, h, noneB_has]
    have hr0 : hasB S r = false := by have := hno r hr; rw [hself] at this; simpa using this
    rw [hr0]
    refine set_ext (and_fit _ _) hfit fun x hx => ?_
    simp only [Bool.false_eq_true, if_false]
    rw [and_has _ _ x hx, not_has _ x hx]
    have := hno x hx
    revert this
    cases hasB (clsB l r) x <;> cases hasB S x <;> simp
  · have hyes : ∀ x, x < 256 → (hasB (clsB l r) x && hasB S x) = hasB (clsB l r) x := fun x hx => by rw [← and_has _ _ x hx, h]
    have hr0 : hasB S r = true := by have := hyes r hr; rw [hself] at this; simpa using this
    rw [hr0]
    simpa using h
theorem cut_cls {l : List W4} {S : W4} (hS : Fit4 S) {r : Nat} : clsB (l ++ [S]) r = andB (clsB l r) S ∨ clsB (l ++ [S]) r = andB (clsB l r) (notB S) := by
  rw [cls_snoc l S hS]
  cases hasB S r
  · rw [if_neg Bool.false_ne_true]; exact Or.inr rfl
  · rw [if_pos rfl]; exact Or.inl rfl
/-- a set that isn't empty has a byte -/
theorem some_byte {P : W4} (hP : Fit4 P) (h : P ≠ noneB) : ∃ x, x < 256 ∧ hasB P x = true :=
  Classical.byContradiction fun hn => h (set_ext hP noneB_fit fun x hx => by
    rw [noneB_has]
    cases hx' : hasB P x with
    | false => rfl
    | true => exact absurd ⟨x, hx, hx'⟩ hn)
theorem cut_both {l : List W4} {S : W4} (hS : Fit4 S) {r : Nat} (h : idleQ S (clsB l r) = false) :
    (∃ x, x < 256 ∧ andB (clsB l r) S = clsB (l ++ [S]) x) ∧ ∃ x, x < 256 ∧ andB (clsB l r) (notB S) = clsB (l ++ [S]) x := by
  have hfit : Fit4 (clsB l r) := cls_fit l r
  unfold idleQ at h
  rw [Bool.or_eq_false_iff, decide_eq_false_iff_not, decide_eq_false_iff_not] at h
  constructor
  · obtain ⟨x, hx, hh⟩ := some_byte (and_fit _ _) h.1
    rw [and_has _ _ x hx, Bool.and_eq_true, cls_has l r x hx] at hh
    exact ⟨x, hx, by rw [cls_snoc l S hS, hh.2, cls_same hh.1, if_pos rfl]⟩
  · have hne : andB (clsB l r) (notB S) ≠ noneB := fun e => h.2 (set_ext (and_fit _ _) hfit fun x hx => by
      have h1 : (hasB (clsB l r) x && !hasB S x) = false := by rw [← not_has S x hx, ← and_has _ _ x hx, e, noneB_has]
      rw [and_has _ _ x hx]
      revert h1
      cases hasB (clsB l r) x <;> cases hasB S x <;> simp)
    obtain ⟨x, hx, hh⟩ := some_byte (and_fit _ _) hne
    rw [and_has _ _ x hx, not_has S x hx, Bool.and_eq_true, cls_has l r x hx] at hh
    have h0 : hasB S x = false := by simpa using hh.2
    exact ⟨x, hx, by rw [cls_snoc l S hS, h0, cls_same hh.1, if_neg Bool.false_ne_true]⟩
theorem head_sub (S P : W4) (x : Nat) (hx : x < 256) (h : hasB (headQ S P) x = true) : hasB P x = true := by
  unfold headQ at h
  split at h
  · exact h
  · rw [and_has _ _ x hx, Bool.and_eq_true] at h; exact h.1
theorem tail_sub {S P T : W4} (hT : T ∈ tailQ S P) (x : Nat) (hx : x < 256) (h : hasB T x = true) : hasB P x = true := by
  unfold tailQ at hT
  split at hT
  · cases hT
  · rw [List.mem_singleton] at hT
    subst hT
    rw [and_has _ _ x hx, Bool.and_eq_true] at h; exact h.1
theorem head_tail {S P T : W4} (hT : T ∈ tailQ S P) : Apart (headQ S P) T := fun x hx h => by
  unfold tailQ at hT
  unfold headQ at h
  cases hi : idleQ S P with
  | true => rw [hi] at hT; simp at hT
  | false =>
    rw [hi] at hT h
    simp only [Bool.false_eq_true, if_false, List.mem_singleton] at hT h
    subst hT
    rw [and_has _ _ x hx, Bool.and_eq_true] at h
    rw [and_has _ _ x hx, not_has _ x hx, h.2]
    simp
theorem Apart.sub {P Q P' Q' : W4} (h : Apart P Q) (hp : ∀ x, x < 256 → hasB P' x = true → hasB P x = true) (hq : ∀ x, x < 256 → hasB Q' x = true → hasB Q x = true) : Apart P' Q' := fun x hx h' => by
  have h1 := h x hx (hp x hx h')
  cases h2 : hasB Q' x with
  | false => rfl
  | true => rw [hq x hx h2] at h1; cases h1
theorem apart_of {ps : List W4} (h : ps.Pairwise Apart) {P Q : W4} (hP : P ∈ ps) (hQ : Q ∈ ps) (hne : P ≠ Q) : Apart P Q := by
  obtain ⟨i, hi, rfl⟩ := List.mem_iff_getElem.1 hP
  obtain ⟨j, hj, rfl⟩ := List.mem_iff_getElem.1 hQ
  rcases Nat.lt_trichotomy i j with h' | h' | h'
  · exact List.pairwise_iff_getElem.1 h i j hi hj h'
  · subst h'; exact absurd rfl hne
  · exact (List.pairwise_iff_getElem.1 h j i hj hi h').symm
theorem split_apart (S : W4) : ∀ ps : List W4, ps.Pairwise Apart → (splitL S ps).Pairwise Apart := fun ps h => by
  unfold splitL
  rw [List.pairwise_append]
  refine ⟨?_, ?_, ?_⟩
  · rw [List.pairwise_map]
    exact h.imp fun {P Q} hpq => hpq.sub (head_sub S P) (head_sub S Q)
  · rw [List.pairwise_flatMap]
    refine ⟨fun P _ => ?_, h.imp fun {P Q} hpq => fun T hT U hU => hpq.sub (fun x hx hh => tail_sub hT x hx hh) (fun x hx hh => tail_sub hU x hx hh)⟩
    unfold tailQ
    split
    · exact List.Pairwise.nil
    · exact List.pairwise_singleton _ _
  · intro A hA B hB
    obtain ⟨P, hP, rfl⟩ := List.mem_map.1 hA
    obtain ⟨Q, hQ, hB⟩ := List.mem_flatMap.1 hB
    by_cases e : P = Q
    · subst e; exact head_tail hB
    · have : Apart P Q := apart_of h hP hQ e
      exact this.sub (head_sub S P) (tail_sub hB)
theorem GoodP.split {l ps : List W4} (h : GoodP l ps) {S : W4} (hS : Fit4 S) : GoodP (l ++ [S]) (splitL S ps) where
  cls := fun A hA => by
    unfold splitL at hA
    rw [List.mem_append, List.mem_map, List.mem_flatMap] at hA
    rcases hA with ⟨P, hP, rfl⟩ | ⟨P, hP, hA⟩
    · obtain ⟨r, hr, rfl⟩ := h.cls P hP
      unfold headQ
      cases hi : idleQ S (clsB l r) with
      | true => simp only [if_true]; exact ⟨r, hr, (idle_cls hS hr hi).symm⟩
      | false => simp only [Bool.false_eq_true, if_false]; exact (cut_both hS hi).1
    · obtain ⟨r, hr, rfl⟩ := h.cls P hP
      unfold tailQ at hA
      cases hi : idleQ S (clsB l r) with
      | true => rw [hi] at hA; simp at hA
      | false =>
        rw [hi] at hA
        simp only [Bool.false_eq_true, if_false, List.mem_singleton] at hA
        subst hA
        exact (cut_both hS hi).2
  all := fun r hr => by
    have hm := h.all r hr
    unfold splitL
    rw [List.mem_append, List.mem_map, List.mem_flatMap]
    cases hi : idleQ S (clsB l r) with
    | true =>
      rw [idle_cls hS hr hi]
      exact Or.inl ⟨clsB l r, hm, by unfold headQ; rw [hi, if_pos rfl]⟩
    | false =>
      rcases cut_cls (l := l) hS (r := r) with e | e
      · exact Or.inl ⟨clsB l r, hm, by unfold headQ; rw [hi, e, if_neg Bool.false_ne_true]⟩
      · exact Or.inr ⟨clsB l r, hm, by unfold tailQ; rw [hi, e, if_neg Bool.false_ne_true]; exact List.mem_singleton.2 rfl⟩
  apart := split_apart S ps h.apart

theorem GoodP.least {l ps : List W4} (h : GoodP l ps) : ∀ P ∈ ps, ∃ m : Nat, m < 256 ∧ leastB P = (m : Int) ∧ hasB P m = true := fun P hP => by
  obtain ⟨r, hr, rfl⟩ := h.cls P hP
  obtain ⟨q, hq, e⟩ := List.mem_map.1 (parts_mem l r hr)
  rw [← e]
  have hq2 := repN_lt l 256 q hq
  exact ⟨q, hq2, least_cls l q hq, by rw [cls_has l q q hq2]; exact al_refl l q⟩
/-- good parts, sorted by their least bytes: the one list -/
theorem GoodP.sorted {l ps qs : List W4} (h : GoodP l ps) (hp : qs.Perm ps) (hs : qs.Pairwise (fun P Q => leastB P ≤ leastB Q)) : qs = partsB l := by
  have ha : qs.Pairwise Apart := (hp.pairwise_iff (fun {P Q} h => h.symm)).2 h.apart
  refine parts_uniq (fun P hP => h.cls P (hp.mem_iff.1 hP)) (fun r hr => hp.mem_iff.2 (h.all r hr)) ?_
  refine (hs.and ha).imp_of_mem fun {P Q} hP hQ hpq => ?_
  obtain ⟨m, hm, em, bm⟩ := h.least P (hp.mem_iff.1 hP)
  obtain ⟨n, hn, en, bn⟩ := h.least Q (hp.mem_iff.1 hQ)
  have hle := hpq.1
  rw [em, en] at hle ⊢
  rcases Nat.lt_or_ge m n with h' | h'
  · omega
  · have e : m = n := by omega
    subst e
    rw [hpq.2 m hm bm] at bn
    cases bn
theorem GoodP.len {l ps : List W4} (h : GoodP l ps) : ps.length ≤ 256 := by
  have hp := List.mergeSort_perm ps (fun P Q => decide (leastB P ≤ leastB Q))
  have hs := List.pairwise_mergeSort (le := fun P Q => decide (leastB P ≤ leastB Q)) (fun a b c h1 h2 => by simp at *; omega) (fun a b => by simp; omega) ps
  have e := h.sorted hp (hs.imp fun h => by simpa using h)
  have hl := hp.length_eq
  rw [e] at hl
  have h2 : (partsB l).length ≤ 256 := by unfold partsB; rw [List.length_map]; exact repN_len l 256
  omega

end Go.Proofs.YtjelgphhlcecoaaGreatDoor
namespace Go.Proofs.YtjelgphhlcecoaaGreatDoor
open Go.RowKit

theorem run_append_seen {P : Program} (w : World) (t ty : TypeId) (base : Nat) (e : TypeId) (i : TypeInfo) (z : Value) (size bytes : Nat) (ht : P.underlying t = some (.slice e)) (hi : P.info? e = some i) (hz : i.zero = some z)
    (hsize : i.size = size) (hby : i.bytes = bytes) (hzs : z.cells.size = size) (hsz : 0 < size)
    (g n cap : Nat) (xs : List Value) (hown : w.ownsRow base e size (.slice (some ⟨g, 0, none⟩) n cap) n xs)
    (ad : Addr) (m c : Nat) (news : List Value) (hl : news.length = m * size) (hnews : ∀ j u, news[j]? = some u → w.cell? (ad.add j) = some u) (h1 : ∀ u ∈ news, u.oneCell' = true)
    (_hm : 0 < m) (h63 : n + m ≤ maxLen) (hbytes : (n + m) * bytes ≤ 140737488355328) (hbase : base ≤ w.heap.size) :
    ∃ q' c' w', (Builtin.append_ #[t, t] ty #[.slice (some ⟨g, 0, none⟩) n cap, .slice (some ad) m c]).run P w = .ok (.slice (some ⟨q', 0, none⟩) (n + m) c') w' ∧
      w'.ownsRow base e size (.slice (some ⟨q', 0, none⟩) (n + m) c') (n + m) (xs ++ news) ∧ w.grownBy w' (some g) ∧ (q' = g ∨ (q' = w.heap.size ∧ w'.heap[g]? = w.heap[g]?)) := by
  obtain ⟨v', w', hr, h2, h3, h4, h5⟩ := run_append_own_at (P := P) w base t ty e i z size bytes ht hi hz hsize hby hzs hsz _ n xs hown ad m c news hl hnews h1 h63 hbytes hbase
  have hne : v' ≠ .slice none 0 0 := fun e => by have := (h4.1 e).1; cases this
  obtain ⟨q', c', rfl⟩ : ∃ q' c', v' = .slice (some ⟨q', 0, none⟩) (n + m) c' := by
    rcases h2.2 with ⟨e, _⟩ | ⟨g', cap', cur', rfl, _⟩
    · exact absurd e hne
    · exact ⟨_, _, rfl⟩
  refine ⟨q', c', w', hr, h2, h3, ?_⟩
  have hlt := (hown.lt g rfl).2
  have holds : ∀ j u, xs[j]? = some u → w.cell? ((⟨g, 0, none⟩ : Addr).add j) = some u := hown.cells (g := g) rfl
  rcases h5 with h5 | h5
  · left; simpa [Value.ownBlock] using h5
  · rcases hown.2 with ⟨e', _⟩ | ⟨g', cap', cur, e', _, hg, _, _, hcs, _⟩
    · cases e'
    · injection e' with e1 _ e3
      injection e1 with e1
      injection e1 with e1
      subst e1; subst e3
      subst hsize
      subst hby
      by_cases hroom : n + m ≤ cap
      · left
        have hfit : n * i.size + news.length ≤ cur.size := by rw [hl, hcs, ← Nat.add_mul]; exact Nat.mul_le_mul_right _ hroom
        have hr' := run_append_room (P := P) w t ty e i ht hi g n cap cur hg ad m c news hl hnews h1 hroom hfit
        rw [hr'] at hr
        injection hr with hr _
        injection hr with hr _
        injection hr with hr
        injection hr with hr
        exact hr.symm
      · right
        refine ⟨by simpa [Value.ownBlock] using h5, ?_⟩
        have hsmall : n + m ≤ 9223372036854775807 := by simp only [maxLen] at h63; omega
        have hr' := run_append_grow (P := P) w t ty e i z ht hi hz ⟨g, 0, none⟩ n cap xs hown.1 holds ad m c news hl hnews (by omega) (by omega) (growslice_fits (by omega) hbytes)
        rw [hr'] at hr
        injection hr with _ hw
        rw [← hw]
        exact heap_alloc_old w.drew _ hlt

theorem step_append_seen {P : Program} {w : World} {ops : Array Oper} {o : Oper} {a : Act} {K : Act → World → Prop} {Q : Exit → Act → World → Prop} {E : Prop} (hgd : o.guard = none) (s x : Operand) (t : TypeId)
    (ho : o.op = .call { callee := .builtin .append, args := #[s, x], argTypes := #[t, t] })
    (base : Nat) (e : TypeId) (i : TypeInfo) (z : Value) (size bytes : Nat) (ht : P.underlying t = some (.slice e)) (hi : P.info? e = some i) (hz : i.zero = some z)
    (hsize : i.size = size) (hby : i.bytes = bytes) (hzs : z.cells.size = size) (hsz : 0 < size)
    (g n cap : Nat) (xs : List Value) (hs : a.eval s = .slice (some ⟨g, 0, none⟩) n cap) (hown : w.ownsRow base e size (.slice (some ⟨g, 0, none⟩) n cap) n xs)
    (ad : Addr) (m c : Nat) (news : List Value) (hx : a.eval x = .slice (some ad) m c) (hl : news.length = m * size) (hnews : ∀ j u, news[j]? = some u → w.cell? (ad.add j) = some u) (h1 : ∀ u ∈ news, u.oneCell' = true)
    (hm : 0 < m) (h63 : n + m ≤ maxLen) (hbytes : (n + m) * bytes ≤ 140737488355328) (hbase : base ≤ w.heap.size)
    (h : ∀ q' c' w', w'.ownsRow base e size (.slice (some ⟨q', 0, none⟩) (n + m) c') (n + m) (xs ++ news) → w.grownBy w' (some g) → (q' = g ∨ (q' = w.heap.size ∧ w'.heap[g]? = w.heap[g]?)) → K (a.put o.dst (.slice (some ⟨q', 0, none⟩) (n + m) c')) w') :
    if Region.wanted o (yielded ops a.tmps) = true then Oper.wp P o a w K Q else E := by
  have hw : Region.wanted o (yielded ops a.tmps) = true := by simp [Region.wanted, hgd]
  rw [if_pos hw]
  obtain ⟨q', c', w', hr, h2, h3, h4⟩ := run_append_seen (P := P) w t o.type base e i z size bytes ht hi hz hsize hby hzs hsz g n cap xs hown ad m c news hl hnews h1 hm h63 hbytes hbase
  unfold Oper.wp execOp
  simp only [ho, resolve, invoke, builtin, Sem.run_bind, Sem.run_pure, Result.andThen_ok, List.map_toArray, List.map_cons, List.map_nil, hs, hx, hr]
  exact h q' c' w' h2 h3 h4


end Go.Proofs.YtjelgphhlcecoaaGreatDoor
namespace Go.Proofs.YtjelgphhlcecoaaGreatDoor
open Go.RowKit

set_option maxRecDepth 20000 in
theorem hasW (S : W4) (x : Nat) (u : World) (hS : Fit4 S) (hx : x < 256) : Calls Tryz.prog 56 #[valB S, .int .u8 (x : Int)] u fun e w' => e = .returned (.bool (hasB S x)) ∧ Below u.heap.size u w' := hasC' S.a S.b S.c S.d x u hS hx
set_option maxRecDepth 20000 in
theorem orW (S T : W4) (u : World) (hS : Fit4 S) (hT : Fit4 T) : Calls Tryz.prog 114 #[valB S, valB T] u fun e w' => e = .returned (valB (orB S T)) ∧ Below u.heap.size u w' := orC S.a S.b S.c S.d T.a T.b T.c T.d u hS hT
set_option maxRecDepth 20000 in
theorem andW (S T : W4) (u : World) (hS : Fit4 S) (hT : Fit4 T) : Calls Tryz.prog 69 #[valB S, valB T] u fun e w' => e = .returned (valB (andB S T)) ∧ Below u.heap.size u w' := andC S.a S.b S.c S.d T.a T.b T.c T.d u hS hT
set_option maxRecDepth 20000 in
theorem notW (S : W4) (u : World) (hS : Fit4 S) : Calls Tryz.prog 50 #[valB S] u fun e w' => e = .returned (valB (notB S)) ∧ Below u.heap.size u w' := notC S.a S.b S.c S.d u hS
set_option maxRecDepth 20000 in
theorem leastW (S : W4) (u : World) (hS : Fit4 S) (hT : Tab u) : Calls Tryz.prog 54 #[valB S] u fun e w' => e = .returned (.int .i64 (leastB S)) ∧ Below u.heap.size u w' := leastC S.a S.b S.c S.d u hS hT

theorem flatS_set : ∀ (l : List W4) (k : Nat) (S : W4), k < l.length → flatS (l.set k S) = ((((flatS l).set (k * 4) (.int .u64 (S.a : Int))).set (k * 4 + 1) (.int .u64 (S.b : Int))).set (k * 4 + 2) (.int .u64 (S.c : Int))).set (k * 4 + 3) (.int .u64 (S.d : Int))
  | T :: t, 0, S, _ => by simp [flatS]
  | T :: t, k + 1, S, hk => by
    have ih := flatS_set t k S (by simpa using hk)
    rw [List.set_cons_succ]
    unfold flatS at ih ⊢
    rw [List.flatMap_cons, ih, List.flatMap_cons]
    rw [show (k + 1) * 4 + 1 = k * 4 + 1 + 4 by omega, show (k + 1) * 4 + 2 = k * 4 + 2 + 4 by omega, show (k + 1) * 4 + 3 = k * 4 + 3 + 4 by omega, show (k + 1) * 4 = k * 4 + 4 by omega]
    rfl
/-- a set stored into a list of one's own -/
def putK (w : World) (q k : Nat) (S : W4) : World := (((w.setCell ⟨q, k * 4, none⟩ (.int .u64 (S.a : Int))).setCell ⟨q, k * 4 + 1, none⟩ (.int .u64 (S.b : Int))).setCell ⟨q, k * 4 + 2, none⟩ (.int .u64 (S.c : Int))).setCell ⟨q, k * 4 + 3, none⟩ (.int .u64 (S.d : Int))
theorem OwnS.put {w : World} {B q c k : Nat} {l : List W4} (S : W4) (h : OwnS w B (.slice (some ⟨q, 0, none⟩) l.length c) l) (hk : k < l.length) : OwnS (putK w q k S) B (.slice (some ⟨q, 0, none⟩) l.length c) (l.set k S) := by
  have h1 := (h.stored (k * 4) (.int .u64 (S.a : Int))).1
  have h2 := (h1.stored (k * 4 + 1) (.int .u64 (S.b : Int))).1
  have h3 := (h2.stored (k * 4 + 2) (.int .u64 (S.c : Int))).1
  have h4 := (h3.stored (k * 4 + 3) (.int .u64 (S.d : Int))).1
  unfold OwnS
  rw [flatS_set l k S hk, List.length_set]
  exact h4
theorem bl_putK {B : Nat} {u w : World} (h : Below B u w) {q : Nat} (k : Nat) (S : W4) (hb : B ≤ q) : Below B u (putK w q k S) := bl_set (bl_set (bl_set (bl_set h _ _ _ hb) _ _ _ hb) _ _ _ hb) _ _ _ hb
theorem putK_block (w : World) (q k b : Nat) (S : W4) (hb : b ≠ q) : (putK w q k S).heap[b]? = w.heap[b]? := by
  unfold putK
  rw [Below.heap_setCell _ _ _ _ (by simpa using hb), Below.heap_setCell _ _ _ _ (by simpa using hb), Below.heap_setCell _ _ _ _ (by simpa using hb), Below.heap_setCell _ _ _ _ (by simpa using hb)]

theorem putK_at {w : World} {q k g j : Nat} {T : W4} (S : W4) (h : At4 w g (j * 4) T) (hne : q = g → j ≠ k) : At4 (putK w q k S) g (j * 4) T := by
  have key : ∀ (u : World) (a b : Nat) (v : Value), a < 4 → b < 4 → (u.setCell ⟨q, k * 4 + a, none⟩ v).cell? ⟨g, j * 4 + b, none⟩ = u.cell? ⟨g, j * 4 + b, none⟩ := fun u a b v ha hb => World.cell?_setCell_other _ _ _ _ (by
    intro e
    injection e with e1 e2
    have := hne e1
    omega)
  refine at4_of fun i hi => ?_
  have h' := h.word i hi
  unfold putK
  rw [key _ 3 i _ (by omega) hi, key _ 2 i _ (by omega) hi, key _ 1 i _ (by omega) hi]
  have := key w 0 i (.int .u64 (S.a : Int)) (by omega) hi
  rw [Nat.add_zero] at this
  rw [this]
  exact h'
theorem At4.blk {w w' : World} {g o : Nat} {T : W4} (h : At4 w g o T) (hb : w'.heap[g]? = w.heap[g]?) : At4 w' g o T := at4_of fun i hi => (World.cell?_of_block (a := ⟨g, o + i, none⟩) hb).trans (h.word i hi)
theorem At4.lt {w : World} {g o : Nat} {T : W4} (h : At4 w g o T) : g < w.heap.size := World.block_lt_of_cell? w _ h.1
theorem bl_stepB {B : Nat} {w u w1 : World} (hB : B ≤ w.heap.size) (h : Below B w u) (hb : Below u.heap.size u w1) : Below B w w1 := h.trans (hb.mono (Nat.le_trans hB h.size))
/-- an own list's sets, each where it lies -/
theorem OwnS.at {w : World} {B q c n : Nat} {l : List W4} (h : OwnS w B (.slice (some ⟨q, 0, none⟩) n c) l) {j : Nat} {T : W4} (hj : l[j]? = some T) : At4 w q (j * 4) T := by
  have hlt : j < l.length := by
    rcases Nat.lt_or_ge j l.length with h' | h'
    · exact h'
    · rw [List.getElem?_eq_none h'] at hj; cases hj
  rw [List.getElem?_eq_getElem hlt] at hj
  injection hj with hj
  refine at4_of fun i hi => ?_
  have := h.cells rfl (j * 4 + i) _ (flatS_atW l j i hlt hi)
  rw [Go.WideShapes.add_plain] at this
  rw [← hj]
  simpa using this
theorem OwnS.free {w : World} {B q c n : Nat} {l : List W4} (h : OwnS w B (.slice (some ⟨q, 0, none⟩) n c) l) (hn : n = l.length) (o : Nat) : w.frozen? ⟨q, o, none⟩ = false := by
  subst hn
  exact h.frozenAt o

set_option maxRecDepth 20000 in
set_option maxHeartbeats 8000000 in
theorem splitC (v : Value) (l : List W4) (sa sb sc sd : Nat) (w : World) (B : Nat) (hB : B ≤ w.heap.size) (hl0 : 0 < l.length) (hl : l.length ≤ 256) (hf : ∀ P ∈ l, Fit4 P) (hS : Fit4 ⟨sa, sb, sc, sd⟩) (hA : OwnS w B v l) :
    Calls Tryz.prog 51 #[v, valB ⟨sa, sb, sc, sd⟩] w fun e w' => ∃ v', e = .returned v' ∧ OwnS w' B v' (splitL ⟨sa, sb, sc, sd⟩ l) ∧ Below B w w' := by
  obtain ⟨i0, hi, hz0, hz1, hz2⟩ := info_parts Tryz.info97
  have hv0 : v ≠ .slice none 0 0 := by
    intro e
    rcases hA.2 with ⟨_, h0⟩ | ⟨g, cap, cur, rfl, _⟩
    · omega
    · cases e
  obtain ⟨g, cap, rfl, hBg, hglt⟩ : ∃ g cap, v = .slice (some ⟨g, 0, none⟩) l.length cap ∧ B ≤ g ∧ g < w.heap.size := by
    rcases hA.2 with ⟨e, _⟩ | ⟨g, cap, cur, rfl, _⟩
    · exact absurd e hv0
    · exact ⟨g, cap, rfl, (hA.lt g rfl).1, (hA.lt g rfl).2⟩
  have hA0 : Hid (∀ j (hj : j < l.length), At4 w g (j * 4) l[j]) := hid (fun j hj => at4_of fun i hi => by
    have := hA.cells rfl (j * 4 + i) _ (flatS_atW l j i hj hi)
    rw [Go.WideShapes.add_plain] at this
    simpa using this)
  have hF := hid hf
  have GA : Hid (∀ P u, Fit4 P → Calls Tryz.prog 69 #[valB P, .agg #[.int .u64 (sa : Int), .int .u64 (sb : Int), .int .u64 (sc : Int), .int .u64 (sd : Int)]] u fun e w' => e = .returned (valB (andB P ⟨sa, sb, sc, sd⟩)) ∧ Below u.heap.size u w') := hid (fun P u hP => andW P ⟨sa, sb, sc, sd⟩ u hP hS)
  have GN : Hid (∀ u, Calls Tryz.prog 50 #[.agg #[.int .u64 (sa : Int), .int .u64 (sb : Int), .int .u64 (sc : Int), .int .u64 (sd : Int)]] u fun e w' => e = .returned (valB (notB ⟨sa, sb, sc, sd⟩)) ∧ Below u.heap.size u w') := hid (fun u => notW ⟨sa, sb, sc, sd⟩ u hS)
  have GC : Hid (∀ P u, Fit4 P → Calls Tryz.prog 69 #[valB P, valB (notB ⟨sa, sb, sc, sd⟩)] u fun e w' => e = .returned (valB (andB P (notB ⟨sa, sb, sc, sd⟩))) ∧ Below u.heap.size u w') := hid (fun P u hP => andW P (notB ⟨sa, sb, sc, sd⟩) u hP (not_fit _))
  have hidle := hid (fun i hi h => splitI_idle ⟨sa, sb, sc, sd⟩ l i hi h)
  have hcut := hid (fun i hi h => splitI_cut ⟨sa, sb, sc, sd⟩ l i hi h)
  have hlen := hid (fun i hi => splitI_len ⟨sa, sb, sc, sd⟩ l i hi)
  have hmore := hid (fun i hi => splitI_more ⟨sa, sb, sc, sd⟩ l i hi)
  have hend := hid (fun i hi => splitI_end ⟨sa, sb, sc, sd⟩ l i hi)
  have hzero := hid (splitI_zero ⟨sa, sb, sc, sd⟩ l)
  have hxat := hid (fun i j hi hj => splitI_at ⟨sa, sb, sc, sd⟩ l i j hi hj)
  obtain ⟨X, hX⟩ : ∃ X : Nat → List W4, Hid (X = splitI ⟨sa, sb, sc, sd⟩ l) := ⟨_, hid rfl⟩
  rw [← hX.out] at hidle hcut hlen hmore hend hzero hxat
  generalize splitL ⟨sa, sb, sc, sd⟩ l = R at hend ⊢
  have hAz : OwnS w B (.slice (some ⟨g, 0, none⟩) (X 0).length cap) (X 0) := by rw [hzero.out]; exact hA
  have hAz := hid hAz
  have hl00 : (X 0).length = l.length := by rw [hzero.out]
  have hbd0 : Below w.heap.size w ((w.alloc (.cells #[.int .u64 (sa : Int), .int .u64 (sb : Int), .int .u64 (sc : Int), .int .u64 (sd : Int)] 97)).alloc (.cells #[.int .u64 0, .int .u64 0, .int .u64 0, .int .u64 0] 97)) := bl_step (al' w _) (al' _ _)
  clear hX hv0 hA hf hS hzero
  go_enter Tryz.func51, Tryz.ntmps51
  go_wp2
  go_loopw [0, 11] (fun o i wr => ∃ k q c : Nat, k ≤ l.length ∧ i = .int .i64 k ∧ o = .slice (some ⟨q, 0, none⟩) (X k).length c ∧ Hid (OwnS wr B (.slice (some ⟨q, 0, none⟩) (X k).length c) (X k)) ∧ (q = g ∨ w.heap.size + 2 ≤ q) ∧ Hid (∀ j (hj : j < l.length), k ≤ j → At4 wr g (j * 4) l[j]) ∧ Hid (Blk wr w.heap.size ⟨sa, sb, sc, sd⟩) ∧ Hid (Blk wr (w.heap.size + 1) noneB) ∧ Below B w wr) (fun _ i _ => l.length - (intOf i).toNat)
  case atStart => exact ⟨0, g, cap, Nat.zero_le _, rfl, by rw [hl00], hid (own_below hAz.out hbd0), Or.inl rfl, hid (fun j hj _ => (hA0.out j hj).keep hbd0), hid (two_blocks w _ _).1, hid (two_blocks w _ _).2, hbd0.mono hB⟩
  case round =>
    obtain ⟨k, q, c, hk, rfl, rfl, hO, hq, hat, bS, bZ, hbl⟩ := hrel
    by_cases hlt : k < l.length
    · have hltz : (k : Int) < (l.length : Int) := by omega
      have hPf := hid (hF.out _ (List.getElem_mem hlt))
      obtain ⟨d0, d1, d2, d3⟩ := hat.out k hlt (Nat.le_refl _)
      have hid1 := hid (hidle.out k hlt)
      have hcut1 := hid (hcut.out k hlt)
      generalize l[k] = P at hPf d0 d1 d2 d3 hid1 hcut1
      have GA0 := hid (fun u => GA.out P u hPf.out)
      have GC0 := hid (fun u => GC.out P u hPf.out)
      unfold idleQ at hid1 hcut1
      generalize andB P ⟨sa, sb, sc, sd⟩ = I at GA0 hid1 hcut1
      generalize andB P (notB ⟨sa, sb, sc, sd⟩) = J at GC0 hcut1
      generalize notB ⟨sa, sb, sc, sd⟩ = N at GN GC GC0 hcut
      obtain ⟨pa, pb, pc, pd⟩ := P
      obtain ⟨ia, ib, ic, ie⟩ := I
      obtain ⟨ja, jb, jc, jd⟩ := J
      obtain ⟨na, nb, nc, nd⟩ := N
      simp only at d0 d1 d2 d3
      have hal := al' wr (.cells #[.int .u64 (pa : Int), .int .u64 (pb : Int), .int .u64 (pc : Int), .int .u64 (pd : Int)] 97)
      have bP1 : Hid (Blk (wr.alloc (.cells #[.int .u64 (pa : Int), .int .u64 (pb : Int), .int .u64 (pc : Int), .int .u64 (pd : Int)] 97)) wr.heap.size ⟨pa, pb, pc, pd⟩) := hid (heap_new wr _)
      have bS1 := hid (bS.out.keep hal)
      have bZ1 := hid (bZ.out.keep hal)
      have hO1 := hid (own_below hO.out hal)
      have hat1 := hid (fun j hj hkj => (hat.out j hj hkj).keep hal)
      have hbl1 := bl_stepB hB hbl hal
      have hqlt := (hO.out.lt q rfl).2
      have hqB := (hO.out.lt q rfl).1
      obtain ⟨e0, e1, e2, e3, e4, e5, e6, e7⟩ := bS1.out.cells
      have hgt := Tryz.eqGuardType97
      by_cases c1 : (⟨ia, ib, ic, ie⟩ : W4) = noneB
      · have hstep : X (k + 1) = X k := hid1.out (by rw [decide_eq_true c1]; rfl)
        have he : ∀ u, (Op.equalIn 10000 97 (.agg #[.int .u64 (ia : Int), .int .u64 (ib : Int), .int .u64 (ic : Int), .int .u64 (ie : Int)]) (.agg #[.int .u64 0, .int .u64 0, .int .u64 0, .int .u64 0])).run Tryz.prog u = .ok true u := fun u => (equal4 9998 ia ib ic ie 0 0 0 0 u).trans (by rw [decide_eq_true (show (⟨ia, ib, ic, ie⟩ : W4) = ⟨0, 0, 0, 0⟩ from c1)])
        have hstep := hid hstep
        clear c1 hid1 hcut1 hcut hidle GC0 GC
        go_wp2_with (go_at_call 69; refine (GA0.out _).mono ?_; rintro e w1 ⟨rfl, hb1⟩; have bP2 := hid ((bP1.out.keep hb1).keep (al' w1 (.cells #[.int .u64 (ia : Int), .int .u64 (ib : Int), .int .u64 (ic : Int), .int .u64 (ie : Int)] 97))); have bS2 := hid ((bS1.out.keep hb1).keep (al' w1 (.cells #[.int .u64 (ia : Int), .int .u64 (ib : Int), .int .u64 (ic : Int), .int .u64 (ie : Int)] 97))); have bZ2 := hid ((bZ1.out.keep hb1).keep (al' w1 (.cells #[.int .u64 (ia : Int), .int .u64 (ib : Int), .int .u64 (ic : Int), .int .u64 (ie : Int)] 97))); obtain ⟨f0, f1, f2, f3, f4, f5, f6, f7⟩ := bP2.out.cells; obtain ⟨z0, z1, z2, z3, z4, z5, z6, z7⟩ := Blk.cells (sa := 0) (sb := 0) (sc := 0) (sd := 0) bZ2.out)
        have hal2 := al' w1 (.cells #[.int .u64 (ia : Int), .int .u64 (ib : Int), .int .u64 (ic : Int), .int .u64 (ie : Int)] 97)
        exact ⟨⟨k + 1, q, c, by omega, by go_num, by rw [hstep.out], by rw [hstep.out]; exact hid (own_below (own_below hO1.out hb1) hal2), hq, hid (fun j hj hkj => ((hat1.out j hj (by omega)).keep hb1).keep hal2), bS2, bZ2, bl_stepB hB (bl_stepB hB hbl1 hb1) hal2⟩, by simp [intOf]; omega⟩
      · have he : ∀ u, (Op.equalIn 10000 97 (.agg #[.int .u64 (ia : Int), .int .u64 (ib : Int), .int .u64 (ic : Int), .int .u64 (ie : Int)]) (.agg #[.int .u64 0, .int .u64 0, .int .u64 0, .int .u64 0])).run Tryz.prog u = .ok false u := fun u => (equal4 9998 ia ib ic ie 0 0 0 0 u).trans (by rw [decide_eq_false (show ¬ (⟨ia, ib, ic, ie⟩ : W4) = ⟨0, 0, 0, 0⟩ from c1)])
        by_cases c2 : (⟨ia, ib, ic, ie⟩ : W4) = ⟨pa, pb, pc, pd⟩
        · have hstep : X (k + 1) = X k := hid1.out (by rw [decide_eq_true c2, Bool.or_true])
          have he2 : ∀ u, (Op.equalIn 10000 97 (.agg #[.int .u64 (ia : Int), .int .u64 (ib : Int), .int .u64 (ic : Int), .int .u64 (ie : Int)]) (.agg #[.int .u64 (pa : Int), .int .u64 (pb : Int), .int .u64 (pc : Int), .int .u64 (pd : Int)])).run Tryz.prog u = .ok true u := fun u => (equal4 9998 ia ib ic ie pa pb pc pd u).trans (by rw [decide_eq_true c2])
          have hstep := hid hstep
          clear c1 c2 hid1 hcut1 hcut hidle GC0 GC
          go_wp2_with (go_at_call 69; refine (GA0.out _).mono ?_; rintro e w1 ⟨rfl, hb1⟩; have bP2 := hid ((bP1.out.keep hb1).keep (al' w1 (.cells #[.int .u64 (ia : Int), .int .u64 (ib : Int), .int .u64 (ic : Int), .int .u64 (ie : Int)] 97))); have bS2 := hid ((bS1.out.keep hb1).keep (al' w1 (.cells #[.int .u64 (ia : Int), .int .u64 (ib : Int), .int .u64 (ic : Int), .int .u64 (ie : Int)] 97))); have bZ2 := hid ((bZ1.out.keep hb1).keep (al' w1 (.cells #[.int .u64 (ia : Int), .int .u64 (ib : Int), .int .u64 (ic : Int), .int .u64 (ie : Int)] 97))); obtain ⟨f0, f1, f2, f3, f4, f5, f6, f7⟩ := bP2.out.cells; obtain ⟨z0, z1, z2, z3, z4, z5, z6, z7⟩ := Blk.cells (sa := 0) (sb := 0) (sc := 0) (sd := 0) bZ2.out)
          have hal2 := al' w1 (.cells #[.int .u64 (ia : Int), .int .u64 (ib : Int), .int .u64 (ic : Int), .int .u64 (ie : Int)] 97)
          exact ⟨⟨k + 1, q, c, by omega, by go_num, by rw [hstep.out], by rw [hstep.out]; exact hid (own_below (own_below hO1.out hb1) hal2), hq, hid (fun j hj hkj => ((hat1.out j hj (by omega)).keep hb1).keep hal2), bS2, bZ2, bl_stepB hB (bl_stepB hB hbl1 hb1) hal2⟩, by simp [intOf]; omega⟩
        · have hstep : X (k + 1) = (X k).set k ⟨ia, ib, ic, ie⟩ ++ [⟨ja, jb, jc, jd⟩] := hcut1.out (by rw [decide_eq_false c1, decide_eq_false c2]; rfl)
          have he2 : ∀ u, (Op.equalIn 10000 97 (.agg #[.int .u64 (ia : Int), .int .u64 (ib : Int), .int .u64 (ic : Int), .int .u64 (ie : Int)]) (.agg #[.int .u64 (pa : Int), .int .u64 (pb : Int), .int .u64 (pc : Int), .int .u64 (pd : Int)])).run Tryz.prog u = .ok false u := fun u => (equal4 9998 ia ib ic ie pa pb pc pd u).trans (by rw [decide_eq_false c2])
          have hstep := hid hstep
          have hXk := hlen.out k hk
          have hXm := hmore.out k hk
          have hkX : (k : Int) < ((X k).length : Int) := by omega
          have hxk := hid (hxat.out k k (Nat.le_refl _) hlt)
          clear c1 c2 hid1 hcut1 hcut hidle GC
          go_wp2_with (go_at_call 69; refine (GA0.out _).mono ?_; rintro e w1 ⟨rfl, hb1⟩; have bP2 := hid ((bP1.out.keep hb1).keep (al' w1 (.cells #[.int .u64 (ia : Int), .int .u64 (ib : Int), .int .u64 (ic : Int), .int .u64 (ie : Int)] 97))); have bS2 := hid ((bS1.out.keep hb1).keep (al' w1 (.cells #[.int .u64 (ia : Int), .int .u64 (ib : Int), .int .u64 (ic : Int), .int .u64 (ie : Int)] 97))); have bZ2 := hid ((bZ1.out.keep hb1).keep (al' w1 (.cells #[.int .u64 (ia : Int), .int .u64 (ib : Int), .int .u64 (ic : Int), .int .u64 (ie : Int)] 97))); obtain ⟨f0, f1, f2, f3, f4, f5, f6, f7⟩ := bP2.out.cells; obtain ⟨z0, z1, z2, z3, z4, z5, z6, z7⟩ := Blk.cells (sa := 0) (sb := 0) (sc := 0) (sd := 0) bZ2.out; have hO2 := hid (own_below (own_below hO1.out hb1) (al' w1 (.cells #[.int .u64 (ia : Int), .int .u64 (ib : Int), .int .u64 (ic : Int), .int .u64 (ie : Int)] 97))); obtain ⟨t0, t1, t2, t3⟩ := OwnS.at (l := X k) hO2.out hxk.out; have t4 := OwnS.free (l := X k) hO2.out rfl (k * 4); have t5 := OwnS.free (l := X k) hO2.out rfl (k * 4 + 1); have t6 := OwnS.free (l := X k) hO2.out rfl (k * 4 + 2); have t7 := OwnS.free (l := X k) hO2.out rfl (k * 4 + 3))
          have hqS : w.heap.size ≠ q := by rcases hq with h | h <;> omega
          have hqZ : w.heap.size + 1 ≠ q := by rcases hq with h | h <;> omega
          have hqP : wr.heap.size ≠ q := by omega
          have bP3 : Blk (putK (w1.alloc (.cells #[.int .u64 (ia : Int), .int .u64 (ib : Int), .int .u64 (ic : Int), .int .u64 (ie : Int)] 97)) q k ⟨ia, ib, ic, ie⟩) wr.heap.size ⟨pa, pb, pc, pd⟩ := (putK_block (w1.alloc (.cells #[.int .u64 (ia : Int), .int .u64 (ib : Int), .int .u64 (ic : Int), .int .u64 (ie : Int)] 97)) q k _ ⟨ia, ib, ic, ie⟩ hqP).trans bP2.out
          have bS3 : Blk (putK (w1.alloc (.cells #[.int .u64 (ia : Int), .int .u64 (ib : Int), .int .u64 (ic : Int), .int .u64 (ie : Int)] 97)) q k ⟨ia, ib, ic, ie⟩) w.heap.size ⟨sa, sb, sc, sd⟩ := (putK_block (w1.alloc (.cells #[.int .u64 (ia : Int), .int .u64 (ib : Int), .int .u64 (ic : Int), .int .u64 (ie : Int)] 97)) q k _ ⟨ia, ib, ic, ie⟩ hqS).trans bS2.out
          have bZ3 : Blk (putK (w1.alloc (.cells #[.int .u64 (ia : Int), .int .u64 (ib : Int), .int .u64 (ic : Int), .int .u64 (ie : Int)] 97)) q k ⟨ia, ib, ic, ie⟩) (w.heap.size + 1) noneB := (putK_block (w1.alloc (.cells #[.int .u64 (ia : Int), .int .u64 (ib : Int), .int .u64 (ic : Int), .int .u64 (ie : Int)] 97)) q k _ ⟨ia, ib, ic, ie⟩ hqZ).trans bZ2.out
          have hO3 : (putK (w1.alloc (.cells #[.int .u64 (ia : Int), .int .u64 (ib : Int), .int .u64 (ic : Int), .int .u64 (ie : Int)] 97)) q k ⟨ia, ib, ic, ie⟩).ownsRow B 97 4 (.slice (some ⟨q, 0, none⟩) (X k).length c) (X k).length (flatS ((X k).set k ⟨ia, ib, ic, ie⟩)) := by
            have h := OwnS.put (l := X k) (k := k) ⟨ia, ib, ic, ie⟩ hO2.out (by omega)
            unfold OwnS at h
            rw [List.length_set] at h
            exact h
          have hat3 : ∀ j (hj : j < l.length), k + 1 ≤ j → At4 (putK (w1.alloc (.cells #[.int .u64 (ia : Int), .int .u64 (ib : Int), .int .u64 (ic : Int), .int .u64 (ie : Int)] 97)) q k ⟨ia, ib, ic, ie⟩) g (j * 4) l[j] := fun j hj hkj => putK_at ⟨ia, ib, ic, ie⟩ (((hat1.out j hj (by omega)).keep hb1).keep (al' w1 (.cells #[.int .u64 (ia : Int), .int .u64 (ib : Int), .int .u64 (ic : Int), .int .u64 (ie : Int)] 97))) (fun _ => by omega)
          have hbl3 : Below B w (putK (w1.alloc (.cells #[.int .u64 (ia : Int), .int .u64 (ib : Int), .int .u64 (ic : Int), .int .u64 (ie : Int)] 97)) q k ⟨ia, ib, ic, ie⟩) := bl_putK (bl_stepB hB (bl_stepB hB hbl1 hb1) (al' w1 (.cells #[.int .u64 (ia : Int), .int .u64 (ib : Int), .int .u64 (ic : Int), .int .u64 (ie : Int)] 97))) k ⟨ia, ib, ic, ie⟩ hqB
          clear bP2 bS2 bZ2 hO2 hat1 hbl1 hb1 f0 f1 f2 f3 f4 f5 f6 f7 z0 z1 z2 z3 z4 z5 z6 z7 t0 t1 t2 t3 t4 t5 t6 t7 d0 d1 d2 d3 e0 e1 e2 e3 e4 e5 e6 e7 bP1 bS1 bZ1 hO1 hat bS bZ hbl hO hal
          change Code.wp _ _ _ _ (putK (w1.alloc (.cells #[.int .u64 (ia : Int), .int .u64 (ib : Int), .int .u64 (ic : Int), .int .u64 (ie : Int)] 97)) q k ⟨ia, ib, ic, ie⟩)
          generalize (putK (w1.alloc (.cells #[.int .u64 (ia : Int), .int .u64 (ib : Int), .int .u64 (ic : Int), .int .u64 (ie : Int)] 97)) q k ⟨ia, ib, ic, ie⟩) = w3 at bP3 bS3 bZ3 hO3 hat3 hbl3 ⊢
          have hbd : Below w3.heap.size w3 w3.drew := (Below.refl _ _).drew
          have bP4 := hid (bP3.keep hbd)
          have bS4 := hid (bS3.keep hbd)
          have bZ4 := hid (bZ3.keep hbd)
          have hO4 := hid (own_below hO3 hbd)
          have hat4 := hid (fun j hj hkj => (hat3 j hj hkj).keep hbd)
          have hbl4 := bl_stepB hB hbl3 hbd
          clear bP3 bS3 bZ3 hO3 hat3 hbl3
          obtain ⟨f0, f1, f2, f3, f4, f5, f6, f7⟩ := bP4.out.cells
          obtain ⟨e0, e1, e2, e3, e4, e5, e6, e7⟩ := bS4.out.cells
          go_region_law ((first
            | (refine step_append_seen (by rfl) (.tmp 31) (.tmp 36) 74 (by rfl) B 97 i0 (.agg #[.int .u64 0, .int .u64 0, .int .u64 0, .int .u64 0]) 4 32 Tryz.underlying74 hi hz0 hz1 hz2 rfl (by decide) q (X k).length c (flatS ((X k).set k ⟨ia, ib, ic, ie⟩)) (by rfl) (own_below hO6.out (al' w6 (.cells #[.int .u64 (ja : Int), .int .u64 (jb : Int), .int .u64 (jc : Int), .int .u64 (jd : Int)] 97))) ⟨w6.heap.size, 0, none⟩ 1 1 [.int .u64 (ja : Int), .int .u64 (jb : Int), .int .u64 (jc : Int), .int .u64 (jd : Int)] (by rfl) (by rfl) (news4 w6 ja jb jc jd) (by (intro u hu; simp at hu; rcases hu with rfl | rfl | rfl | rfl <;> rfl)) (by omega) (by (unfold maxLen; omega)) (by omega) (Nat.le_trans hB (bl_stepB hB hbl6 (al' w6 (.cells #[.int .u64 (ja : Int), .int .u64 (jb : Int), .int .u64 (jc : Int), .int .u64 (jd : Int)] 97))).size) ?_; intro q' c' w7 hO7 hg7 hc7)
            | (refine step_call (by rfl) 50 #[.agg #[.int .u64 (sa : Int), .int .u64 (sb : Int), .int .u64 (sc : Int), .int .u64 (sd : Int)]] (by go_simp) (GN.out _) ?_; rintro e w5 ⟨rfl, hb5⟩; refine ⟨_, rfl, ?_⟩; have bP5 := hid (bP4.out.keep hb5); have bS5 := hid (bS4.out.keep hb5); have bZ5 := hid (bZ4.out.keep hb5); have hO5 := hid (own_below hO4.out hb5); have hat5 := hid (fun j hj hkj => (hat4.out j hj hkj).keep hb5); have hbl5 := bl_stepB hB hbl4 hb5; obtain ⟨g0, g1, g2, g3, g4, g5, g6, g7⟩ := bP5.out.cells)
            | (refine step_call (by rfl) 69 #[.agg #[.int .u64 (pa : Int), .int .u64 (pb : Int), .int .u64 (pc : Int), .int .u64 (pd : Int)], .agg #[.int .u64 (na : Int), .int .u64 (nb : Int), .int .u64 (nc : Int), .int .u64 (nd : Int)]] (by go_simp) (GC0.out _) ?_; rintro e w6 ⟨rfl, hb6⟩; refine ⟨_, rfl, ?_⟩; have bS6 := hid (bS5.out.keep hb6); have bZ6 := hid (bZ5.out.keep hb6); have hO6 := hid (own_below hO5.out hb6); have hat6 := hid (fun j hj hkj => (hat5.out j hj hkj).keep hb6); have hbl6 := bl_stepB hB hbl5 hb6)))
          all_goals
            go_wp2
            have hX1 : (X (k + 1)).length = (X k).length + 1 := by rw [hstep.out]; simp
            have hO8 : OwnS w7 B (.slice (some ⟨q', 0, none⟩) (X (k + 1)).length c') (X (k + 1)) := by
              unfold OwnS
              rw [hX1, hstep.out, flatS_app]
              exact hO7
            have halJ := al' w6 (.cells #[.int .u64 (ja : Int), .int .u64 (jb : Int), .int .u64 (jc : Int), .int .u64 (jd : Int)] 97)
            have bS7 := bS6.out.keep halJ
            have bZ7 := bZ6.out.keep halJ
            have hat7 := fun j hj hkj => (hat6.out j hj hkj).keep halJ
            have hbl7 := bl_stepB hB hbl6 halJ
            have hgl : g < (w6.alloc (.cells #[.int .u64 (ja : Int), .int .u64 (jb : Int), .int .u64 (jc : Int), .int .u64 (jd : Int)] 97)).heap.size := by have := hbl7.size; omega
            exact ⟨⟨k + 1, q', c', by omega, by go_num, by rw [hX1], hid hO8, by
                rcases hc7 with e | ⟨e, _⟩
                · rw [e]; exact hq
                · right; rw [e]; have := bZ7.lt; omega, hid (fun j hj hkj => by
                by_cases hqg : q = g
                · rcases hc7 with e | ⟨e, hblk⟩
                  · have h := OwnS.at (l := X (k + 1)) hO8 (hxat.out (k + 1) j hkj hj)
                    rw [e, hqg] at h
                    exact h
                  · exact (hat7 j hj hkj).blk (by rw [← hqg]; exact hblk)
                · exact (hat7 j hj hkj).blk (hg7.block g hgl (fun e => by injection e with e; exact hqg e.symm))), hid ((hg7.block _ bS7.lt (fun e => by injection e with e; exact hqS e)).trans bS7), hid ((hg7.block _ bZ7.lt (fun e => by injection e with e; exact hqZ e)).trans bZ7), hbl7.grown hg7 (Nat.le_trans hB hbl7.size) (fun k' hk' => by injection hk' with hk'; omega)⟩, by simp [intOf]; omega⟩
    · have hltz : ¬ (k : Int) < (l.length : Int) := by omega
      have hR := hid (hend.out k (by omega))
      go_wp2
      go_ret
      exact ⟨_, rfl, by rw [← hR.out]; exact hO.out, hbl⟩

end Go.Proofs.YtjelgphhlcecoaaGreatDoor
