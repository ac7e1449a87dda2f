/- The reference: fitsAt of a set. Of RStar and RPlus: till nothing new comes. The reference: again. The reference: fitsAt of RSet, REmpty, RStar, RPlus. -/
import Derived.Test.YtjelgphhlcecoaaGreatDoorJ6
import Derived.Deep.RegionHeld3
import Derived.Deep.RegionLaw
import Derived.Deep.OwnRows
import Derived.BigRegion
namespace Go.Proofs.YtjelgphhlcecoaaGreatDoor
open Go.RowKit

theorem OwnT.at {w : World} {B g c n : Nat} {l : List Bool} (h : OwnT w B (.slice (some ⟨g, 0, none⟩) n c) l) {j : Nat} {x : Bool} (hj : l[j]? = some x) : w.cell? ⟨g, j, none⟩ = some (.bool x) := by
  have := h.cells rfl j (.bool x) (by rw [List.getElem?_map, hj]; rfl)
  rw [Go.WideShapes.add_plain] at this
  simpa using this
theorem OwnT.free {w : World} {B g c n : Nat} {l : List Bool} (h : OwnT w B (.slice (some ⟨g, 0, none⟩) n c) l) (hn : n = l.length) (o : Nat) : w.frozen? ⟨g, o, none⟩ = false := by
  subst hn
  exact h.frozenAt o

theorem set_keep {w : World} {b o q : Nat} {u v : Value} (m : Nat) (h : w.cell? ⟨b, o, none⟩ = some u) (hn : b ≠ q) : (w.setCell ⟨q, m, none⟩ v).cell? ⟨b, o, none⟩ = some u :=
  (World.cell?_setCell_other _ _ _ _ (by intro e; injection e with e1; exact hn e1.symm)).trans h
theorem Bls.blk {w w' : World} {v : Value} {l : List Bool} (h : Bls w v l) (hs : w.heap.size ≤ w'.heap.size) (hb : ∀ k, v.ownBlock = some k → w'.heap[k]? = w.heap[k]?) : Bls w' v l := by
  obtain ⟨a, cap, rfl, hc, hn, hat⟩ := h
  refine ⟨a, cap, rfl, hc, hn, fun j hj => ?_⟩
  obtain ⟨b, o, rfl, hlt, h1⟩ := hat j hj
  exact ⟨b, o, rfl, Nat.lt_of_lt_of_le hlt hs, (World.cell?_of_block (a := ⟨b, o + j, none⟩) (hb b rfl)).trans h1⟩
theorem Bls.set {w : World} {v x : Value} {l : List Bool} {g m : Nat} (h : Bls w v l) (hn : v.ownBlock ≠ some g) : Bls (w.setCell ⟨g, m, none⟩ x) v l :=
  h.blk (by simp) fun k hk => Below.heap_setCell w ⟨g, m, none⟩ x k (fun e => hn (hk.trans (congrArg some e)))
theorem Bls.lt {w : World} {v : Value} {l : List Bool} (h : Bls w v l) (hl : 0 < l.length) : ∀ k, v.ownBlock = some k → k < w.heap.size := by
  obtain ⟨a, cap, rfl, _, _, hat⟩ := h
  obtain ⟨b, o, rfl, hlt, _⟩ := hat 0 hl
  intro k hk
  have : some b = some k := hk
  injection this with this
  omega
end Go.Proofs.YtjelgphhlcecoaaGreatDoor
namespace Go.Proofs.YtjelgphhlcecoaaGreatDoor
open Go.RowKit

theorem itr_stop1 {a : Rx} {s : Txt} {F O : Nat → Prop} {k : Nat} (hO : ∀ i, i ≤ s.length → (O i ↔ ∃ m, 1 ≤ m ∧ m ≤ k ∧ Itr a s F m i)) (hstop : ∀ i, i ≤ s.length → Itr a s F (k + 1) i → O i) :
    ∀ m i, i ≤ s.length → Itr a s F (m + 1) i → O i := by
  intro m
  induction m with
  | zero =>
    intro i hi h
    by_cases e : k = 0
    · subst e; exact hstop i hi h
    · exact (hO i hi).2 ⟨1, Nat.le_refl _, by omega, h⟩
  | succ m ih =>
    rintro i hi ⟨j, hj, hf, hm⟩
    obtain ⟨q, h1, h2, h3⟩ := (hO j (by omega)).1 (ih j (by omega) hf)
    by_cases e : q = k
    · subst e; exact hstop i hi ⟨j, hj, h3, hm⟩
    · exact (hO i hi).2 ⟨q + 1, by omega, by omega, j, hj, h3, hm⟩
/-- the rule again: RStar, or RPlus -/
def again1 (st : Bool) (a : Rx) : Rx := if st then .star a else .plus a
/-- what is held behind k rounds -/
structure AgI (st : Bool) (a : Rx) (s : Txt) (bs : List Bool) (k : Nat) (fr o : List Bool) : Prop where
  lf : fr.length = s.length + 1
  lo : o.length = s.length + 1
  f : ∀ i, i ≤ s.length → (On fr i ↔ Itr a s (On bs) k i)
  o : ∀ i, i ≤ s.length → (On o i ↔ (st = true ∧ On bs i) ∨ ∃ m, 1 ≤ m ∧ m ≤ k ∧ Itr a s (On bs) m i)
/-- two lists, the second as far as i -/
def mixL (o nx : List Bool) (i : Nat) : List Bool := (List.range o.length).map fun j => o.getD j false || (decide (j < i) && nx.getD j false)
def newL (o nx : List Bool) (i : Nat) : Bool := (List.range i).any fun j => nx.getD j false && !o.getD j false
theorem mixL_len (o nx : List Bool) (i : Nat) : (mixL o nx i).length = o.length := by simp [mixL]
theorem mixL_get (o nx : List Bool) (i j : Nat) (h : j < o.length) : (mixL o nx i)[j]? = some (o.getD j false || (decide (j < i) && nx.getD j false)) := by
  unfold mixL
  rw [List.getElem?_map, List.getElem?_range h]
  rfl
theorem AgI.next {st : Bool} {a : Rx} {s : Txt} {bs fr o nx : List Bool} {k : Nat} (h : AgI st a s bs k fr o) (hn : IsStp a s fr nx) : AgI st a s bs (k + 1) nx (mixL o nx o.length) := by
  have hnx : ∀ i, i ≤ s.length → (On nx i ↔ Itr a s (On bs) (k + 1) i) := fun i hi => (hn.on i hi).trans (stp_congr h.f i hi)
  refine ⟨hn.len, by rw [mixL_len]; exact h.lo, hnx, fun i hi => ?_⟩
  have hl : i < o.length := by rw [h.lo]; omega
  have hl2 : i < nx.length := by rw [hn.len]; omega
  have e : On (mixL o nx o.length) i ↔ On o i ∨ On nx i := by
    unfold On
    rw [mixL_get _ _ _ _ hl, List.getD_eq_getElem?_getD, List.getD_eq_getElem?_getD, List.getElem?_eq_getElem hl, List.getElem?_eq_getElem hl2]
    simp [hl]
  rw [e, h.o i hi, hnx i hi]
  constructor
  · rintro ((h1 | ⟨m, h1, h2, h3⟩) | h1)
    · exact Or.inl h1
    · exact Or.inr ⟨m, h1, by omega, h3⟩
    · exact Or.inr ⟨k + 1, by omega, Nat.le_refl _, h1⟩
  · rintro (h1 | ⟨m, h1, h2, h3⟩)
    · exact Or.inl (Or.inl h1)
    · by_cases e : m = k + 1
      · subst e; exact Or.inr h3
      · exact Or.inl (Or.inr ⟨m, h1, by omega, h3⟩)
theorem newL_no {o nx : List Bool} {n : Nat} (h : newL o nx n = false) {i : Nat} (hi : i < n) : nx.getD i false = true → o.getD i false = true := by
  unfold newL at h
  rw [List.any_eq_false] at h
  have := h i (List.mem_range.2 hi)
  intro h1
  rw [h1] at this
  simpa using this
theorem AgI.stop {st : Bool} {a : Rx} {s : Txt} {bs fr o nx : List Bool} {k : Nat} (h : AgI st a s bs k fr o) (hn : IsStp a s fr nx) (hb : bs.length = s.length + 1) (hno : newL o nx o.length = false) : IsStp (again1 st a) s bs o := by
  have hnx : ∀ i, i ≤ s.length → (On nx i ↔ Itr a s (On bs) (k + 1) i) := fun i hi => (hn.on i hi).trans (stp_congr h.f i hi)
  have hin : ∀ i, i ≤ s.length → Itr a s (On bs) (k + 1) i → On o i := fun i hi hk => by
    have h1 := (hnx i hi).2 hk
    have hl : i < o.length := by rw [h.lo]; omega
    have h2 := newL_no hno hl (by unfold On at h1; rw [List.getD_eq_getElem?_getD, h1]; rfl)
    unfold On
    rw [List.getD_eq_getElem?_getD, List.getElem?_eq_getElem hl] at h2
    rw [List.getElem?_eq_getElem hl]
    simpa using h2
  refine ⟨h.lo, fun i hi => ?_⟩
  cases st with
  | true =>
    have hOF : ∀ i, i ≤ s.length → (On o i ↔ (∃ m, 1 ≤ m ∧ m ≤ k ∧ Itr a s (On bs) m i) ∨ On bs i) := fun i hi => by rw [h.o i hi]; simp [or_comm]
    show On o i ↔ Stp (.star a) s (On bs) i
    rw [stp_star a s _ i hi]
    constructor
    · intro h1
      rcases (hOF i hi).1 h1 with ⟨m, _, _, h3⟩ | h1
      · exact ⟨m, h3⟩
      · exact ⟨0, h1⟩
    · rintro ⟨m, hm⟩
      exact (hOF i hi).2 (itr_stop (O := fun i => ∃ m, 1 ≤ m ∧ m ≤ k ∧ Itr a s (On bs) m i) (fun _ => Iff.rfl) (fun i hi hk => (hOF i hi).1 (hin i hi hk)) (fun i hf => by have := on_lt hf; omega) m i hi hm)
  | false =>
    have hO1 : ∀ i, i ≤ s.length → (On o i ↔ ∃ m, 1 ≤ m ∧ m ≤ k ∧ Itr a s (On bs) m i) := fun i hi => by rw [h.o i hi]; simp
    show On o i ↔ Stp (.plus a) s (On bs) i
    rw [stp_plus a s _ i hi]
    constructor
    · intro h1
      obtain ⟨m, h1, _, h3⟩ := (hO1 i hi).1 h1
      exact ⟨m - 1, by rw [show m - 1 + 1 = m by omega]; exact h3⟩
    · rintro ⟨m, hm⟩
      exact itr_stop1 hO1 hin m i hi hm
def offL (l : List Bool) : Nat := ((List.range l.length).map fun i => if l.getD i false then 0 else 1).sum
end Go.Proofs.YtjelgphhlcecoaaGreatDoor
namespace Go.Proofs.YtjelgphhlcecoaaGreatDoor
open Go.RowKit

def agF (st : Bool) (bs : List Bool) (i : Nat) : Bool := st && bs.getD i false
theorem AgI.zero (st : Bool) (a : Rx) (s : Txt) (bs : List Bool) (hb : bs.length = s.length + 1) : AgI st a s bs 0 bs (tabK bs.length bs.length (agF st bs)) := by
  refine ⟨hb, by rw [tabK_len]; exact hb, fun i _ => Iff.rfl, fun i hi => ?_⟩
  rw [On, tabK_at (Nat.le_refl _) (by omega)]
  unfold agF On
  rw [List.getD_eq_getElem?_getD, List.getElem?_eq_getElem (by omega : i < bs.length)]
  constructor
  · intro h
    simp at h
    exact Or.inl ⟨h.1, by rw [h.2]⟩
  · rintro (⟨h1, h2⟩ | ⟨m, h1, h2, _⟩)
    · simp at h2
      simp [h1, h2]
    · omega
end Go.Proofs.YtjelgphhlcecoaaGreatDoor
namespace Go.Proofs.YtjelgphhlcecoaaGreatDoor
open Go.RowKit

end Go.Proofs.YtjelgphhlcecoaaGreatDoor
