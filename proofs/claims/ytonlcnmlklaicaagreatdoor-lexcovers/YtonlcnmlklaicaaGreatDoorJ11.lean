/- The reference: First. The reference: Last. Spots in memory; the reference: inside. Ways that are read, byte by byte. -/
import Derived.Test.YtonlcnmlklaicaaGreatDoorJ10
import Derived.Test.YtonlcnmlklaicaaGreatDoorJ4
namespace Go.Proofs.YtonlcnmlklaicaaGreatDoor
open Go.RowKit

end Go.Proofs.YtonlcnmlklaicaaGreatDoor
namespace Go.Proofs.YtonlcnmlklaicaaGreatDoor
open Go.RowKit

end Go.Proofs.YtonlcnmlklaicaaGreatDoor
namespace Go.Proofs.YtonlcnmlklaicaaGreatDoor
open Go.RowKit

/-- a set lies at a place -/
def At4 (w : World) (b o : Nat) (S : W4) : Prop := w.cell? ⟨b, o, none⟩ = some (.int .u64 (S.a : Int)) ∧ w.cell? ⟨b, o + 1, none⟩ = some (.int .u64 (S.b : Int)) ∧ w.cell? ⟨b, o + 2, none⟩ = some (.int .u64 (S.c : Int)) ∧ w.cell? ⟨b, o + 3, none⟩ = some (.int .u64 (S.d : Int))
theorem At4.keep {w w' : World} {b o : Nat} {S : W4} (h : At4 w b o S) (hb : Below w.heap.size w w') : At4 w' b o S := ⟨keep_cell hb h.1, keep_cell hb h.2.1, keep_cell hb h.2.2.1, keep_cell hb h.2.2.2⟩
/-- a slice holds these sets, wherever it lies -/
def Sets (w : World) (v : Value) (l : List W4) : Prop := ∃ a cap, v = .slice a l.length cap ∧ l.length ≤ cap ∧ (a = none → cap = 0) ∧ (∀ S ∈ l, Fit4 S) ∧ ∀ j (h : j < l.length), ∃ b o, a = some ⟨b, o, none⟩ ∧ b < w.heap.size ∧ At4 w b (o + j * 4) l[j]
theorem Sets.keep {w w' : World} {v : Value} {l : List W4} (h : Sets w v l) (hb : Below w.heap.size w w') : Sets w' v l := by
  obtain ⟨a, cap, hv, hc, hn, hf, hat⟩ := h
  refine ⟨a, cap, hv, hc, hn, hf, fun j hj => ?_⟩
  obtain ⟨b, o, ha, hlt, h4⟩ := hat j hj
  exact ⟨b, o, ha, Nat.lt_of_lt_of_le hlt hb.size, h4.keep hb⟩
/-- a slice of slices of numbers -/
def Numss (w : World) (v : Value) (l : List (List Int)) : Prop := ∃ a cap, v = .slice a l.length cap ∧ l.length ≤ cap ∧ (a = none → cap = 0) ∧ ∀ j (h : j < l.length), ∃ b o x, a = some ⟨b, o, none⟩ ∧ b < w.heap.size ∧ w.cell? ⟨b, o + j, none⟩ = some x ∧ Nums w x l[j]
theorem Numss.keep {w w' : World} {v : Value} {l : List (List Int)} (h : Numss w v l) (hb : Below w.heap.size w w') : Numss w' v l := by
  obtain ⟨a, cap, hv, hc, hn, hat⟩ := h
  refine ⟨a, cap, hv, hc, hn, fun j hj => ?_⟩
  obtain ⟨b, o, x, ha, hlt, h1, h2⟩ := hat j hj
  exact ⟨b, o, x, ha, Nat.lt_of_lt_of_le hlt hb.size, keep_cell hb h1, h2.keep hb⟩
structure Sp where
  sets : List W4
  null : Bool
  first : List Int
  last : List Int
  follow : List (List Int)
/-- spots in memory: what the five fields hold -/
structure SpV (w : World) (sv fv lv gv : Value) (p : Sp) : Prop where
  sets : Sets w sv p.sets
  first : Nums w fv p.first
  last : Nums w lv p.last
  follow : Numss w gv p.follow
theorem SpV.keep {w w' : World} {sv fv lv gv : Value} {p : Sp} (h : SpV w sv fv lv gv p) (hb : Below w.heap.size w w') : SpV w' sv fv lv gv p := ⟨h.sets.keep hb, h.first.keep hb, h.last.keep hb, h.follow.keep hb⟩
end Go.Proofs.YtonlcnmlklaicaaGreatDoor
namespace Go.Proofs.YtonlcnmlklaicaaGreatDoor

def gOf (t : Rx) (k : Nat) : W4 := (setsL t).getD k noneB
theorem gOf_told (t : Rx) : TldG (gOf t) t 0 := fun i h => by
  unfold gOf
  rw [Nat.zero_add, List.getD_eq_getElem?_getD, List.getElem?_eq_getElem h]
  rfl
/-- a way that is read with a text ends at this spot -/
def Ends (t : Rx) (s : Txt) (k : Nat) : Prop := ∃ x u, Fst t 0 x ∧ Chn (Fol t 0) (x :: u) ∧ lastD x u = k ∧ RdS (gOf t) (x :: u) s
theorem take_more (s : Txt) (i : Nat) (h : i < s.length) : s.take (i + 1) = s.take i ++ [s.getD i 0] := by
  rw [List.take_succ_eq_append_getElem h, List.getD_eq_getElem?_getD, List.getElem?_eq_getElem h]
  rfl
theorem snoc_of : ∀ (u : List Nat), u ≠ [] → ∃ v y, u = v ++ [y]
  | [], h => absurd rfl h
  | u, h => ⟨u.dropLast, u.getLast h, (List.dropLast_concat_getLast h).symm⟩
/-- behind a text a way may go on at this spot -/
def InT (t : Rx) (s : Txt) (k : Nat) : Prop := (s = [] ∧ Fst t 0 k) ∨ ∃ j, Ends t s j ∧ Fol t 0 j k
theorem InT.lt {t : Rx} {s : Txt} {k : Nat} (h : InT t s k) : k < nSets t := by
  rcases h with ⟨_, h⟩ | ⟨j, _, h⟩
  · have := fst_in t 0 k h; omega
  · have := fol_in t 0 j k h; omega
theorem ends_nil (t : Rx) (k : Nat) : ¬ Ends t [] k := by
  rintro ⟨x, u, _, _, _, h⟩
  exact h.elim
theorem inT_nil (t : Rx) (k : Nat) : InT t [] k ↔ Fst t 0 k :=
  ⟨fun h => h.elim (fun h => h.2) (fun ⟨j, h, _⟩ => (ends_nil t j h).elim), fun h => Or.inl ⟨rfl, h⟩⟩
theorem ends_snoc (t : Rx) (s : Txt) (c : UInt8) (k : Nat) : Ends t (s ++ [c]) k ↔ InT t s k ∧ hasB (gOf t k) c.toNat = true := by
  constructor
  · rintro ⟨x, u, h1, h2, h3, h4⟩
    have hl := h4.len
    by_cases hu : u = []
    · subst hu
      have hs : s = [] := by
        cases s with
        | nil => rfl
        | cons a s => simp at hl
      subst hs
      have hx : x = k := h3
      subst hx
      exact ⟨Or.inl ⟨rfl, h1⟩, h4.1⟩
    · obtain ⟨v, y, rfl⟩ := snoc_of u hu
      obtain ⟨c1, c2, c3⟩ := Chn.split h2
      have hy : y = k := by rw [lastD_app] at h3; exact h3
      subst hy
      obtain ⟨s1, s2, e, r1, r2⟩ := RdS.split (u := x :: v) (v := [y]) h4
      have hl2 := r2.len
      have hs2 : s1 = s ∧ s2 = [c] := by
        have := List.append_inj' e (by simpa using hl2)
        exact ⟨this.1.symm, this.2.symm⟩
      obtain ⟨rfl, rfl⟩ := hs2
      exact ⟨Or.inr ⟨lastD x v, ⟨x, v, h1, c1, rfl, r1⟩, c3⟩, r2.1⟩
  · rintro ⟨h | ⟨j, ⟨x, u, h1, h2, h3, h4⟩, h5⟩, h6⟩
    · obtain ⟨rfl, h⟩ := h
      exact ⟨k, [], h, trivial, rfl, h6, trivial⟩
    · refine ⟨x, u ++ [k], h1, Chn.app h2 trivial (by rw [h3]; exact h5), lastD_app x u k [], ?_⟩
      exact RdS.app h4 (show RdS (gOf t) [k] _ from ⟨h6, trivial⟩)
theorem mat_ends (t : Rx) (s : Txt) : Mat t s ↔ (s = [] ∧ t.null = true) ∨ ∃ j, Ends t s j ∧ Lst t 0 j := by
  rw [mat_iff t s (gOf t) 0 (gOf_told t)]
  constructor
  · rintro ⟨u, h1, h2⟩
    cases u with
    | nil =>
      have hl := h2.len
      have hs : s = [] := List.length_eq_zero_iff.1 (by simpa using hl.symm)
      exact Or.inl ⟨hs, h1⟩
    | cons x u =>
      obtain ⟨c1, c3, c2⟩ := h1
      exact Or.inr ⟨lastD x u, ⟨x, u, c1, c2, rfl, h2⟩, c3⟩
  · rintro (⟨rfl, h⟩ | ⟨j, ⟨x, u, h1, h2, h3, h4⟩, h5⟩)
    · exact ⟨[], h, trivial⟩
    · exact ⟨x :: u, ⟨h1, by rw [h3]; exact h5, h2⟩, h4⟩
/-- one byte more -/
theorem inT_snoc (t : Rx) (s : Txt) (c : UInt8) (k : Nat) : InT t (s ++ [c]) k ↔ ∃ j, (InT t s j ∧ hasB (gOf t j) c.toNat = true) ∧ Fol t 0 j k := by
  constructor
  · rintro (⟨h, _⟩ | ⟨j, h, h5⟩)
    · simp at h
    · exact ⟨j, (ends_snoc t s c j).1 h, h5⟩
  · rintro ⟨j, h, h5⟩
    exact Or.inr ⟨j, (ends_snoc t s c j).2 h, h5⟩
theorem mat_snoc (t : Rx) (s : Txt) (c : UInt8) : Mat t (s ++ [c]) ↔ ∃ j, (InT t s j ∧ hasB (gOf t j) c.toNat = true) ∧ Lst t 0 j := by
  rw [mat_ends]
  constructor
  · rintro (⟨h, _⟩ | ⟨j, h, h5⟩)
    · simp at h
    · exact ⟨j, (ends_snoc t s c j).1 h, h5⟩
  · rintro ⟨j, h, h5⟩
    exact Or.inr ⟨j, (ends_snoc t s c j).2 h, h5⟩
theorem mat_nil (t : Rx) : Mat t [] ↔ t.null = true := by
  rw [mat_ends]
  exact ⟨fun h => h.elim (fun h => h.2) (fun ⟨j, h, _⟩ => (ends_nil t j h).elim), fun h => Or.inl ⟨rfl, h⟩⟩

end Go.Proofs.YtonlcnmlklaicaaGreatDoor
