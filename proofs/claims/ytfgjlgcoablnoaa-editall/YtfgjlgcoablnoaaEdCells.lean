/- The cells of a list of edits, and back. -/
import Derived.Test.YtfgjlgcoablnoaaAll
import Derived.Lib.SmallJoins
namespace Go.Proofs.Ytfgjlgcoablnoaa
open Go.RowKit

def edCells : List Ed → List Value
  | [] => []
  | e :: es => .int .i64 e.a :: .int .i64 e.n :: .string e.t :: edCells es
theorem edCells_length : ∀ es : List Ed, (edCells es).length = es.length * 3
  | [] => rfl
  | e :: es => by simp only [edCells, List.length_cons, edCells_length es]; omega
theorem edCells_one : ∀ es : List Ed, ∀ u ∈ edCells es, u.oneCell' = true
  | [], _, h => by cases h
  | e :: es, u, h => by
    simp only [edCells, List.mem_cons] at h
    rcases h with rfl | rfl | rfl | h
    · rfl
    · rfl
    · rfl
    · exact edCells_one es u h
theorem Edits.tail {w : World} {b off : Nat} {e : Ed} {es : List Ed} (h : Edits w b off (e :: es)) : Edits w b (off + 3) es := fun j hj => by
  have k := h (j + 1) (by simpa using hj)
  simp only [List.getElem_cons_succ] at k
  rw [show off + (j + 1) * 3 = off + 3 + j * 3 by omega] at k
  exact k
theorem edits_cells {w : World} {b : Nat} : ∀ {es : List Ed} {off : Nat}, Edits w b off es → ∀ j u, (edCells es)[j]? = some u → w.cell? ⟨b, off + j, none⟩ = some u
  | [], _, _, j, u, hu => by simp [edCells] at hu
  | e :: es, off, h, 0, u, hu => by
    simp [edCells] at hu; subst hu
    have := (h 0 (by simp)).1; simpa using this
  | e :: es, off, h, 1, u, hu => by
    simp [edCells] at hu; subst hu
    have := (h 0 (by simp)).2.1; simpa using this
  | e :: es, off, h, 2, u, hu => by
    simp [edCells] at hu; subst hu
    have := (h 0 (by simp)).2.2; simpa using this
  | e :: es, off, h, j + 3, u, hu => by
    have k := edits_cells h.tail j u (by simpa [edCells] using hu)
    rw [show off + (j + 3) = off + 3 + j by omega]
    exact k
theorem edCells_at : ∀ (es : List Ed) (j : Nat) (h : j < es.length), (edCells es)[j * 3]? = some (.int .i64 es[j].a) ∧ (edCells es)[j * 3 + 1]? = some (.int .i64 es[j].n) ∧ (edCells es)[j * 3 + 2]? = some (.string es[j].t)
  | [], j, h => absurd h (Nat.not_lt_zero _)
  | e :: es, 0, h => ⟨rfl, rfl, rfl⟩
  | e :: es, j + 1, h => by
    have k := edCells_at es j (by simpa using h)
    have e1 : (j + 1) * 3 = j * 3 + 3 := by omega
    simp only [e1, List.getElem_cons_succ]
    exact k
theorem news_of {w : World} {ad : Addr} {es : List Ed} (h : EdsAt w (some ad) es) : ∀ j u, (edCells es)[j]? = some u → w.cell? (ad.add j) = some u := fun j u hu => by
  cases es with
  | nil => simp [edCells] at hu
  | cons e r =>
    obtain ⟨b, off, e1, hE⟩ := h (by simp)
    cases e1
    have k := edits_cells hE j u hu
    unfold Addr.add
    by_cases hj : j = 0
    · subst hj; simpa using k
    · rw [if_neg hj]; exact k
theorem eds_of_own {w : World} {base n : Nat} {v : Value} {es : List Ed} (hn : n = es.length) (h : w.ownsRow base 23 3 v n (edCells es)) : ∃ ao cap, v = .slice ao es.length cap ∧ EdsAt w ao es := by
  rcases Joins.ownsRow_forms h with ⟨rfl, h0⟩ | ⟨g, cap, rfl⟩
  · have h1 : es = [] := List.eq_nil_of_length_eq_zero (by omega)
    subst h1
    exact ⟨none, 0, rfl, fun hne => absurd rfl hne⟩
  · subst hn
    refine ⟨some ⟨g, 0, none⟩, cap, rfl, fun _ => ⟨g, 0, rfl, fun j hj => ?_⟩⟩
    obtain ⟨k0, k1, k2⟩ := edCells_at es j hj
    have c := h.cells (g := g) rfl
    have add (j : Nat) : (⟨g, 0, none⟩ : Addr).add j = ⟨g, 0 + j, none⟩ := by
      unfold Addr.add
      by_cases hj : j = 0
      · subst hj; rfl
      · rw [if_neg hj]
    refine ⟨?_, ?_, ?_⟩
    · rw [← add]; exact c _ _ k0
    · rw [Nat.add_assoc, ← add]; exact c _ _ k1
    · rw [Nat.add_assoc, ← add]; exact c _ _ k2

theorem longB_eds {l : Nat} {es : List Ed} (h : longB l (es.map Ed.t) = false) : l ≤ 5000 ∧ es.length ≤ 100 ∧ ∀ e ∈ es, e.t.size ≤ 5000 := by
  simp [longB] at h
  exact ⟨by omega, by omega, fun e he => h.2 e he⟩

end Go.Proofs.Ytfgjlgcoablnoaa
