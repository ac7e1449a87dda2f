/- Small facts on blocks and cells behind calls. -/
import Derived.Test.YtfgjlgcoablnoaaBack
namespace Go.Proofs.Ytfgjlgcoablnoaa
open Go.RowKit

theorem cells3 {w : World} {b : Nat} {x y z : Value} {T : TypeId} {fr : Nat × Nat} (h : w.heap[b]? = some (.cells #[x, y, z] T fr)) :
    w.cell? ⟨b, 0, none⟩ = some x ∧ w.cell? ⟨b, 1, none⟩ = some y ∧ w.cell? ⟨b, 2, none⟩ = some z := ⟨blk_cell h rfl, blk_cell h rfl, blk_cell h rfl⟩
theorem blk_lt {w : World} {b : Nat} {x : Obj} (h : w.heap[b]? = some x) : b < w.heap.size := by
  rcases Nat.lt_or_ge b w.heap.size with h1 | h1
  · exact h1
  · rw [Array.getElem?_eq_none h1] at h; cases h
theorem blk_alloc {w : World} {b : Nat} {x : Obj} (h : w.heap[b]? = some x) (o : Obj) : (w.alloc o).heap[b]? = some x :=
  (Below.heap_alloc w o b (blk_lt h)).trans h

theorem bl_alloc {w u : World} (h : Below w.heap.size w u) {o : Obj} : Below w.heap.size w (u.alloc o) := h.alloc h.size o

end Go.Proofs.Ytfgjlgcoablnoaa
