/- The reference: fitsAt of RSet, REmpty, RStar, RPlus. The reference: fitsAt of RCat. The reference: fitsAt of ROr. -/
import Derived.Test.YtjelgphhlcecoaaGreatDoorJ9
namespace Go.Proofs.YtjelgphhlcecoaaGreatDoor
open Go.RowKit

theorem ne_out {w u : World} {v fv : Value} (hf : ∀ k, fv.ownBlock = some k → k < w.heap.size) (hu : w.heap.size < u.heap.size) (h : v = fv ∨ ∀ k, v.ownBlock = some k → u.heap.size ≤ k) : v.ownBlock ≠ some w.heap.size := by
  intro e
  rcases h with rfl | h
  · exact Nat.lt_irrefl _ (hf _ e)
  · have := h _ e; omega
theorem new_or {w u : World} {v fv : Value} (hu : w.heap.size ≤ u.heap.size) (h : v = fv ∨ ∀ k, v.ownBlock = some k → u.heap.size ≤ k) : v = fv ∨ ∀ k, v.ownBlock = some k → w.heap.size ≤ k :=
  h.imp id fun h k hk => Nat.le_trans hu (h k hk)
theorem new_or2 {w u : World} {v v1 fv : Value} (hu : w.heap.size ≤ u.heap.size) (h : v = v1 ∨ ∀ k, v.ownBlock = some k → u.heap.size ≤ k) (h1 : v1 = fv ∨ ∀ k, v1.ownBlock = some k → w.heap.size ≤ k) : v = fv ∨ ∀ k, v.ownBlock = some k → w.heap.size ≤ k := by
  rcases h with rfl | h
  · exact h1
  · exact Or.inr fun k hk => Nat.le_trans hu (h k hk)

end Go.Proofs.YtjelgphhlcecoaaGreatDoor
namespace Go.Proofs.YtjelgphhlcecoaaGreatDoor
open Go.RowKit

end Go.Proofs.YtjelgphhlcecoaaGreatDoor
namespace Go.Proofs.YtjelgphhlcecoaaGreatDoor
open Go.RowKit

end Go.Proofs.YtjelgphhlcecoaaGreatDoor
