/- SmallSame's walk. -/
import Derived.Test.YtjelgphhlcecoaaGreatDoorJ36
import Derived.Test.YtjelgphhlcecoaaGreatDoorJ29
import Derived.Lib.QuietBelow
import Derived.BigQuiet
namespace Go.Proofs.YtjelgphhlcecoaaGreatDoor
open Go.RowKit Go.Sort Go.Maps

theorem MkR.does {N : List (List Int)} {A : List Int} (hr : RgtA N A) {M : List (List Int)} {B : List Int} (h : MkR N A M B) (s : Txt) : doA M B 0 s = doA N A 0 s := by
  obtain ⟨al, m, h1, h2, rfl, rfl⟩ := h
  exact mk_does0 h1 hr h2 s
theorem MkR.few {N : List (List Int)} {A : List Int} (hr : RgtA N A) {M : List (List Int)} {B : List Int} (h : MkR N A M B) : M.length ≤ N.length := by
  obtain ⟨al, m, h1, h2, rfl, rfl⟩ := h
  rw [nxM_len]
  exact mk_few h1 hr h2
theorem MkR.again {N : List (List Int)} {A : List Int} (hr : RgtA N A) {M M' : List (List Int)} {B B' : List Int} (h : MkR N A M B) (h' : MkR M B M' B') : M' = M ∧ B' = B := by
  obtain ⟨al, m, h1, h2, rfl, rfl⟩ := h
  obtain ⟨al', m', h1', h2', rfl, rfl⟩ := h'
  exact mk_again h1 hr h2 h1' h2'
end Go.Proofs.YtjelgphhlcecoaaGreatDoor
