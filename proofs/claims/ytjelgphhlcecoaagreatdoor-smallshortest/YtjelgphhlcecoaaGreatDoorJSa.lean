/- SmallSame's walk. -/
import Derived.Test.YtjelgphhlcecoaaGreatDoorJ36
import Derived.Test.YtjelgphhlcecoaaGreatDoorJ29
import Derived.Lib.QuietBelow
import Derived.BigQuiet
namespace Go.Proofs.YtjelgphhlcecoaaGreatDoor
open Go.RowKit Go.Sort Go.Maps

theorem goK_goA {N : List (List Int)} (hr : RgtN N) (h0 : 0 < N.length) (s : Txt) : ∀ i, i ≤ s.length → goK N s i = inI N.length (goA N 0 (s.take i))
  | 0, _ => by rw [goK]; simp [goA, inI_some h0]
  | i + 1, hi => by
    have ih := goK_goA hr h0 s i (by omega)
    have hl : goA N 0 (s.take i) ≤ N.length := goA_le hr _ 0 (by omega)
    have e1 : s.take (i + 1) = s.take i ++ [s[i]] := List.take_succ_eq_append_getElem (by omega)
    have e2 : s.getD i 0 = s[i] := by rw [List.getD_eq_getElem?_getD, List.getElem?_eq_getElem (by omega)]; rfl
    rw [goK_succ, ih, e1, goA_app, e2]
    show _ = inI N.length (nxA N (goA N 0 (s.take i)) (s[i]).toNat)
    rcases Nat.lt_or_ge (goA N 0 (s.take i)) N.length with h | h
    · rw [inI_some h, if_neg (by omega), Int.toNat_natCast, nxA_some hr h (s[i]).toNat_lt]
    · have e3 : goA N 0 (s.take i) = N.length := by omega
      rw [e3, inI_none, if_pos (by omega), nxA_none, inI_none]
theorem accB_do {N : List (List Int)} {A : List Int} (hr : RgtA N A) (s : Txt) : accB N A s = doA N A 0 s := by
  unfold accB
  rw [goB_yes (rgtB_of hr), goK_goA hr.rgt hr.pos s s.length (Nat.le_refl _), List.take_length]
  unfold doA
  have hl : goA N 0 s ≤ N.length := goA_le hr.rgt s 0 (by omega)
  rcases Nat.lt_or_ge (goA N 0 s) N.length with h | h
  · rw [inI_some h, if_neg (by omega), acA_some h, Int.toNat_natCast]
  · have e3 : goA N 0 s = N.length := by omega
    rw [e3, inI_none, if_pos rfl, acA_none]
theorem MkR.does {N : List (List Int)} {A : List Int} (hr : RgtA N A) {M : List (List Int)} {B : List Int} (h : MkR N A M B) (s : Txt) : doA M B 0 s = doA N A 0 s := by
  obtain ⟨al, m, h1, h2, rfl, rfl⟩ := h
  exact mk_does0 h1 hr h2 s
theorem MkR.few {N : List (List Int)} {A : List Int} (hr : RgtA N A) {M : List (List Int)} {B : List Int} (h : MkR N A M B) : M.length ≤ N.length := by
  obtain ⟨al, m, h1, h2, rfl, rfl⟩ := h
  rw [nxM_len]
  exact mk_few h1 hr h2
theorem MkR.again {N : List (List Int)} {A : List Int} (hr : RgtA N A) {M M' : List (List Int)} {B B' : List Int} (h : MkR N A M B) (h' : MkR M B M' B') : M' = M ∧ B' = B := by
  obtain ⟨al, m, h1, h2, rfl, rfl⟩ := h
  obtain ⟨al', m', h1', h2', rfl, rfl⟩ := h'
  exact mk_again h1 hr h2 h1' h2'
end Go.Proofs.YtjelgphhlcecoaaGreatDoor
