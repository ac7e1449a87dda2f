/- SmallLeast's walk. -/
import Derived.Test.YtjelgphhlcecoaaGreatDoorJSa
import Derived.Test.YtjelgphhlcecoaaGreatDoorJSp
namespace Go.Proofs.YtjelgphhlcecoaaGreatDoor
open Go.RowKit Go.Maps

def hvB (N : List (List Int)) (A : List Int) : Bool := decide (40 < N.length) && rgtB N A
set_option maxRecDepth 20000 in
theorem heavyC9 (nv av : Value) (N : List (List Int)) (A : List Int) (w : World) (hD : Dfa w nv av N A) (hl : N.length ≤ 9223372036854775807) :
    Calls Tryz.prog 9 #[.agg #[nv, av]] w fun e w' => e = .returned (.bool (hvB N A)) ∧ Below w.heap.size w w' := by
  obtain ⟨⟨na, nc, rfl⟩, ⟨aa, ac, rfl⟩⟩ := hD.shape
  obtain ⟨W0, hW0⟩ : ∃ W0, w.alloc (.cells #[.slice na N.length nc, .slice aa A.length ac] 25) = W0 := ⟨_, rfl⟩
  have hb0 : Hid (Below w.heap.size w W0) := by rw [← hW0]; exact hid (al' w _)
  have hz0 : Hid (W0.heap[w.heap.size]? = some (.cells #[.slice na N.length nc, .slice aa A.length ac] 25)) := by rw [← hW0]; exact hid (heap_new w _)
  obtain ⟨c0, c1, -⟩ := cells2m hz0.out
  have GR := hid (refRightA _ _ N A W0 (hD.keep hb0.out) hl)
  unfold hvB
  by_cases h : 40 < N.length
  · have hz : (40 : Int) < (N.length : Int) := by omega
    rw [decide_eq_true h, Bool.true_and]
    generalize rgtB N A = r at *
    clear hD
    go_enter Tryz.func9, Tryz.ntmps9
    go_wp2_with (go_at_call 13; refine GR.out.mono ?_; rintro e w1 ⟨rfl, hb1⟩)
    go_ret
    exact ⟨by simp, bl_step hb0.out hb1⟩
  · have hz : ¬ (40 : Int) < (N.length : Int) := by omega
    rw [decide_eq_false h, Bool.false_and]
    clear hD GR
    go_enter Tryz.func9, Tryz.ntmps9
    go_wp2
    go_ret
    exact ⟨by simp, hb0.out⟩
theorem MkR.apart {N : List (List Int)} {A : List Int} (hr : RgtA N A) {M : List (List Int)} {B : List Int} (h : MkR N A M B) {i k : Nat} (hi : i < M.length) (hk : k < M.length) (e : Alk M B i k) : i = k := by
  obtain ⟨al, m, h1, h2, rfl, rfl⟩ := h
  rw [nxM_len] at hi hk
  exact mk_apart h1 hr h2 hi hk e
theorem MkR.alive {N : List (List Int)} {A : List Int} (hr : RgtA N A) {M : List (List Int)} {B : List Int} (h : MkR N A M B) {i : Nat} (hi : i < M.length) (h0 : 0 < i) : ¬ Alk M B i M.length := by
  obtain ⟨al, m, h1, h2, rfl, rfl⟩ := h
  rw [nxM_len] at hi ⊢
  exact mk_alive h1 hr h2 hi h0
end Go.Proofs.YtjelgphhlcecoaaGreatDoor
