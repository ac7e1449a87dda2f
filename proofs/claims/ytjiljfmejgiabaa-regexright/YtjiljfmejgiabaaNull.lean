/- The reference: Null. -/
import Derived.Test.YtjiljfmejgiabaaEmpty
namespace Go.Proofs.Ytjiljfmejgiabaa
open Go.RowKit

theorem nullNo (v : Value) (l : List Cel) (w : World) (hA : Cels w v l) (h : rightB l = false) : Calls Try.prog 10 #[v] w fun e w' => e = .returned (.bool false) ∧ w' = w := by
  have GR := hid (rightC v l w hA)
  rw [h] at GR
  clear hA h
  go_enter Try.func10, Try.ntmps10
  go_wp2_with (go_at_call 8; refine GR.out.mono ?_; rintro e u1 ⟨rfl, hu⟩; subst u1)
  go_ret
  exact ⟨rfl, rfl⟩
theorem nullYes (v : Value) (t : Rx) (w : World) (hA : Cels w v (post t)) (ho : t.ok) (hl : (post t).length ≤ 60) : Calls Try.prog 10 #[v] w fun e w' => e = .returned (.bool t.null) ∧ w' = w := by
  have GR := hid (rightC v (post t) w hA)
  rw [right_post ho hl] at GR
  have hp := post_pos t
  have GE := hid (emptyC t v (post t) [] [] (((post t).length : Int) - 1) w hA hl (by simp) (by simp))
  obtain ⟨av, cv, rfl, _, _, _, _⟩ := hA
  generalize t.null = n at GE ⊢
  generalize (post t).length = m at GR GE hp hl ⊢
  go_enter Try.func10, Try.ntmps10
  go_wp2_with (first
    | (go_at_call 8; refine GR.out.mono ?_; rintro e u1 ⟨rfl, hu⟩; subst u1)
    | (go_at_call 18; refine GE.out.mono ?_; rintro e u2 ⟨rfl, hu2⟩; subst u2))
  go_ret
  exact ⟨rfl, rfl⟩

end Go.Proofs.Ytjiljfmejgiabaa
