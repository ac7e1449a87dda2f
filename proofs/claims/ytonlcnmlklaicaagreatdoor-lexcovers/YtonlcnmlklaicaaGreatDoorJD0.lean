/- A byte's bounds. -/
import Derived.Test.YtonlcnmlklaicaaGreatDoorJ34
namespace Go.Proofs.YtonlcnmlklaicaaGreatDoor
open Go.ChangeShapes Go.WideShapes Go.ChangeAt Go.RowKit

theorem bound_u8 {n : Int} (h : (Lit.int .u8 n).wf = true) : 0 ≤ n ∧ n < 256 := by
  have h1 : IntKind.u8.min = 0 := by decide
  have h2 : IntKind.u8.max = 255 := by decide
  simp [Lit.wf] at h
  omega

end Go.Proofs.YtonlcnmlklaicaaGreatDoor
