/- A grammar that is handed in, opened. -/
import Derived.Test.YtcledgljbmepaaaGreatDoorJ14
import Derived.Deep.Strs
namespace Go.Proofs.YtcledgljbmepaaaGreatDoor
open Go.ChangeShapes Go.WideShapes Go.ChangeAt Go.RowKit

theorem strT_of (s : ByteArray) : s = strT s.data.toList := by obtain ⟨⟨l⟩⟩ := s; rfl
instance : Inhabited Rl := ⟨⟨[], [], false⟩⟩
instance : Inhabited Pd := ⟨⟨0, [], 0⟩⟩
variable {H : Type} {enc : TypeId × Value → H} {W : World}
end Go.Proofs.YtcledgljbmepaaaGreatDoor
