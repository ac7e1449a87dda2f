/- A text's bytes. -/
import Derived.Test.YtlpbeieljjgbaaaGreatDoorJ8
namespace Go.Proofs.YtlpbeieljjgbaaaGreatDoor

theorem strT_list (s : ByteArray) : strT s.data.toList = s := by
  apply ByteArray.ext
  simp [strT]

end Go.Proofs.YtlpbeieljjgbaaaGreatDoor
