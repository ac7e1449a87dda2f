/- The reference: told, where it is a class (toldSome). The reference: told. Where operands end. The reference: Power, part, text, Show. -/
import Derived.Test.YtcledgljbmepaaaGreatDoorJ25
import Derived.Test.YtcledgljbmepaaaGreatDoorJ27
import Derived.Test.YtcledgljbmepaaaGreatDoorJ4
namespace Go.Proofs.YtcledgljbmepaaaGreatDoor
open Go.RowKit

end Go.Proofs.YtcledgljbmepaaaGreatDoor
namespace Go.Proofs.YtcledgljbmepaaaGreatDoor
open Go.RowKit

end Go.Proofs.YtcledgljbmepaaaGreatDoor
namespace Go.Proofs.YtcledgljbmepaaaGreatDoor
open Go.RowKit

end Go.Proofs.YtcledgljbmepaaaGreatDoor
namespace Go.Proofs.YtcledgljbmepaaaGreatDoor
open Go.RowKit

theorem runs_len (S : W4) : ∀ f b, (runsL S b f).length ≤ 9 * f
  | 0, b => by simp [runsL]
  | f + 1, b => by
    have ih := runs_len S f (b + runN S b 256 + 1)
    rw [runsL]
    split
    · have h1 : (runL b (runN S b 256)).length ≤ 9 := by
        unfold runL
        have x1 := alone_le b tellC
        have x2 := alone_le (b + runN S b 256 - 1) tellC
        rw [List.length_append, List.length_append]
        split <;> split <;> split <;> simp <;> omega
      rw [List.length_append]; omega
    · simp
theorem told_len (S : W4) : (toldL S).length ≤ 2400 := by
  unfold toldL
  split
  · have := alone_le (leastB S).toNat tellA; omega
  · split
    · simp
    · have := runs_len S 257 0
      simp
      omega
theorem par_len (p : Nat) (t : Rx) (s : Txt) : (par p t s).length ≤ s.length + 2 := by
  unfold par
  split <;> simp
theorem txt_len : ∀ t : Rx, (txt t).length ≤ 3000 * (post t).length
  | .set S => by have := told_len S; simp [txt, post]; omega
  | .eps => by simp [txt, post]
  | .cat a b => by
    have h1 := txt_len a; have h2 := txt_len b; have h3 := par_len 2 a (txt a); have h4 := par_len 3 b (txt b)
    simp [txt, post]; omega
  | .or a b => by
    have h1 := txt_len a; have h2 := txt_len b; have h3 := par_len 1 a (txt a); have h4 := par_len 2 b (txt b)
    simp [txt, post]; omega
  | .star a => by have h1 := txt_len a; have h3 := par_len 3 a (txt a); simp [txt, post]; omega
  | .plus a => by have h1 := txt_len a; have h3 := par_len 3 a (txt a); simp [txt, post]; omega
  | .opt a => by have h1 := txt_len a; have h3 := par_len 3 a (txt a); simp [txt, post]; omega

end Go.Proofs.YtcledgljbmepaaaGreatDoor
