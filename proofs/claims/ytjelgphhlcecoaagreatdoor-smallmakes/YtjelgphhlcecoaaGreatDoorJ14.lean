/- The reference: spot, First, Last. The reference: First. The reference: Last. -/
import Derived.Test.YtjelgphhlcecoaaGreatDoorJ13
namespace Go.Proofs.YtjelgphhlcecoaaGreatDoor
open Go.RowKit

end Go.Proofs.YtjelgphhlcecoaaGreatDoor
namespace Go.Proofs.YtjelgphhlcecoaaGreatDoor
open Go.RowKit

/-- what First and Last answer of a rule -/
def FirC (f : FuncId) (L : Rx → Nat → List Int) (t : Rx) : Prop := ∀ (v : Value) (l pre suf : List Cel) (E : Int) (w : World), Cels w v l → l.length ≤ 60 → l = pre ++ (post t ++ suf) → E + 1 = ((pre.length + (post t).length : Nat) : Int) →
    Calls Tryz.prog f #[v, .int .i64 E] w fun e w' => ∃ v', e = .returned v' ∧ Own w' w.heap.size v' (L t (numS pre)) ∧ Below w.heap.size w w'
end Go.Proofs.YtjelgphhlcecoaaGreatDoor
namespace Go.Proofs.YtjelgphhlcecoaaGreatDoor
open Go.RowKit

end Go.Proofs.YtjelgphhlcecoaaGreatDoor
