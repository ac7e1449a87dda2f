/- The reference: fitsAt of RCat. The reference: fitsAt of ROr. The reference: fitsAt of ROpt. The reference: fitsAt, Fits. -/
import Derived.Test.YtjelgphhlcecoaaGreatDoorJ7
namespace Go.Proofs.YtjelgphhlcecoaaGreatDoor
open Go.RowKit

end Go.Proofs.YtjelgphhlcecoaaGreatDoor
namespace Go.Proofs.YtjelgphhlcecoaaGreatDoor
open Go.RowKit

end Go.Proofs.YtjelgphhlcecoaaGreatDoor
namespace Go.Proofs.YtjelgphhlcecoaaGreatDoor
open Go.RowKit

end Go.Proofs.YtjelgphhlcecoaaGreatDoor
namespace Go.Proofs.YtjelgphhlcecoaaGreatDoor
open Go.RowKit

end Go.Proofs.YtjelgphhlcecoaaGreatDoor
