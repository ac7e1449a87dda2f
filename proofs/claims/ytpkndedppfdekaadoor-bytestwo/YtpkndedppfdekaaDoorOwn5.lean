/- The contracts of package bytes, together. -/
import Derived.Test.YtpkndedppfdekaaDoorPrt
namespace Go.Proofs.YtpkndedppfdekaaDoor
open Go.RowKit

theorem bytesOK : BytesOK Tab where
  keep := fun _ _ h hb => h.keep hb
  one := fun x u hx _ => oneC x u hx
  span := fun f t u hf ht _ => spanC f t u hf ht
  has := fun S x u hS hx _ => hasW S x u hS hx
  or := fun S T u hS hT _ => orW S T u hS hT
  and := fun S T u hS hT _ => andW S T u hS hT
  not := fun S u hS _ => notW S u hS
  count := fun S u hS _ => countW S u hS
  least := fun S u hS hT => leastW S u hS hT
  parts := fun v l u hl hA hT => partsC v l u hl hA hT

end Go.Proofs.YtpkndedppfdekaaDoor
