/- What is asked of package regex, here. -/
import Derived.Test.YtjiljfmejgiabaaConP
import Derived.Test.YtjiljfmejgiabaaParse
import Derived.Test.YtjiljfmejgiabaaFoldB
namespace Go.Proofs.Ytjiljfmejgiabaa
open Go.RowKit

theorem regexOK : RegexOK (fun _ => True) where
  keep := fun _ _ _ _ => trivial
  right := fun v l u hc _ => rightP v l u hc
  nullNo := fun v l u hc hr _ => nullPNo v l u hc hr
  nullYes := fun v t u hc ho h60 _ => nullPYes v t u hc ho h60
  long := fun s u hs _ => parseLong s u hs
  bad := fun s u hs hr _ => (parseBad s u hs hr).mono fun _ _ ⟨a, c, n, he, _, hb⟩ => ⟨a, c, n, he, hb⟩
  full := fun s t u hs hr hl _ => parseFull s t u hs hr hl
  good := fun s t u hs hr hl _ => parseGood s t u hs hr hl
  wake := fun u _ => parseWake u

end Go.Proofs.Ytjiljfmejgiabaa
