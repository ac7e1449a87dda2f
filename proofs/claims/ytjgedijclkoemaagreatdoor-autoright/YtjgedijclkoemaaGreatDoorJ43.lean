/- What the five laws of layer 17 share, part 43: no statement of its own. -/
import Derived.Test.YtjgedijclkoemaaGreatDoorJ41
import Derived.Test.YtjgedijclkoemaaGreatDoorJ42
namespace Go.Proofs.YtjgedijclkoemaaGreatDoor
open Go.RowKit Go.Maps Go.Sort
theorem a5z {w:World} (hT:Tab w):AutOK w:=⟨fun g rv nv lv pv u hu hf hV=>b8q g rv nv lv pv u (hT.keep hu) hf hV⟩
theorem a7a {w:World} (hT:Tab w):WkOK17 w:=b1X (a5z hT) c0j fun u _=>c3F.yes exI _ u (by decide) c0k
end Go.Proofs.YtjgedijclkoemaaGreatDoor
