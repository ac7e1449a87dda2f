/- The reference's Of answers what is asked of it. -/
import Derived.Test.YtloaikjealcbmaaGreatK43
import Derived.Test.YtloaikjealcbmaaGreatK44
namespace Go.Proofs.YtloaikjealcbmaaGreat

theorem rfOf : RfOf := ⟨fun g h rv nv lv pv rv' nv' lv' pv' u bg bh hV hV' => by
 by_cases hs : SndG g ∧ SndG h
 · exact refOfYes g h rv nv lv pv rv' nv' lv' pv' u bg bh hV hV' hs.1 hs.2
 · exact refOfNo g h rv nv lv pv rv' nv' lv' pv' u bg bh hV hV' hs⟩

end Go.Proofs.YtloaikjealcbmaaGreat
