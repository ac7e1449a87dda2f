/- The contract of long. -/
import Derived.Test.YtklfcjgambdncaaDoorNums
namespace Go.Proofs.YtklfcjgambdncaaDoor
open Go.RowKit

theorem longC (v : Value) (l : List Int) (w : World) (hl : l.length ≤ 9223372036854775807) (hA : Nums w v l) : Calls Tryd.prog 6 #[v] w fun e w' => e = .returned (.bool (decide (300 < l.length))) ∧ w' = w := by
  obtain ⟨aa, ca, rfl, _, _, hA⟩ := hA
  clear hA
  by_cases h : 300 < l.length
  · have h' : (300 : Int) < l.length := by omega
    go_enter Tryd.func6, Tryd.ntmps6
    go_wp2
    go_ret
    first | exact ⟨rfl, rfl⟩ | exact ⟨by rw [decide_eq_true h, ← decide_eq_true h']; rfl, rfl⟩
  · have h' : ¬ (300 : Int) < l.length := by omega
    go_enter Tryd.func6, Tryd.ntmps6
    go_wp2
    go_ret
    first | exact ⟨rfl, rfl⟩ | exact ⟨by rw [decide_eq_false h, ← decide_eq_false h']; rfl, rfl⟩

end Go.Proofs.YtklfcjgambdncaaDoor
