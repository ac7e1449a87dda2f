/- Null of package regex: a cell. -/
import Derived.Test.YtjiljfmejgiabaaFoldM
import Derived.Test.YtjiljfmejgiabaaRightP
import Derived.Test.YtjiljfmejgiabaaOwn
import Derived.Deep.AppendLies
import Derived.Deep.RegionHeld3
namespace Go.Proofs.Ytjiljfmejgiabaa
open Go.RowKit

theorem nullLeaf (op : Int) (a b c d : Nat) (r : Bool) (v : Value) (w : World) (ho : (op = 1 ∧ r = false) ∨ ((op = 2 ∨ op = 5 ∨ op = 7) ∧ r = true)) : Calls Try.prog 17 #[celV op a b c d, v] w fun e w' => e = .returned (.bool r) ∧ Below w.heap.size w w' := by
  rcases ho with ⟨rfl, rfl⟩ | ⟨rfl | rfl | rfl, rfl⟩
  all_goals
    go_enter Try.func17, Try.ntmps17
    go_wp2
    go_ret
    exact ⟨rfl, al' w _⟩
theorem nullTwo (op : Int) (a b c d : Nat) (x y : Bool) (g o cap : Nat) (w : World) (ho : op = 3 ∨ op = 4) (c0 : w.cell? ⟨g, o, none⟩ = some (.bool x)) (c1 : w.cell? ⟨g, o + 1, none⟩ = some (.bool y)) : Calls Try.prog 17 #[celV op a b c d, .slice (some ⟨g, o, none⟩) 2 cap] w fun e w' => e = .returned (.bool (if op = 3 then x && y else x || y)) ∧ Below w.heap.size w w' := by
  have e0 := keep_cell (al' w (.cells #[.int .i64 op, .int .u64 (a : Int), .int .u64 (b : Int), .int .u64 (c : Int), .int .u64 (d : Int)] 33)) c0
  have e1 := keep_cell (al' w (.cells #[.int .i64 op, .int .u64 (a : Int), .int .u64 (b : Int), .int .u64 (c : Int), .int .u64 (d : Int)] 33)) c1
  rcases ho with rfl | rfl <;> cases x
  all_goals
    go_enter Try.func17, Try.ntmps17
    go_wp2
    go_ret
    exact ⟨by cases y <;> rfl, al' w _⟩
theorem nullOne (a b c d : Nat) (x : Bool) (g o cap : Nat) (w : World) (c0 : w.cell? ⟨g, o, none⟩ = some (.bool x)) : Calls Try.prog 17 #[celV 6 a b c d, .slice (some ⟨g, o, none⟩) 1 cap] w fun e w' => e = .returned (.bool x) ∧ Below w.heap.size w w' := by
  have e0 := keep_cell (al' w (.cells #[.int .i64 6, .int .u64 (a : Int), .int .u64 (b : Int), .int .u64 (c : Int), .int .u64 (d : Int)] 33)) c0
  go_enter Try.func17, Try.ntmps17
  go_wp2
  go_ret
  exact ⟨rfl, al' w _⟩

end Go.Proofs.Ytjiljfmejgiabaa
