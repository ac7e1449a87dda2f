/- The reader: what it is; ahead, take, next. -/
import Derived.Test.YtjiljfmejgiabaaTxt
import Derived.WalkLawsBesides
namespace Go.Proofs.Ytjiljfmejgiabaa
open Go.RowKit

/-- the reader: its text, what is still to be read, its cells -/
def At (w : World) (rb : Nat) (v : Value) (s q : Txt) : Prop := ∃ pre : Txt, s = pre ++ q ∧ w.heap[rb]? = some (.cells #[.string (strT s), .int .i64 (pre.length : Int), v] 45 (0, 0))
theorem At.keep {w w' : World} {rb : Nat} {v : Value} {s q : Txt} (h : At w rb v s q) (hb : Below w.heap.size w w') : At w' rb v s q := by
  obtain ⟨pre, h1, h2⟩ := h
  exact ⟨pre, h1, (hb.block rb (blk_lt h2)).trans h2⟩
theorem rd3 {w : World} {b : Nat} {x0 x1 x2 : Value} {T : TypeId} (h : w.heap[b]? = some (.cells #[x0, x1, x2] T (0, 0))) :
    w.cell? ⟨b, 0, none⟩ = some x0 ∧ w.cell? ⟨b, 1, none⟩ = some x1 ∧ w.cell? ⟨b, 2, none⟩ = some x2 ∧ w.frozen? ⟨b, 1, none⟩ = false ∧ w.frozen? ⟨b, 2, none⟩ = false := ⟨blk_cell h rfl, blk_cell h rfl, blk_cell h rfl, blk_frozen h 1, blk_frozen h 2⟩

set_option maxHeartbeats 1000000 in
theorem aheadNo (w : World) (rb k : Nat) (v : Value) (S : ByteArray) (z : Int) (_hs : S.size ≤ 1000) (hk : k = S.size) (h : w.heap[rb]? = some (.cells #[.string S, .int .i64 (k : Int), v] 45 (0, 0))) :
    Calls Try.prog 28 #[.pointer (some ⟨rb, 0, none⟩), .int .u8 z] w fun e w' => e = .returned (.bool false) ∧ Below w.heap.size w w' := by
  obtain ⟨c0, c1, c2, c3, c4⟩ := rd3 h
  have hlt : ¬ (k : Int) < (S.size : Int) := by omega
  have hd : decide ((k : Int) < (S.size : Int)) = false := decide_eq_false hlt
  clear h
  go_enter Try.func28, Try.ntmps28
  go_wp2_with fail
  go_quiet (fail)
  go_wp2
  go_ret
  exact ⟨rfl, ⟨rfl, rfl, rfl, Nat.le_refl _, fun _ _ => rfl⟩⟩

set_option maxHeartbeats 1000000 in
theorem aheadSome (w : World) (rb k : Nat) (v : Value) (S : ByteArray) (z : Int) (_hs : S.size ≤ 1000) (hk : k < S.size) (h : w.heap[rb]? = some (.cells #[.string S, .int .i64 (k : Int), v] 45 (0, 0))) :
    Calls Try.prog 28 #[.pointer (some ⟨rb, 0, none⟩), .int .u8 z] w fun e w' => e = .returned (.bool ((S[k].toNat : Int) == z)) ∧ Below w.heap.size w w' := by
  obtain ⟨c0, c1, c2, c3, c4⟩ := rd3 h
  have hlt : (k : Int) < (S.size : Int) := by omega
  clear h
  go_enter Try.func28, Try.ntmps28
  go_wp2_with fail
  go_quiet (fail)
  go_wp2
  go_ret
  exact ⟨rfl, ⟨rfl, rfl, rfl, Nat.le_refl _, fun _ _ => rfl⟩⟩

end Go.Proofs.Ytjiljfmejgiabaa
