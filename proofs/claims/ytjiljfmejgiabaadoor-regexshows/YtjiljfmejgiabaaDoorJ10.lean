/- Texts as Go has them. The reader: what it is; ahead, take, next. -/
import Derived.Test.YtjiljfmejgiabaaDoorJ7
import Derived.Test.YtjiljfmejgiabaaDoorJ9
import Derived.Laws.BytesString
import Derived.BigQuiet
import Derived.WalkLawsBesides
namespace Go.Proofs.YtjiljfmejgiabaaDoor
open Go.RowKit

/-- a text as Go has it -/
def strT (s : Txt) : ByteArray := ⟨s.toArray⟩
theorem strT_app (s t : Txt) : strT s ++ strT t = strT (s ++ t) := by
  apply ByteArray.ext
  rw [ByteArray.data_append]
  simp [strT]
theorem strT_size (s : Txt) : (strT s).size = s.length := by simp [strT, ByteArray.size]
theorem strT_at (s : Txt) (k : Nat) (_h : k < (strT s).size) (h' : k < s.length) : (strT s)[k] = s[k] := by
  show s.toArray[k] = _
  simp
theorem run_cat (a b : ByteArray) (w : World) (h : a.size + b.size ≤ 1000000000) : (Op.stringOp .add a b).run Tryd.prog w = .ok (.string (a ++ b)) w := by
  have : a.size + b.size ≤ maxLen := by unfold maxLen; omega
  simp [Op.stringOp]
  omega
theorem ofNat_toNat {b : Nat} (h : b < 256) : (UInt8.ofNat b).toNat = b := by
  rw [UInt8.toNat_ofNat']; exact Nat.mod_eq_of_lt h

/-- all is as it was but for the blocks F, and for what is new -/
structure Kept (F : Nat → Prop) (w w' : World) : Prop where
  os : w'.os = w.os
  tape : w'.tape = w.tape
  output : w'.output = w.output
  size : w.heap.size ≤ w'.heap.size
  block : ∀ k, k < w.heap.size → ¬ F k → w'.heap[k]? = w.heap[k]?
def noBlk : Nat → Prop := fun _ => False
def oneBlk (b : Nat) : Nat → Prop := fun k => k = b
theorem blk_lt {w : World} {b : Nat} {x : Obj} (h : w.heap[b]? = some x) : b < w.heap.size := by
  rcases Nat.lt_or_ge b w.heap.size with h1 | h1
  · exact h1
  · rw [Array.getElem?_eq_none h1] at h; cases h
theorem blk_cell {w : World} {b : Nat} {cs : Array Value} {T : TypeId} {fr : Nat × Nat} (h : w.heap[b]? = some (.cells cs T fr)) {o : Nat} {v : Value} (hv : cs[o]? = some v) : w.cell? ⟨b, o, none⟩ = some v := by
  simp [World.cell?, h, hv]
theorem blk_frozen {w : World} {b : Nat} {cs : Array Value} {T : TypeId} (h : w.heap[b]? = some (.cells cs T (0, 0))) (o : Nat) : w.frozen? ⟨b, o, none⟩ = false := by
  simp [World.frozen?, h]
theorem Kept.refl (F : Nat → Prop) (w : World) : Kept F w w := ⟨rfl, rfl, rfl, Nat.le_refl _, fun _ _ _ => rfl⟩
theorem Kept.mono {F G : Nat → Prop} {w w' : World} (h : Kept F w w') (hFG : ∀ k, k < w.heap.size → F k → G k) : Kept G w w' :=
  ⟨h.os, h.tape, h.output, h.size, fun k hk hn => h.block k hk (fun hf => hn (hFG k hk hf))⟩
theorem Kept.step {F G : Nat → Prop} {w u v : World} (h : Kept F w u) (h2 : Kept G u v) (hG : ∀ k, k < w.heap.size → G k → F k) : Kept F w v :=
  ⟨h2.os.trans h.os, h2.tape.trans h.tape, h2.output.trans h.output, Nat.le_trans h.size h2.size, fun k hk hn =>
    (h2.block k (Nat.lt_of_lt_of_le hk h.size) (fun hg => hn (hG k hk hg))).trans (h.block k hk hn)⟩
theorem Kept.trans {F : Nat → Prop} {w u v : World} (h : Kept F w u) (h2 : Kept F u v) : Kept F w v := h.step h2 fun _ _ h => h
theorem Kept.of_below {w w' : World} (h : Below w.heap.size w w') {F : Nat → Prop} : Kept F w w' := ⟨h.os, h.tape, h.output, h.size, fun k hk _ => h.block k hk⟩
theorem Kept.none {w w' : World} (h : Kept noBlk w w') : Below w.heap.size w w' := ⟨h.os, h.tape, h.output, h.size, fun k hk => h.block k hk id⟩
theorem Kept.below {F : Nat → Prop} {N : Nat} {w w' : World} (h : Kept F w w') (hF : ∀ k, F k → N ≤ k) (hN : N ≤ w.heap.size) : Below N w w' :=
  ⟨h.os, h.tape, h.output, h.size, fun k hk => h.block k (Nat.lt_of_lt_of_le hk hN) fun hf => Nat.lt_irrefl k (Nat.lt_of_lt_of_le hk (hF k hf))⟩
theorem Kept.setCell {F : Nat → Prop} {w u : World} (h : Kept F w u) {a : Addr} {v : Value} (ha : a.block < w.heap.size → F a.block) : Kept F w (u.setCell a v) :=
  ⟨h.os, h.tape, h.output, by simpa using h.size, fun k hk hn => by
    rw [Below.heap_setCell u a v k (fun e => hn (e ▸ ha (e ▸ hk)))]; exact h.block k hk hn⟩
theorem Kept.blk {F : Nat → Prop} {w w' : World} (h : Kept F w w') {b : Nat} {x : Obj} (hx : w.heap[b]? = some x) (hn : ¬ F b) : w'.heap[b]? = some x := (h.block b (blk_lt hx) hn).trans hx

end Go.Proofs.YtjiljfmejgiabaaDoor
namespace Go.Proofs.YtjiljfmejgiabaaDoor
open Go.RowKit

/-- the reader: its text, what is still to be read, its cells -/
def At (w : World) (rb : Nat) (v : Value) (s q : Txt) : Prop := ∃ pre : Txt, s = pre ++ q ∧ w.heap[rb]? = some (.cells #[.string (strT s), .int .i64 (pre.length : Int), v] 55 (0, 0))
theorem At.keep {w w' : World} {rb : Nat} {v : Value} {s q : Txt} (h : At w rb v s q) (hb : Below w.heap.size w w') : At w' rb v s q := by
  obtain ⟨pre, h1, h2⟩ := h
  exact ⟨pre, h1, (hb.block rb (blk_lt h2)).trans h2⟩
theorem rd3 {w : World} {b : Nat} {x0 x1 x2 : Value} {T : TypeId} (h : w.heap[b]? = some (.cells #[x0, x1, x2] T (0, 0))) :
    w.cell? ⟨b, 0, none⟩ = some x0 ∧ w.cell? ⟨b, 1, none⟩ = some x1 ∧ w.cell? ⟨b, 2, none⟩ = some x2 ∧ w.frozen? ⟨b, 1, none⟩ = false ∧ w.frozen? ⟨b, 2, none⟩ = false := ⟨blk_cell h rfl, blk_cell h rfl, blk_cell h rfl, blk_frozen h 1, blk_frozen h 2⟩

set_option maxHeartbeats 1000000 in
theorem aheadNo (w : World) (rb k : Nat) (v : Value) (S : ByteArray) (z : Int) (_hs : S.size ≤ 1000) (hk : k = S.size) (h : w.heap[rb]? = some (.cells #[.string S, .int .i64 (k : Int), v] 55 (0, 0))) :
    Calls Tryd.prog 56 #[.pointer (some ⟨rb, 0, none⟩), .int .u8 z] w fun e w' => e = .returned (.bool false) ∧ Below w.heap.size w w' := by
  obtain ⟨c0, c1, c2, c3, c4⟩ := rd3 h
  have hlt : ¬ (k : Int) < (S.size : Int) := by omega
  have hd : decide ((k : Int) < (S.size : Int)) = false := decide_eq_false hlt
  clear h
  go_enter Tryd.func56, Tryd.ntmps56
  go_wp2_with fail
  go_quiet (fail)
  go_wp2
  go_ret
  exact ⟨rfl, ⟨rfl, rfl, rfl, Nat.le_refl _, fun _ _ => rfl⟩⟩

set_option maxHeartbeats 1000000 in
theorem aheadSome (w : World) (rb k : Nat) (v : Value) (S : ByteArray) (z : Int) (_hs : S.size ≤ 1000) (hk : k < S.size) (h : w.heap[rb]? = some (.cells #[.string S, .int .i64 (k : Int), v] 55 (0, 0))) :
    Calls Tryd.prog 56 #[.pointer (some ⟨rb, 0, none⟩), .int .u8 z] w fun e w' => e = .returned (.bool ((S[k].toNat : Int) == z)) ∧ Below w.heap.size w w' := by
  obtain ⟨c0, c1, c2, c3, c4⟩ := rd3 h
  have hlt : (k : Int) < (S.size : Int) := by omega
  clear h
  go_enter Tryd.func56, Tryd.ntmps56
  go_wp2_with fail
  go_quiet (fail)
  go_wp2
  go_ret
  exact ⟨rfl, ⟨rfl, rfl, rfl, Nat.le_refl _, fun _ _ => rfl⟩⟩

end Go.Proofs.YtjiljfmejgiabaaDoor
