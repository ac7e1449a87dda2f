/- What layer 11 leans on: worlds, rows, texts. -/
import Derived.Test.YtkpakpfjgeannaaRows
import Derived.Test.YtkpakpfjgeannaaChecked
import Derived.WalkKit
import Derived.ProofKit
import Derived.OpenShut
import Derived.Carry
import Derived.Lib.SmallJoins
import Derived.WalkSpells
import Derived.Laws.StructEq
import Derived.ChangeKeysEq
import Derived.Deep.DeepHandedRow
import Derived.Lib.LaidTab
import Derived.Shelf.Spec.TrailingZeros
import Derived.MakeChecks
import Derived.Lib.TrailingZeros
import Derived.Laws.AppendOwnNone
import Derived.Laws.OwnMore
import Derived.Laws.BytesString
import Derived.BigQuiet
import Derived.OwnWalk
import Derived.Deep.RegionHeld3
import Derived.Deep.RegionLaw
import Derived.Deep.OwnRows
import Derived.BigRegion
import Derived.Lib.SlicesCompact
import Derived.Lib.OwnBridge
import Derived.Deep.QuietTactic
import Derived.Deep.AppendLies
import Derived.Maps.AppendAt
import Derived.Maps.OwnSet
import Derived.Deep.DrawnRows
import Derived.WalkMore
import Derived.Lib.QuietBelow
import Derived.WalkLawsBesides
import Derived.Laws.StandIn
import Derived.Lib.Bytealg
import Derived.Laws.BitsAllLaws
import Derived.Laws.Bits128
import Derived.Lib.UnsafeStr
import Derived.Laws.BytesArg
import Derived.Lib.IndexLaws
import Derived.Defers
import Derived.Recover
import Derived.ChangeSlices
import Derived.Deep.Slices
import Derived.WideKeyArr2
import Derived.SizedLaws
namespace Go.Proofs.Ytkpakpfjgeannaa
open Go.ChangeShapes Go.WideShapes Go.ChangeAt Go.RowKit Go.Sort Go.Maps Go.Lib

theorem hid {p : Prop} (h : p) : Hid p := h
theorem al' (u : World) (o : Obj) : Below u.heap.size u (u.alloc o) := (Below.refl _ u).alloc (Nat.le_refl _) _
theorem bl_step {w u w1 : World} (h : Below w.heap.size w u) (hb : Below u.heap.size u w1) : Below w.heap.size w w1 := h.trans (hb.mono h.size)
theorem bl_set {B : Nat} {u w : World} (h : Below B u w) (b o : Nat) (v : Value) (hb : B ≤ b) : Below B u (w.setCell ⟨b, o, none⟩ v) := h.setCell (p := ⟨b, o, none⟩) hb v
theorem heap_new (w : World) (o : Obj) : (w.alloc o).heap[w.heap.size]? = some o := by
  show (w.heap.push o)[w.heap.size]? = some o
  simp
theorem heap_setCell {w : World} {b o : Nat} {cs : Array Value} {T : TypeId} {fr : Nat × Nat} {v : Value} (h : w.heap[b]? = some (.cells cs T fr)) : (w.setCell ⟨b, o, none⟩ v).heap[b]? = some (.cells (cs.setIfInBounds o v) T fr) := by
  simp [World.setCell, Array.getElem?_modify, h]
theorem keep_cell {u w1 : World} (hb : Below u.heap.size u w1) {b o : Nat} {v : Value} (h : u.cell? ⟨b, o, none⟩ = some v) : w1.cell? ⟨b, o, none⟩ = some v :=
  (World.cell?_of_block (hb.block b (World.block_lt_of_cell? u _ h))).trans h
abbrev Txt := List UInt8
theorem own_keep {w w' : World} {base size n : Nat} {e : TypeId} {v : Value} {xs : List Value} (h : w.ownsRow base e size v n xs) (hb : ∀ k, v.ownBlock = some k → w'.heap[k]? = w.heap[k]?) : w'.ownsRow base e size v n xs := by
  rcases h.2 with ⟨rfl, h0⟩ | ⟨g, cap, cur, rfl, h1, h2, h3⟩
  · exact ⟨h.1, .inl ⟨rfl, h0⟩⟩
  · exact ⟨h.1, .inr ⟨g, cap, cur, rfl, h1, (hb g rfl).trans h2, h3⟩⟩
theorem own_below {w w' : World} {base size n : Nat} {e : TypeId} {v : Value} {xs : List Value} (h : w.ownsRow base e size v n xs) (hb : Below w.heap.size w w') : w'.ownsRow base e size v n xs :=
  own_keep h fun k hk => hb.block k (h.lt k hk).2
/-- a text as Go has it -/
def strT (s : Txt) : ByteArray := ⟨s.toArray⟩
theorem strT_app (s t : Txt) : strT s ++ strT t = strT (s ++ t) := by
  apply ByteArray.ext
  rw [ByteArray.data_append]
  simp [strT]
theorem strT_size (s : Txt) : (strT s).size = s.length := by simp [strT, ByteArray.size]
theorem strT_at (s : Txt) (k : Nat) (_h : k < (strT s).size) (h' : k < s.length) : (strT s)[k] = s[k] := by
  show s.toArray[k] = _
  simp
theorem ofNat_toNat {b : Nat} (h : b < 256) : (UInt8.ofNat b).toNat = b := by
  rw [UInt8.toNat_ofNat']; exact Nat.mod_eq_of_lt h

/-- all is as it was but for the blocks F, and for what is new -/
structure Kept (F : Nat → Prop) (w w' : World) : Prop where
  os : w'.os = w.os
  tape : w'.tape = w.tape
  output : w'.output = w.output
  size : w.heap.size ≤ w'.heap.size
  block : ∀ k, k < w.heap.size → ¬ F k → w'.heap[k]? = w.heap[k]?
def noBlk : Nat → Prop := fun _ => False
theorem blk_lt {w : World} {b : Nat} {x : Obj} (h : w.heap[b]? = some x) : b < w.heap.size := by
  rcases Nat.lt_or_ge b w.heap.size with h1 | h1
  · exact h1
  · rw [Array.getElem?_eq_none h1] at h; cases h
theorem blk_cell {w : World} {b : Nat} {cs : Array Value} {T : TypeId} {fr : Nat × Nat} (h : w.heap[b]? = some (.cells cs T fr)) {o : Nat} {v : Value} (hv : cs[o]? = some v) : w.cell? ⟨b, o, none⟩ = some v := by
  simp [World.cell?, h, hv]
theorem blk_frozen {w : World} {b : Nat} {cs : Array Value} {T : TypeId} (h : w.heap[b]? = some (.cells cs T (0, 0))) (o : Nat) : w.frozen? ⟨b, o, none⟩ = false := by
  simp [World.frozen?, h]
theorem Kept.refl (F : Nat → Prop) (w : World) : Kept F w w := ⟨rfl, rfl, rfl, Nat.le_refl _, fun _ _ _ => rfl⟩
theorem Kept.mono {F G : Nat → Prop} {w w' : World} (h : Kept F w w') (hFG : ∀ k, k < w.heap.size → F k → G k) : Kept G w w' :=
  ⟨h.os, h.tape, h.output, h.size, fun k hk hn => h.block k hk (fun hf => hn (hFG k hk hf))⟩
theorem Kept.step {F G : Nat → Prop} {w u v : World} (h : Kept F w u) (h2 : Kept G u v) (hG : ∀ k, k < w.heap.size → G k → F k) : Kept F w v :=
  ⟨h2.os.trans h.os, h2.tape.trans h.tape, h2.output.trans h.output, Nat.le_trans h.size h2.size, fun k hk hn =>
    (h2.block k (Nat.lt_of_lt_of_le hk h.size) (fun hg => hn (hG k hk hg))).trans (h.block k hk hn)⟩
theorem Kept.trans {F : Nat → Prop} {w u v : World} (h : Kept F w u) (h2 : Kept F u v) : Kept F w v := h.step h2 fun _ _ h => h
theorem Kept.none {w w' : World} (h : Kept noBlk w w') : Below w.heap.size w w' := ⟨h.os, h.tape, h.output, h.size, fun k hk => h.block k hk id⟩
theorem Kept.below {F : Nat → Prop} {N : Nat} {w w' : World} (h : Kept F w w') (hF : ∀ k, F k → N ≤ k) (hN : N ≤ w.heap.size) : Below N w w' :=
  ⟨h.os, h.tape, h.output, h.size, fun k hk => h.block k (Nat.lt_of_lt_of_le hk hN) fun hf => Nat.lt_irrefl k (Nat.lt_of_lt_of_le hk (hF k hf))⟩
theorem Kept.setCell {F : Nat → Prop} {w u : World} (h : Kept F w u) {a : Addr} {v : Value} (ha : a.block < w.heap.size → F a.block) : Kept F w (u.setCell a v) :=
  ⟨h.os, h.tape, h.output, by simpa using h.size, fun k hk hn => by
    rw [Below.heap_setCell u a v k (fun e => hn (e ▸ ha (e ▸ hk)))]; exact h.block k hk hn⟩
theorem Kept.blk {F : Nat → Prop} {w w' : World} (h : Kept F w w') {b : Nat} {x : Obj} (hx : w.heap[b]? = some x) (hn : ¬ F b) : w'.heap[b]? = some x := (h.block b (blk_lt hx) hn).trans hx

theorem own_base {w : World} {B B' n size : Nat} {e : TypeId} {v : Value} {xs : List Value} (h : w.ownsRow B e size v n xs) (hB : B' ≤ B) : w.ownsRow B' e size v n xs := by
  refine ⟨h.1, h.2.imp id ?_⟩
  rintro ⟨g, cap, cur, rfl, h2, h3⟩
  exact ⟨g, cap, cur, rfl, Nat.le_trans hB h2, h3⟩
theorem Kept.of_grown {w w' : World} {r : Option Nat} (h : w.grownBy w' r) : Kept (fun k => r = some k) w w' := by
  obtain ⟨h1, h2, h3, h4, h5⟩ := h
  exact ⟨by assumption, by assumption, by assumption, by assumption, fun k hk hn => h5 k hk (fun e => hn (by first | exact e | exact e.symm))⟩
theorem own_kept {F : Nat → Prop} {w w' : World} {base size n : Nat} {e : TypeId} {v : Value} {xs : List Value} (h : w.ownsRow base e size v n xs) (hk : Kept F w w') (ho : ∀ k, v.ownBlock = some k → ¬ F k) : w'.ownsRow base e size v n xs :=
  own_keep h fun k e => hk.block k (h.lt k e).2 (ho k e)
theorem hs_keep {w w' : World} {b : Nat} {x : Obj} (h : w.heap[b]? = some x) (hb : Below w.heap.size w w') : w'.heap[b]? = some x := (hb.block b (blk_lt h)).trans h
theorem own_shape {w : World} {B n size : Nat} {e : TypeId} {v : Value} {xs : List Value} (h : w.ownsRow B e size v n xs) : ∃ a c, v = .slice a n c := by
  rcases h.2 with ⟨rfl, h0⟩ | ⟨g, cap, cur, rfl, _⟩
  · exact ⟨none, 0, by rw [h0]⟩
  · exact ⟨_, _, rfl⟩
theorem own_form3 {w : World} {B n size : Nat} {e : TypeId} {v : Value} {xs : List Value} (h : w.ownsRow B e size v n xs) (hn : 0 < n) : ∃ g cap, v = .slice (some ⟨g, 0, none⟩) n cap ∧ n ≤ cap := by
  rcases h.2 with ⟨rfl, h0⟩ | ⟨g, cap, cur, rfl, _, _, hc, _⟩
  · omega
  · exact ⟨g, cap, rfl, hc⟩
theorem own_set {w : World} {pb o size n B : Nat} {e : TypeId} {v x : Value} {xs : List Value} (h : w.ownsRow B e size v n xs) (hn : v.ownBlock ≠ some pb) : (w.setCell ⟨pb, o, none⟩ x).ownsRow B e size v n xs :=
  own_keep h fun k hk => Below.heap_setCell w ⟨pb, o, none⟩ x k (fun e => hn (by rw [hk, e]))
theorem cells2m {w : World} {b : Nat} {x0 x1 : Value} {T : TypeId} (h : w.heap[b]? = some (.cells #[x0, x1] T (0, 0))) : w.cell? ⟨b, 0, none⟩ = some x0 ∧ w.cell? ⟨b, 1, none⟩ = some x1 ∧ w.frozen? ⟨b, 0, none⟩ = false ∧ w.frozen? ⟨b, 1, none⟩ = false :=
  ⟨blk_cell h rfl, blk_cell h rfl, blk_frozen h 0, blk_frozen h 1⟩
theorem cells3m {w : World} {b t : Nat} {x y z : Value} (h : w.heap[b]? = some (.cells #[x, y, z] t (0, 0))) : (w.cell? ⟨b, 0, none⟩ = some x ∧ w.frozen? ⟨b, 0, none⟩ = false) ∧ (w.cell? ⟨b, 1, none⟩ = some y ∧ w.frozen? ⟨b, 1, none⟩ = false) ∧ (w.cell? ⟨b, 2, none⟩ = some z ∧ w.frozen? ⟨b, 2, none⟩ = false) := by
  refine ⟨⟨?_, ?_⟩, ⟨?_, ?_⟩, ⟨?_, ?_⟩⟩ <;> simp [World.cell?, World.frozen?, h]
theorem set3_0 {w : World} {b t : Nat} {x y z v : Value} (h : w.heap[b]? = some (.cells #[x, y, z] t (0, 0))) : (w.setCell ⟨b, 0, none⟩ v).heap[b]? = some (.cells #[v, y, z] t (0, 0)) := by
  exact heap_setCell h
theorem set3_1 {w : World} {b t : Nat} {x y z v : Value} (h : w.heap[b]? = some (.cells #[x, y, z] t (0, 0))) : (w.setCell ⟨b, 1, none⟩ v).heap[b]? = some (.cells #[x, v, z] t (0, 0)) := by
  exact heap_setCell h
theorem set3_2 {w : World} {b t : Nat} {x y z v : Value} (h : w.heap[b]? = some (.cells #[x, y, z] t (0, 0))) : (w.setCell ⟨b, 2, none⟩ v).heap[b]? = some (.cells #[x, y, v] t (0, 0)) := by
  exact heap_setCell h
/-- three cells stored into a block of three -/
theorem putT3 {u : World} {b t : Nat} {x y z : Value} (h : u.heap[b]? = some (.cells #[x, y, z] t (0, 0))) (v0 v1 v2 : Value) : (u.cell? ⟨b, 0, none⟩ = some x ∧ u.frozen? ⟨b, 0, none⟩ = false) ∧ ((u.setCell ⟨b, 0, none⟩ v0).cell? ⟨b, 1, none⟩ = some y ∧ (u.setCell ⟨b, 0, none⟩ v0).frozen? ⟨b, 1, none⟩ = false) ∧ (((u.setCell ⟨b, 0, none⟩ v0).setCell ⟨b, 1, none⟩ v1).cell? ⟨b, 2, none⟩ = some z ∧ ((u.setCell ⟨b, 0, none⟩ v0).setCell ⟨b, 1, none⟩ v1).frozen? ⟨b, 2, none⟩ = false) ∧ (((u.setCell ⟨b, 0, none⟩ v0).setCell ⟨b, 1, none⟩ v1).setCell ⟨b, 2, none⟩ v2).cell? ⟨b, 0, none⟩ = some v0 ∧ (((u.setCell ⟨b, 0, none⟩ v0).setCell ⟨b, 1, none⟩ v1).setCell ⟨b, 2, none⟩ v2).cell? ⟨b, 1, none⟩ = some v1 ∧ (((u.setCell ⟨b, 0, none⟩ v0).setCell ⟨b, 1, none⟩ v1).setCell ⟨b, 2, none⟩ v2).cell? ⟨b, 2, none⟩ = some v2 := by
  have s1 := set3_0 (v := v0) h
  have s2 := set3_1 (v := v1) s1
  have s3 := set3_2 (v := v2) s2
  exact ⟨(cells3m h).1, (cells3m s1).2.1, (cells3m s2).2.2, (cells3m s3).1.1, (cells3m s3).2.1.1, (cells3m s3).2.2.1⟩
theorem extract_list (s : ByteArray) (a b : Nat) : (s.extract a b).data.toList = (s.data.toList.drop a).take (b - a) := by
  rw [ByteArray.data_extract, Array.toList_extract, List.extract_eq_take_drop]
theorem strT_list' (s : ByteArray) : strT s.data.toList = s := by
  cases s
  simp [strT]
theorem strT_ext (s : Txt) (a n : Nat) : (strT s).extract a (a + n) = strT ((s.drop a).take n) := by
  have h := extract_list (strT s) a (a + n)
  rw [Nat.add_sub_cancel_left] at h
  rw [← strT_list' ((strT s).extract a (a + n)), h]
  rfl

end Go.Proofs.Ytkpakpfjgeannaa
