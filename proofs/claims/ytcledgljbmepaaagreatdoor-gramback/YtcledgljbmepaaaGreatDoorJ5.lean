/- Slices of cells: own ones, appended ones. Texts as Go has them. The reader: what it is; ahead, take, next. The reader: ahead, take, next, rowEnds; which signs are plain. -/
import Derived.Test.YtcledgljbmepaaaGreatDoorJ4
import Derived.Laws.AppendOwnNone
import Derived.Laws.OwnMore
import Derived.Laws.BytesString
import Derived.BigQuiet
import Derived.WalkLawsBesides
import Derived.Laws.StandIn
import Derived.Lib.Bytealg
import Derived.Deep.RegionHeld3
namespace Go.Proofs.YtcledgljbmepaaaGreatDoor
open Go.RowKit

def cellsC (c : Cel) : List Value := [.int .i64 c.op, .int .u64 (c.s.a : Int), .int .u64 (c.s.b : Int), .int .u64 (c.s.c : Int), .int .u64 (c.s.d : Int)]
def flatC (l : List Cel) : List Value := l.flatMap cellsC
theorem flatC_app (l m : List Cel) : flatC (l ++ m) = flatC l ++ flatC m := by unfold flatC; rw [List.flatMap_append]
theorem flatC_len : ∀ l : List Cel, (flatC l).length = l.length * 5
  | [] => rfl
  | c :: t => by
    have ih := flatC_len t
    unfold flatC at ih ⊢
    rw [List.flatMap_cons, List.length_append, ih, List.length_cons]
    simp [cellsC]
    omega
def cellV (c : Cel) : Nat → Value
  | 0 => .int .i64 c.op
  | 1 => .int .u64 (c.s.a : Int)
  | 2 => .int .u64 (c.s.b : Int)
  | 3 => .int .u64 (c.s.c : Int)
  | _ => .int .u64 (c.s.d : Int)
theorem flatC_at : ∀ (l : List Cel) (j i : Nat) (hj : j < l.length), i < 5 → (flatC l)[j * 5 + i]? = some (cellV l[j] i)
  | c :: t, 0, i, _, hi => by
    have h5 : i = 0 ∨ i = 1 ∨ i = 2 ∨ i = 3 ∨ i = 4 := by omega
    rcases h5 with rfl | rfl | rfl | rfl | rfl <;> rfl
  | c :: t, j + 1, i, hj, hi => by
    have ih := flatC_at t j i (by simpa using hj) hi
    unfold flatC at ih ⊢
    rw [List.flatMap_cons, show (j + 1) * 5 + i = 5 + (j * 5 + i) by omega, List.getElem?_append_right (by simp [cellsC])]
    simpa [cellsC] using ih
theorem at5_of {w : World} {b o : Nat} {c : Cel} (h : ∀ i, i < 5 → w.cell? ⟨b, o + i, none⟩ = some (cellV c i)) : At5 w b o c := ⟨h 0 (by omega), h 1 (by omega), h 2 (by omega), h 3 (by omega), h 4 (by omega)⟩
theorem At5.word {w : World} {b o : Nat} {c : Cel} (h : At5 w b o c) (i : Nat) (hi : i < 5) : w.cell? ⟨b, o + i, none⟩ = some (cellV c i) := by
  have h5 : i = 0 ∨ i = 1 ∨ i = 2 ∨ i = 3 ∨ i = 4 := by omega
  rcases h5 with rfl | rfl | rfl | rfl | rfl
  · exact h.1
  · exact h.2.1
  · exact h.2.2.1
  · exact h.2.2.2.1
  · exact h.2.2.2.2
abbrev OwnC (w : World) (B : Nat) (v : Value) (l : List Cel) : Prop := w.ownsRow B 112 5 v l.length (flatC l)
theorem own_keep {w w' : World} {base size n : Nat} {e : TypeId} {v : Value} {xs : List Value} (h : w.ownsRow base e size v n xs) (hb : ∀ k, v.ownBlock = some k → w'.heap[k]? = w.heap[k]?) : w'.ownsRow base e size v n xs := by
  rcases h.2 with ⟨rfl, h0⟩ | ⟨g, cap, cur, rfl, h1, h2, h3⟩
  · exact ⟨h.1, .inl ⟨rfl, h0⟩⟩
  · exact ⟨h.1, .inr ⟨g, cap, cur, rfl, h1, (hb g rfl).trans h2, h3⟩⟩
theorem own_below {w w' : World} {base size n : Nat} {e : TypeId} {v : Value} {xs : List Value} (h : w.ownsRow base e size v n xs) (hb : Below w.heap.size w w') : w'.ownsRow base e size v n xs :=
  own_keep h fun k hk => hb.block k (h.lt k hk).2
theorem Cels.of_own {w : World} {B : Nat} {v : Value} {l : List Cel} (h : OwnC w B v l) (hf : ∀ c ∈ l, FitC c) : Cels w v l := by
  have h' := h
  rcases h.2 with ⟨rfl, h0⟩ | ⟨g, cap, cur, rfl, _, _, hc, _⟩
  · exact ⟨none, 0, by rw [h0], by omega, fun _ => rfl, hf, fun j hj => absurd hj (by omega)⟩
  · refine ⟨_, cap, rfl, hc, fun h => (by cases h), hf, fun j hj => ⟨g, 0, rfl, (h'.lt g rfl).2, at5_of fun i hi => ?_⟩⟩
    have := h'.cells rfl (j * 5 + i) _ (flatC_at l j i hj hi)
    rw [Go.WideShapes.add_plain] at this
    rwa [Nat.add_assoc]
theorem Cels.news {w : World} {b o : Nat} {l : List Cel} (h : ∀ j (hj : j < l.length), At5 w b (o + j * 5) l[j]) : ∀ j u, (flatC l)[j]? = some u → w.cell? ((⟨b, o, none⟩ : Addr).add j) = some u := fun j u hu => by
  have hj : j < l.length * 5 := by
    rcases Nat.lt_or_ge j (l.length * 5) with h' | h'
    · exact h'
    · rw [List.getElem?_eq_none (by rw [flatC_len]; exact h')] at hu; cases hu
  have e : j = j / 5 * 5 + j % 5 := by omega
  have hq : j / 5 < l.length := by omega
  rw [e, flatC_at l (j / 5) (j % 5) hq (by omega)] at hu
  injection hu with hu
  subst hu
  rw [Go.WideShapes.add_plain]
  have := (h (j / 5) hq).word (j % 5) (by omega)
  rwa [Nat.add_assoc, ← e] at this
theorem Cels.parts {w : World} {v : Value} {l : List Cel} (h : Cels w v l) : (v = .slice none 0 0 ∧ l = []) ∨ ∃ ad cap, v = .slice (some ad) l.length cap ∧ ∀ j u, (flatC l)[j]? = some u → w.cell? (ad.add j) = some u := by
  obtain ⟨a, cap, rfl, hcap, hnil, _, hc⟩ := h
  cases a with
  | none =>
    have h0 := hnil rfl
    have hl : l = [] := List.length_eq_zero_iff.1 (by omega)
    subst hl
    exact Or.inl ⟨by rw [h0]; rfl, rfl⟩
  | some ad =>
    refine Or.inr ⟨ad, cap, rfl, ?_⟩
    by_cases h0 : l = []
    · subst h0; intro j u hu; simp [flatC] at hu
    · obtain ⟨b, o, e, _, _⟩ := hc 0 (List.length_pos_iff.2 h0)
      injection e with e
      subst e
      refine Cels.news fun j hj => ?_
      obtain ⟨b', o', e', _, h5⟩ := hc j hj
      injection e' with e'
      injection e' with e1 e2
      subst e1; subst e2
      exact h5
set_option maxRecDepth 20000 in
theorem Tryz.info112 : (Tryz.prog.info? 112).map (fun i => (i.zero, i.size, i.bytes)) = some (some (.agg #[.int .i64 0, .int .u64 0, .int .u64 0, .int .u64 0, .int .u64 0]), 5, 40) := by kernel_rfl
end Go.Proofs.YtcledgljbmepaaaGreatDoor
namespace Go.Proofs.YtcledgljbmepaaaGreatDoor
open Go.RowKit

/-- a text as Go has it -/
def strT (s : Txt) : ByteArray := ⟨s.toArray⟩
theorem strT_app (s t : Txt) : strT s ++ strT t = strT (s ++ t) := by
  apply ByteArray.ext
  rw [ByteArray.data_append]
  simp [strT]
theorem strT_size (s : Txt) : (strT s).size = s.length := by simp [strT, ByteArray.size]
theorem strT_at (s : Txt) (k : Nat) (_h : k < (strT s).size) (h' : k < s.length) : (strT s)[k] = s[k] := by
  show s.toArray[k] = _
  simp
set_option maxRecDepth 20000 in
theorem run_cat (a b : ByteArray) (w : World) (h : a.size + b.size ≤ 1000000000) : (Op.stringOp .add a b).run Tryz.prog w = .ok (.string (a ++ b)) w := by
  have : a.size + b.size ≤ maxLen := by unfold maxLen; omega
  simp [Op.stringOp]
  omega
theorem ofNat_toNat {b : Nat} (h : b < 256) : (UInt8.ofNat b).toNat = b := by
  rw [UInt8.toNat_ofNat']; exact Nat.mod_eq_of_lt h

/-- all is as it was but for the blocks F, and for what is new -/
structure Kept (F : Nat → Prop) (w w' : World) : Prop where
  os : w'.os = w.os
  tape : w'.tape = w.tape
  output : w'.output = w.output
  size : w.heap.size ≤ w'.heap.size
  block : ∀ k, k < w.heap.size → ¬ F k → w'.heap[k]? = w.heap[k]?
def noBlk : Nat → Prop := fun _ => False
def oneBlk (b : Nat) : Nat → Prop := fun k => k = b
theorem blk_lt {w : World} {b : Nat} {x : Obj} (h : w.heap[b]? = some x) : b < w.heap.size := by
  rcases Nat.lt_or_ge b w.heap.size with h1 | h1
  · exact h1
  · rw [Array.getElem?_eq_none h1] at h; cases h
theorem blk_cell {w : World} {b : Nat} {cs : Array Value} {T : TypeId} {fr : Nat × Nat} (h : w.heap[b]? = some (.cells cs T fr)) {o : Nat} {v : Value} (hv : cs[o]? = some v) : w.cell? ⟨b, o, none⟩ = some v := by
  simp [World.cell?, h, hv]
theorem blk_frozen {w : World} {b : Nat} {cs : Array Value} {T : TypeId} (h : w.heap[b]? = some (.cells cs T (0, 0))) (o : Nat) : w.frozen? ⟨b, o, none⟩ = false := by
  simp [World.frozen?, h]
theorem Kept.refl (F : Nat → Prop) (w : World) : Kept F w w := ⟨rfl, rfl, rfl, Nat.le_refl _, fun _ _ _ => rfl⟩
theorem Kept.mono {F G : Nat → Prop} {w w' : World} (h : Kept F w w') (hFG : ∀ k, k < w.heap.size → F k → G k) : Kept G w w' :=
  ⟨h.os, h.tape, h.output, h.size, fun k hk hn => h.block k hk (fun hf => hn (hFG k hk hf))⟩
theorem Kept.step {F G : Nat → Prop} {w u v : World} (h : Kept F w u) (h2 : Kept G u v) (hG : ∀ k, k < w.heap.size → G k → F k) : Kept F w v :=
  ⟨h2.os.trans h.os, h2.tape.trans h.tape, h2.output.trans h.output, Nat.le_trans h.size h2.size, fun k hk hn =>
    (h2.block k (Nat.lt_of_lt_of_le hk h.size) (fun hg => hn (hG k hk hg))).trans (h.block k hk hn)⟩
theorem Kept.trans {F : Nat → Prop} {w u v : World} (h : Kept F w u) (h2 : Kept F u v) : Kept F w v := h.step h2 fun _ _ h => h
theorem Kept.of_below {w w' : World} (h : Below w.heap.size w w') {F : Nat → Prop} : Kept F w w' := ⟨h.os, h.tape, h.output, h.size, fun k hk _ => h.block k hk⟩
theorem Kept.none {w w' : World} (h : Kept noBlk w w') : Below w.heap.size w w' := ⟨h.os, h.tape, h.output, h.size, fun k hk => h.block k hk id⟩
theorem Kept.below {F : Nat → Prop} {N : Nat} {w w' : World} (h : Kept F w w') (hF : ∀ k, F k → N ≤ k) (hN : N ≤ w.heap.size) : Below N w w' :=
  ⟨h.os, h.tape, h.output, h.size, fun k hk => h.block k (Nat.lt_of_lt_of_le hk hN) fun hf => Nat.lt_irrefl k (Nat.lt_of_lt_of_le hk (hF k hf))⟩
theorem Kept.setCell {F : Nat → Prop} {w u : World} (h : Kept F w u) {a : Addr} {v : Value} (ha : a.block < w.heap.size → F a.block) : Kept F w (u.setCell a v) :=
  ⟨h.os, h.tape, h.output, by simpa using h.size, fun k hk hn => by
    rw [Below.heap_setCell u a v k (fun e => hn (e ▸ ha (e ▸ hk)))]; exact h.block k hk hn⟩
theorem Kept.blk {F : Nat → Prop} {w w' : World} (h : Kept F w w') {b : Nat} {x : Obj} (hx : w.heap[b]? = some x) (hn : ¬ F b) : w'.heap[b]? = some x := (h.block b (blk_lt hx) hn).trans hx

end Go.Proofs.YtcledgljbmepaaaGreatDoor
namespace Go.Proofs.YtcledgljbmepaaaGreatDoor
open Go.RowKit

/-- the reader: its text, what is still to be read, its cells -/
def At (w : World) (rb : Nat) (v : Value) (s q : Txt) : Prop := ∃ pre : Txt, s = pre ++ q ∧ w.heap[rb]? = some (.cells #[.string (strT s), .int .i64 (pre.length : Int), v] 166 (0, 0))
theorem At.keep {w w' : World} {rb : Nat} {v : Value} {s q : Txt} (h : At w rb v s q) (hb : Below w.heap.size w w') : At w' rb v s q := by
  obtain ⟨pre, h1, h2⟩ := h
  exact ⟨pre, h1, (hb.block rb (blk_lt h2)).trans h2⟩
theorem rd3 {w : World} {b : Nat} {x0 x1 x2 : Value} {T : TypeId} (h : w.heap[b]? = some (.cells #[x0, x1, x2] T (0, 0))) :
    w.cell? ⟨b, 0, none⟩ = some x0 ∧ w.cell? ⟨b, 1, none⟩ = some x1 ∧ w.cell? ⟨b, 2, none⟩ = some x2 ∧ w.frozen? ⟨b, 1, none⟩ = false ∧ w.frozen? ⟨b, 2, none⟩ = false := ⟨blk_cell h rfl, blk_cell h rfl, blk_cell h rfl, blk_frozen h 1, blk_frozen h 2⟩

set_option maxRecDepth 20000 in
set_option maxHeartbeats 1000000 in
theorem aheadNo (w : World) (rb k : Nat) (v : Value) (S : ByteArray) (z : Int) (_hs : S.size ≤ 1000) (hk : k = S.size) (h : w.heap[rb]? = some (.cells #[.string S, .int .i64 (k : Int), v] 166 (0, 0))) :
    Calls Tryz.prog 143 #[.pointer (some ⟨rb, 0, none⟩), .int .u8 z] w fun e w' => e = .returned (.bool false) ∧ Below w.heap.size w w' := by
  obtain ⟨c0, c1, c2, c3, c4⟩ := rd3 h
  have hlt : ¬ (k : Int) < (S.size : Int) := by omega
  have hd : decide ((k : Int) < (S.size : Int)) = false := decide_eq_false hlt
  clear h
  go_enter Tryz.func143, Tryz.ntmps143
  go_wp2_with fail
  go_quiet (fail)
  go_wp2
  go_ret
  exact ⟨rfl, ⟨rfl, rfl, rfl, Nat.le_refl _, fun _ _ => rfl⟩⟩

set_option maxRecDepth 20000 in
set_option maxHeartbeats 1000000 in
theorem aheadSome (w : World) (rb k : Nat) (v : Value) (S : ByteArray) (z : Int) (_hs : S.size ≤ 1000) (hk : k < S.size) (h : w.heap[rb]? = some (.cells #[.string S, .int .i64 (k : Int), v] 166 (0, 0))) :
    Calls Tryz.prog 143 #[.pointer (some ⟨rb, 0, none⟩), .int .u8 z] w fun e w' => e = .returned (.bool ((S[k].toNat : Int) == z)) ∧ Below w.heap.size w w' := by
  obtain ⟨c0, c1, c2, c3, c4⟩ := rd3 h
  have hlt : (k : Int) < (S.size : Int) := by omega
  clear h
  go_enter Tryz.func143, Tryz.ntmps143
  go_wp2_with fail
  go_quiet (fail)
  go_wp2
  go_ret
  exact ⟨rfl, ⟨rfl, rfl, rfl, Nat.le_refl _, fun _ _ => rfl⟩⟩

end Go.Proofs.YtcledgljbmepaaaGreatDoor
namespace Go.Proofs.YtcledgljbmepaaaGreatDoor
open Go.RowKit

theorem at_byte {pre r : Txt} {d : UInt8} (h : pre.length < (strT (pre ++ d :: r)).size) : (strT (pre ++ d :: r))[pre.length] = d := by
  exact (strT_at _ _ h (by simp)).trans (by simp)
theorem byte_eq (d c : UInt8) : (((d.toNat : Int)) == (c.toNat : Int)) = (d == c) := by
  rw [Bool.eq_iff_iff, beq_iff_eq, beq_iff_eq]
  constructor
  · intro h; exact UInt8.toNat_inj.1 (by omega)
  · intro h; rw [h]
set_option maxRecDepth 20000 in
theorem aheadC {w : World} {rb : Nat} {v : Value} {s q : Txt} (h : At w rb v s q) (hs : s.length ≤ 200) (c : UInt8) :
    Calls Tryz.prog 143 #[.pointer (some ⟨rb, 0, none⟩), .int .u8 (c.toNat : Int)] w fun e w' => e = .returned (.bool (q.head? == some c)) ∧ Below w.heap.size w w' := by
  obtain ⟨pre, hp, hb⟩ := h
  have hsz := strT_size s
  cases q with
  | nil => exact aheadNo w rb pre.length v (strT s) _ (by omega) (by rw [hsz, hp]; simp) hb
  | cons d r =>
    have hk : pre.length < (strT s).size := by rw [hsz, hp]; simp
    have := aheadSome w rb pre.length v (strT s) (c.toNat : Int) (by omega) hk hb
    have e : (strT s)[pre.length] = d := by subst hp; exact at_byte hk
    rw [e, byte_eq] at this
    exact this

/-- on by one -/
theorem At.next {w : World} {rb : Nat} {v : Value} {s r : Txt} {d : UInt8} (h : At w rb v s (d :: r)) : ∃ k : Nat, w.cell? ⟨rb, 1, none⟩ = some (.int .i64 (k : Int)) ∧ w.frozen? ⟨rb, 1, none⟩ = false ∧ k < s.length ∧ At (w.setCell ⟨rb, 1, none⟩ (.int .i64 ((k : Int) + 1))) rb v s r := by
  obtain ⟨pre, hp, hb⟩ := h
  obtain ⟨c0, c1, c2, c3, c4⟩ := rd3 hb
  refine ⟨pre.length, c1, c3, by rw [hp]; simp, pre ++ [d], by rw [hp]; simp, ?_⟩
  have := heap_setCell (o := 1) (v := .int .i64 ((pre.length : Int) + 1)) hb
  rw [this]
  simp
theorem set_kept {w : World} {rb o : Nat} {v : Value} : Kept (oneBlk rb) w (w.setCell ⟨rb, o, none⟩ v) := (Kept.refl _ w).setCell (a := ⟨rb, o, none⟩) fun _ => rfl

set_option maxRecDepth 20000 in
theorem takeNo {w : World} {rb : Nat} {v : Value} {s q : Txt} (h : At w rb v s q) (hs : s.length ≤ 200) (c : UInt8) (hc : (q.head? == some c) = false) :
    Calls Tryz.prog 133 #[.pointer (some ⟨rb, 0, none⟩), .int .u8 (c.toNat : Int)] w fun e w' => e = .returned (.bool false) ∧ Below w.heap.size w w' := by
  have GA := hid (aheadC h hs c)
  rw [hc] at GA
  generalize (c.toNat : Int) = z at GA ⊢
  clear h hc
  go_enter Tryz.func133, Tryz.ntmps133
  go_wp2_with (go_at_call 143; refine GA.out.mono ?_; rintro e w1 ⟨rfl, hb1⟩)
  go_ret
  exact ⟨rfl, hb1⟩
set_option maxRecDepth 20000 in
theorem takeYes {w : World} {rb : Nat} {v : Value} {s r : Txt} {c : UInt8} (h : At w rb v s (c :: r)) (hs : s.length ≤ 200) :
    Calls Tryz.prog 133 #[.pointer (some ⟨rb, 0, none⟩), .int .u8 (c.toNat : Int)] w fun e w' => e = .returned (.bool true) ∧ At w' rb v s r ∧ Kept (oneBlk rb) w w' := by
  have GA := hid (aheadC h hs c)
  rw [show ((c :: r).head? == some c) = true by simp] at GA
  generalize (c.toNat : Int) = z at GA ⊢
  have H := hid (fun u (hb : Below w.heap.size w u) => (h.keep hb).next)
  clear h
  go_enter Tryz.func133, Tryz.ntmps133
  go_wp2_with (go_at_call 143; refine GA.out.mono ?_; rintro e w1 ⟨rfl, hb1⟩; obtain ⟨k, c1, c3, hk, hat⟩ := H.out w1 hb1; have hat := hid hat)
  go_ret
  exact ⟨rfl, hat.out, (Kept.of_below hb1).trans set_kept⟩

set_option maxRecDepth 20000 in
theorem nextNo {w : World} {rb : Nat} {v : Value} {s : Txt} (h : At w rb v s []) (_hs : s.length ≤ 200) (p : Int) :
    Calls Tryz.prog 166 #[.pointer (some ⟨rb, 0, none⟩), .int .i64 p] w fun e w' => e = .panicked [{ v := .iface 164 (.int .i64 p), recovered := false }] ∧ Below w.heap.size w w' := by
  obtain ⟨pre, hp, hb⟩ := h
  obtain ⟨c0, c1, c2, c3, c4⟩ := rd3 hb
  have hsz := strT_size s
  have hk : (strT s).size = pre.length := by rw [hsz, hp]; simp
  have hkk : (((pre.length : Int)) == ((strT s).size : Int)) = true := by rw [hk]; simp
  generalize strT s = S at hk c0 hsz hkk
  generalize pre.length = k at hk c1 hkk
  clear hb hp
  go_enter Tryz.func166, Tryz.ntmps166
  go_wp2_with fail
  go_quiet (fail)
  go_wp2
  exact ⟨rfl, rfl, ⟨rfl, rfl, rfl, Nat.le_refl _, fun _ _ => rfl⟩⟩
set_option maxRecDepth 20000 in
theorem nextYes {w : World} {rb : Nat} {v : Value} {s r : Txt} {c : UInt8} (h : At w rb v s (c :: r)) (hs : s.length ≤ 200) (p : Int) :
    Calls Tryz.prog 166 #[.pointer (some ⟨rb, 0, none⟩), .int .i64 p] w fun e w' => e = .returned (.int .u8 (c.toNat : Int)) ∧ At w' rb v s r ∧ Kept (oneBlk rb) w w' := by
  obtain ⟨pre, hp, hb⟩ := h
  have H : Hid (∀ u, Below w.heap.size w u → At (u.setCell ⟨rb, 1, none⟩ (.int .i64 ((pre.length : Int) + 1))) rb v s r) := hid (fun u hu => by
    refine ⟨pre ++ [c], by rw [hp]; simp, ?_⟩
    rw [heap_setCell (o := 1) (v := .int .i64 ((pre.length : Int) + 1)) ((hu.block rb (blk_lt hb)).trans hb)]
    simp)
  obtain ⟨c0, c1, c2, c3, c4⟩ := rd3 hb
  have hsz := strT_size s
  have hk : pre.length < (strT s).size := by rw [hsz, hp]; simp
  have hch : (strT s)[pre.length].toNat = c.toNat := by subst hp; rw [at_byte hk]
  have hkk : (((pre.length : Int)) == ((strT s).size : Int)) = false := beq_eq_false_iff_ne.2 (by omega)
  generalize (c.toNat) = z at hch ⊢
  generalize strT s = S at hk c0 hsz hkk hch
  generalize pre.length = k at hk c1 hkk hch H
  clear hb hp
  go_enter Tryz.func166, Tryz.ntmps166
  go_wp2_with fail
  go_quiet (fail)
  go_wp2_with fail
  go_quiet (fail)
  go_wp2
  go_ret
  have hd : ∀ n, Below w.heap.size w (w.drewN n) := fun n => ⟨rfl, rfl, rfl, Nat.le_refl _, fun _ _ => rfl⟩
  exact ⟨rfl, H.out _ (hd _), (Kept.of_below (hd _)).trans set_kept⟩

set_option maxRecDepth 20000 in
theorem rowEndsNil {w : World} {rb : Nat} {v : Value} {s : Txt} (h : At w rb v s []) (hs : s.length ≤ 200) :
    Calls Tryz.prog 142 #[.pointer (some ⟨rb, 0, none⟩)] w fun e w' => e = .returned (.bool true) ∧ Below w.heap.size w w' := by
  obtain ⟨pre, hp, hb⟩ := h
  obtain ⟨c0, c1, c2, c3, c4⟩ := rd3 hb
  have hsz := strT_size s
  have hk : (strT s).size = pre.length := by rw [hsz, hp]; simp
  have hle : (strT s).size ≤ 200 := by omega
  generalize strT s = S at hk c0 hsz hle
  rw [← hk] at c1
  clear hb hp hsz hk
  go_enter Tryz.func142, Tryz.ntmps142
  go_wp2_with fail
  go_quiet (fail)
  go_wp2
  go_ret
  exact ⟨rfl, ⟨rfl, rfl, rfl, Nat.le_refl _, fun _ _ => rfl⟩⟩

set_option maxRecDepth 20000 in
set_option maxHeartbeats 1000000 in
theorem rowEndsSome {w : World} {rb : Nat} {v : Value} {s r : Txt} {c : UInt8} (h : At w rb v s (c :: r)) (hs : s.length ≤ 200) :
    Calls Tryz.prog 142 #[.pointer (some ⟨rb, 0, none⟩)] w fun e w' => e = .returned (.bool (rowEnd (c :: r))) ∧ Below w.heap.size w w' := by
  have G1 := hid (fun u (hb : Below w.heap.size w u) => aheadC (h.keep hb) hs 124)
  have G2 := hid (fun u (hb : Below w.heap.size w u) => aheadC (h.keep hb) hs 41)
  have hdr : Below w.heap.size w w.drew := (Below.refl _ w).drew
  rw [show rowEnd (c :: r) = (((c :: r).head? == some 124) || ((c :: r).head? == some 41)) from rfl]
  obtain ⟨pre, hp, hb⟩ := h
  obtain ⟨c0, c1, c2, c3, c4⟩ := rd3 hb
  have hsz := strT_size s
  have hlt : pre.length < (strT s).size := by rw [hsz, hp]; simp
  have hle : (strT s).size ≤ 200 := by omega
  have hkk : (((pre.length : Int)) == ((strT s).size : Int)) = false := beq_eq_false_iff_ne.2 (by omega)
  generalize strT s = S at c0 hsz hle hlt hkk
  generalize pre.length = k at c1 hlt hkk
  generalize ((c :: r).head? == some 124) = b1 at G1 ⊢
  generalize ((c :: r).head? == some 41) = b2 at G2 ⊢
  clear hb hp hsz
  cases b1
  · go_enter Tryz.func142, Tryz.ntmps142
    go_wp2_with fail
    go_region_held3 (fun w' => w'.cell? ⟨rb, 0, none⟩ = some (.string S) ∧ w'.cell? ⟨rb, 1, none⟩ = some (.int .i64 (k : Int))) (go_keep) ((first
      | (go_at_call_of 143 (Value.int .u8 124); refine (G1.out _ hdr).mono ?_; rintro e w1 ⟨rfl, hb1'⟩; have hb1 := bl_step hdr hb1'; have := keep_cell hb1 c0; have := keep_cell hb1 c1)
      | (go_at_call_of 143 (Value.int .u8 41); refine (G2.out _ hb1).mono ?_; rintro e w2 ⟨rfl, hb2'⟩; have hb2 := bl_step hb1 hb2'; have := keep_cell hb2 c0; have := keep_cell hb2 c1)))
    all_goals
      go_wp2
      go_ret
      exact ⟨by cases b2 <;> rfl, hb2⟩
  · go_enter Tryz.func142, Tryz.ntmps142
    go_wp2_with fail
    first | (go_region_with (first
      | (go_at_call 143; refine (G1.out _ hdr).mono ?_; rintro e w1 ⟨rfl, hb1'⟩; have hb1 := bl_step hdr hb1'; have := keep_cell hb1 c0; have := keep_cell hb1 c1)
      | fail)) | fail
    all_goals
      go_wp2
      go_ret
      exact ⟨rfl, hb1⟩

set_option maxRecDepth 20000 in
theorem rowEndsC {w : World} {rb : Nat} {v : Value} {s q : Txt} (h : At w rb v s q) (hs : s.length ≤ 200) :
    Calls Tryz.prog 142 #[.pointer (some ⟨rb, 0, none⟩)] w fun e w' => e = .returned (.bool (rowEnd q)) ∧ Below w.heap.size w w' := by
  cases q with
  | nil => exact rowEndsNil h hs
  | cons c r => exact rowEndsSome h hs

end Go.Proofs.YtcledgljbmepaaaGreatDoor
