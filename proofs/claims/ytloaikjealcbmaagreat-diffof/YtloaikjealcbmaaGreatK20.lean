/- Slices of things whose cells are told by a list, and back. A row of three of which the middle one is copied, beside a box: what a loop holds. topiarylaw12.copied: a grammar of its own. The reader in memory: its block, its rows, each in a block of its own; what never changes. -/
import Derived.Test.YtloaikjealcbmaaGreatK19
import Derived.Deep.Strs
namespace Go.Proofs.YtloaikjealcbmaaGreat
open Go.RowKit Go.Maps Go.Sort

theorem flat_at {α : Type} {sz : Nat} (cs : α → List Value) (hc : ∀ x, (cs x).length = sz) : ∀ (l : List α) (j i : Nat) (h : j < l.length), i < sz → (l.flatMap cs)[j * sz + i]? = (cs l[j])[i]?
 | [], j, i, h, _ => absurd h (Nat.not_lt_zero _)
 | a :: l, 0, i, h, hi => by
  rw [List.flatMap_cons, Nat.zero_mul, Nat.zero_add, List.getElem?_append_left (by rw [hc]; exact hi)]
  rfl
 | a :: l, j + 1, i, h, hi => by
  have h1 : j < l.length := by simpa using h
  have e : (j + 1) * sz + i = (cs a).length + (j * sz + i) := by rw [hc, Nat.succ_mul]; omega
  rw [List.flatMap_cons, e, List.getElem?_append_right (Nat.le_add_right _ _), Nat.add_sub_cancel_left, flat_at cs hc l j i h1 hi]
  rfl
theorem own_at {α : Type} {sz : Nat} {cs : α → List Value} (hc : ∀ x, (cs x).length = sz) {w : World} {B : Nat} {e : TypeId} {v : Value} {l : List α} (_hz : 0 < sz) (h : w.ownsRow B e sz v l.length (l.flatMap cs)) :
 ∃ a cap, v = .slice a l.length cap ∧ l.length ≤ cap ∧ (a = none → cap = 0) ∧ ∀ j (h : j < l.length), ∃ b o, a = some ⟨b, o, none⟩ ∧ b < w.heap.size ∧ ∀ i, i < sz → w.cell? ⟨b, o + j * sz + i, none⟩ = (cs l[j])[i]? := by
 have h' := h
 rcases h.2 with ⟨rfl, h0⟩ | ⟨g, cap, cur, rfl, _, _, hc', _⟩
 · exact ⟨none, 0, by rw [h0], by omega, fun _ => rfl, fun j hj => by omega⟩
 · refine ⟨_, cap, rfl, hc', (fun h => by cases h), fun j hj => ⟨g, 0, rfl, (h'.lt g rfl).2, fun i hi => ?_⟩⟩
   rw [Nat.zero_add, ← flat_at cs hc l j i hj hi]
   refine h'.cellAt (j * sz + i) ?_
   have h1 : (j + 1) * sz ≤ l.length * sz := Nat.mul_le_mul_right _ hj
   rw [Nat.succ_mul] at h1
   omega
/-- the cells of things -/
def csT (t : Txt) : List Value := [.string (strT t)]
def csL (p : Int × Int) : List Value := [.int .i64 p.1, .int .i64 p.2]
def csI (n : Int) : List Value := [.int .i64 n]
theorem txt_own {w : World} {B : Nat} {e : TypeId} {v : Value} {l : List Txt} (h : w.ownsRow B e 1 v l.length (l.flatMap csT)) : Lst 1 TxtAt w v l := by
 obtain ⟨a, cap, e, hc, hn, hat⟩ := own_at (sz := 1) (cs := csT) (fun _ => rfl) (by decide) h
 refine ⟨a, cap, e, hc, hn, fun j hj => ?_⟩
 obtain ⟨b, o, e, hlt, hx⟩ := hat j hj
 exact ⟨b, o, e, hlt, hx 0 (by decide)⟩
theorem lev_own {w : World} {B : Nat} {e : TypeId} {v : Value} {l : List (Int × Int)} (h : w.ownsRow B e 2 v l.length (l.flatMap csL)) : Lst 2 LevAt w v l := by
 obtain ⟨a, cap, e, hc, hn, hat⟩ := own_at (sz := 2) (cs := csL) (fun _ => rfl) (by decide) h
 refine ⟨a, cap, e, hc, hn, fun j hj => ?_⟩
 obtain ⟨b, o, e, hlt, hx⟩ := hat j hj
 exact ⟨b, o, e, hlt, hx 0 (by decide), hx 1 (by decide)⟩
theorem nums_own {w : World} {B : Nat} {e : TypeId} {v : Value} {l : List Int} (h : w.ownsRow B e 1 v l.length (l.flatMap csI)) : Nums w v l := by
 obtain ⟨a, cap, e, hc, hn, hat⟩ := own_at (sz := 1) (cs := csI) (fun _ => rfl) (by decide) h
 refine ⟨a, cap, e, hc, hn, fun j hj => ?_⟩
 obtain ⟨b, o, e, hlt, hx⟩ := hat j hj
 have h0 := hx 0 (by decide)
 rw [Nat.mul_one] at h0
 exact ⟨b, o, e, hlt, h0⟩
end Go.Proofs.YtloaikjealcbmaaGreat
namespace Go.Proofs.YtloaikjealcbmaaGreat
open Go.RowKit Go.Maps Go.Sort

structure RestOf (R : Prop) : Prop where
 out : R
theorem collapse {R G : Prop} (h : RestOf R → G) (pf : R) : G := h ⟨pf⟩
theorem OffP.mono {F G : Nat → Prop} {v : Value} (h : OffP F v) (hG : ∀ b, G b → F b) : OffP G v := fun a n c e hn hg => h a n c e hn (hG _ hg)
set_option maxRecDepth 20000 in
/-- an append whose run is known -/
theorem wp_run {ops : Array Oper} {rest : List Oper} {o : Oper} {a : Act} {Q : Exit → Act → World → Prop} (w : World) (hgd : o.guard = none) (s x : Operand) (t : TypeId)
 (ho : o.op = .call { callee := .builtin .append, args := #[s, x], argTypes := #[t, t] }) (v vx : Value) (hs : a.eval s = v) (hx : a.eval x = vx) {v' : Value} {w' : World}
 (hr : (Builtin.append_ #[t, t] o.type #[v, vx]).run Tryz.prog w = .ok v' w') (h : wpList Tryz.prog ops Q rest (a.put o.dst v') w') : wpList Tryz.prog ops Q (o :: rest) a w := by
 refine wpList_plain hgd fun K hK => ?_
 unfold Oper.wp execOp
 simp only [ho, resolve, invoke, builtin, Sem.run_bind, Sem.run_pure, Result.andThen_ok, List.map_toArray, List.map_cons, List.map_nil, hs, hx, hr]
 exact hK _ _ h
set_option maxRecDepth 20000 in
theorem step_run {ops : Array Oper} {o : Oper} {a : Act} {w : World} {K : Act → World → Prop} {Q : Exit → Act → World → Prop} {E : Prop} (hgd : o.guard = none) (s x : Operand) (t : TypeId)
 (ho : o.op = .call { callee := .builtin .append, args := #[s, x], argTypes := #[t, t] }) (v vx : Value) (hs : a.eval s = v) (hx : a.eval x = vx) {v' : Value} {w' : World}
 (hr : (Builtin.append_ #[t, t] o.type #[v, vx]).run Tryz.prog w = .ok v' w') (h : K (a.put o.dst v') w') : if Region.wanted o (yielded ops a.tmps) = true then Oper.wp Tryz.prog o a w K Q else E := by
 have hw : Region.wanted o (yielded ops a.tmps) = true := by simp [Region.wanted, hgd]
 rw [if_pos hw]
 unfold Oper.wp
 simp [execOp, ho, resolve, invoke, builtin, hs, hx, hr, Result.andThen]
 exact h

/-- five cells stored into a block of five -/
theorem putT5 {u : World} {b t : Nat} {x0 x1 x2 x3 x4 : Value} (h : u.heap[b]? = some (.cells #[x0, x1, x2, x3, x4] t (0, 0))) (v0 v1 v2 v3 v4 : Value) :
 (u.cell? ⟨b, 0, none⟩ = some x0 ∧ u.frozen? ⟨b, 0, none⟩ = false) ∧
 ((u.setCell ⟨b, 0, none⟩ v0).cell? ⟨b, 1, none⟩ = some x1 ∧ (u.setCell ⟨b, 0, none⟩ v0).frozen? ⟨b, 1, none⟩ = false) ∧
 (((u.setCell ⟨b, 0, none⟩ v0).setCell ⟨b, 1, none⟩ v1).cell? ⟨b, 2, none⟩ = some x2 ∧ ((u.setCell ⟨b, 0, none⟩ v0).setCell ⟨b, 1, none⟩ v1).frozen? ⟨b, 2, none⟩ = false) ∧
 ((((u.setCell ⟨b, 0, none⟩ v0).setCell ⟨b, 1, none⟩ v1).setCell ⟨b, 2, none⟩ v2).cell? ⟨b, 3, none⟩ = some x3 ∧ (((u.setCell ⟨b, 0, none⟩ v0).setCell ⟨b, 1, none⟩ v1).setCell ⟨b, 2, none⟩ v2).frozen? ⟨b, 3, none⟩ = false) ∧
 (((((u.setCell ⟨b, 0, none⟩ v0).setCell ⟨b, 1, none⟩ v1).setCell ⟨b, 2, none⟩ v2).setCell ⟨b, 3, none⟩ v3).cell? ⟨b, 4, none⟩ = some x4 ∧ ((((u.setCell ⟨b, 0, none⟩ v0).setCell ⟨b, 1, none⟩ v1).setCell ⟨b, 2, none⟩ v2).setCell ⟨b, 3, none⟩ v3).frozen? ⟨b, 4, none⟩ = false) ∧
 (((((u.setCell ⟨b, 0, none⟩ v0).setCell ⟨b, 1, none⟩ v1).setCell ⟨b, 2, none⟩ v2).setCell ⟨b, 3, none⟩ v3).setCell ⟨b, 4, none⟩ v4).heap[b]? = some (.cells #[v0, v1, v2, v3, v4] t (0, 0)) := by
 have h1 : (u.setCell ⟨b, 0, none⟩ v0).heap[b]? = some (.cells #[v0, x1, x2, x3, x4] t (0, 0)) := heap_setCell h
 have h2 : ((u.setCell ⟨b, 0, none⟩ v0).setCell ⟨b, 1, none⟩ v1).heap[b]? = some (.cells #[v0, v1, x2, x3, x4] t (0, 0)) := heap_setCell h1
 have h3 : (((u.setCell ⟨b, 0, none⟩ v0).setCell ⟨b, 1, none⟩ v1).setCell ⟨b, 2, none⟩ v2).heap[b]? = some (.cells #[v0, v1, v2, x3, x4] t (0, 0)) := heap_setCell h2
 have h4 : ((((u.setCell ⟨b, 0, none⟩ v0).setCell ⟨b, 1, none⟩ v1).setCell ⟨b, 2, none⟩ v2).setCell ⟨b, 3, none⟩ v3).heap[b]? = some (.cells #[v0, v1, v2, v3, x4] t (0, 0)) := heap_setCell h3
 exact ⟨⟨blk_cell h rfl, blk_frozen h 0⟩, ⟨blk_cell h1 rfl, blk_frozen h1 1⟩, ⟨blk_cell h2 rfl, blk_frozen h2 2⟩, ⟨blk_cell h3 rfl, blk_frozen h3 3⟩, ⟨blk_cell h4 rfl, blk_frozen h4 4⟩, heap_setCell h4⟩

end Go.Proofs.YtloaikjealcbmaaGreat
namespace Go.Proofs.YtloaikjealcbmaaGreat
open Go.RowKit Go.Maps Go.Sort

set_option maxRecDepth 20000 in
theorem Tryz.infRl : (Tryz.prog.info? 48).map (fun i => (i.zero, i.size, i.bytes)) = some (some (.agg #[.string ⟨#[]⟩, .slice none 0 0, .bool false]), 3, 48) := by kernel_rfl
set_option maxRecDepth 20000 in
theorem Tryz.infPd : (Tryz.prog.info? 50).map (fun i => (i.zero, i.size, i.bytes)) = some (some (.agg #[.int .i64 0, .slice none 0 0, .int .i64 0]), 3, 40) := by kernel_rfl
set_option maxRecDepth 20000 in
theorem Tryz.infLv : (Tryz.prog.info? 54).map (fun i => (i.zero, i.size, i.bytes)) = some (some (.agg #[.int .i64 0, .int .i64 0]), 2, 16) := by kernel_rfl
set_option maxRecDepth 20000 in
theorem Tryz.infIn : (Tryz.prog.info? 3).map (fun i => (i.zero, i.size, i.bytes)) = some (some (.int .i64 0), 1, 8) := by kernel_rfl
end Go.Proofs.YtloaikjealcbmaaGreat
namespace Go.Proofs.YtloaikjealcbmaaGreat
open Go.RowKit Go.Maps Go.Sort

/-- blocks with a number, but 77, alone change -/
structure Chg (T T' : Nat → Nat) (w w' : World) : Prop where
 kept : Kept (fun b => T b ≠ 0 ∧ T b ≠ 77) w w'
 tag : ∀ b, b < w.heap.size → T' b = T b
/-- blocks that bear a number change -/
structure Sft (T T' : Nat → Nat) (w w' : World) : Prop where
 kept : Kept (fun b => T b ≠ 0) w w'
 tag : ∀ b, b < w.heap.size → T' b = T b
theorem Chg.sft {T T' : Nat → Nat} {w w' : World} (h : Chg T T' w w') : Sft T T' w w' := ⟨h.kept.mono (fun _ _ h => h.1), h.tag⟩
theorem Sft.of_kept {F : Nat → Prop} {T : Nat → Nat} {w w' : World} (h : Kept F w w') (hF : ∀ b, F b → T b ≠ 0) : Sft T T w w' := ⟨h.mono (fun k _ h => hF k h), fun _ _ => rfl⟩
theorem Chg.refl (T : Nat → Nat) (w : World) : Chg T T w w := ⟨Kept.refl _ _, fun _ _ => rfl⟩
theorem Chg.trans {T T' T'' : Nat → Nat} {w u v : World} (h : Chg T T' w u) (h2 : Chg T' T'' u v) : Chg T T'' w v :=
 ⟨h.kept.step h2.kept (fun k hk hn => by rw [h.tag k hk] at hn; exact hn), fun b hb => (h2.tag b (Nat.lt_of_lt_of_le hb h.kept.size)).trans (h.tag b hb)⟩
theorem Chg.of_below {T : Nat → Nat} {w w' : World} (h : Below w.heap.size w w') : Chg T T w w' := ⟨Kept.of_below h, fun _ _ => rfl⟩
/-- a block that never changes -/
def Im (T : Nat → Nat) (w : World) (b : Nat) (o : Obj) : Prop := T b = 0 ∧ w.heap[b]? = some o
theorem Im.sft {T T' : Nat → Nat} {w w' : World} {b : Nat} {o : Obj} (h : Im T w b o) (hc : Sft T T' w w') : Im T' w' b o := by
 have hb := blk_lt h.2
 exact ⟨(hc.tag b hb).trans h.1, (hc.kept.block b hb (fun hn => hn h.1)).trans h.2⟩
theorem Im.cell {T : Nat → Nat} {w : World} {b o : Nat} {cs : Array Value} {t : TypeId} {v : Value} (h : Im T w b (.cells cs t (0, 0))) (hv : cs[o]? = some v) : w.cell? ⟨b, o, none⟩ = some v := blk_cell h.2 hv
/-- a row of the reader's own, in a block that bears the number i -/
def OwnI (w : World) (B : Nat) (T : Nat → Nat) (i : Nat) (te : TypeId) (sz : Nat) (v : Value) (n : Nat) (xs : List Value) : Prop := w.ownsRow B te sz v n xs ∧ ∀ b, v.ownBlock = some b → T b = i
theorem OwnI.kept {w w' : World} {B i sz n : Nat} {T T' : Nat → Nat} {te : TypeId} {v : Value} {xs : List Value} {F : Nat → Prop} (h : OwnI w B T i te sz v n xs) (hk : Kept F w w') (hF : ∀ b, F b → T b ≠ i) (ht : ∀ b, b < w.heap.size → T' b = T b) : OwnI w' B T' i te sz v n xs :=
 ⟨own_kept h.1 hk (fun k e hf => hF k hf (h.2 k e)), fun b e => (ht b (h.1.lt b e).2).trans (h.2 b e)⟩
/-- words that are still to be read -/
def Wd3 (w : World) (b o : Nat) (x : Wd) : Prop := w.cell? ⟨b, o, none⟩ = some (.int .i64 (x.1 : Int)) ∧ w.cell? ⟨b, o + 1, none⟩ = some (.int .i64 (x.2.1 : Int)) ∧ w.cell? ⟨b, o + 2, none⟩ = some (.string (strT x.2.2))
def WsV (T : Nat → Nat) (w : World) (v : Value) (ws : List Wd) : Prop := ∃ b o cap, v = .slice (some ⟨b, o, none⟩) ws.length cap ∧ ws.length ≤ cap ∧ T b = 0 ∧ b < w.heap.size ∧ ∀ j (h : j < ws.length), Wd3 w b (o + j * 3) ws[j]
theorem WsV.sft {T T' : Nat → Nat} {w w' : World} {v : Value} {ws : List Wd} (h : WsV T w v ws) (hc : Sft T T' w w') : WsV T' w' v ws := by
 obtain ⟨b, o, cap, e, h1, h2, h3, h4⟩ := h
 refine ⟨b, o, cap, e, h1, (hc.tag b h3).trans h2, Nat.lt_of_lt_of_le h3 hc.kept.size, fun j hj => ?_⟩
 obtain ⟨x0, x1, x2⟩ := h4 j hj
 exact ⟨hc.kept.cell x0 h3 (fun hn => hn h2), hc.kept.cell x1 h3 (fun hn => hn h2), hc.kept.cell x2 h3 (fun hn => hn h2)⟩
/-- cells of a rule that never change -/
def ImC (T : Nat → Nat) (w : World) (v : Value) (l : List Cel) : Prop := Cels w v l ∧ OffP (fun b => T b ≠ 0) v
theorem ImC.sft {T T' : Nat → Nat} {w w' : World} {v : Value} {l : List Cel} (h : ImC T w v l) (hc : Sft T T' w w') : ImC T' w' v l := by
 refine ⟨h.1.keptP hc.kept h.2, fun a n c e hn hf => ?_⟩
 refine h.2 a n c e hn ?_
 obtain ⟨a', cap, e', _, _, _, hat⟩ := h.1
 rw [e] at e'
 injection e' with e1 e2 e3
 subst e2
 obtain ⟨b, o, e4, hlt, _⟩ := hat 0 hn
 rw [e4] at e1
 injection e1 with e1
 subst e1
 exact fun hz => hf ((hc.tag b hlt).trans hz)
/-- a rule's cells: a slice; where nothing is wrong, the cells that it says -/
def RuC (T : Nat → Nat) (w : World) (er : Int) (v : Value) (l : List Cel) : Prop := (∃ a m c, v = .slice a m c) ∧ (er = 0 → ImC T w v l)
theorem RuC.sft {T T' : Nat → Nat} {w w' : World} {er : Int} {v : Value} {l : List Cel} (h : RuC T w er v l) (hc : Sft T T' w w') : RuC T' w' er v l := ⟨h.1, fun e => (h.2 e).sft hc⟩
theorem RuC.err {T : Nat → Nat} {w : World} {er er' : Int} {v : Value} {l : List Cel} (h : RuC T w er v l) (he : er' = 0 → er = 0) : RuC T w er' v l := ⟨h.1, fun e => h.2 (he e)⟩
/-- what is left to be done, as a function -/
abbrev boxR (rb : Nat) : Obj := .cells #[.pointer (some ⟨rb, 0, none⟩)] 107
abbrev boxW (x : Wd) : Obj := .cells #[.int .i64 (x.1 : Int), .int .i64 (x.2.1 : Int), .string (strT x.2.2)] 69
abbrev boxN (n : Nat) : Obj := .cells #[.int .i64 (n : Int)] 3
abbrev boxL (p s : Nat) : Obj := .cells #[.int .i64 (p : Int), .int .i64 (s : Int)] 54
abbrev boxB (b : Bool) : Obj := .cells #[.bool b] 4
abbrev ptr0 (b : Nat) : Value := .pointer (some ⟨b, 0, none⟩)
def StpV (T : Nat → Nat) (w : World) (rb : Nat) (v : Value) (s : Stp) : Prop :=
 (s.k = 1 ∧ ∃ p q, v = .func (.func 130) #[] #[ptr0 p, ptr0 q] ∧ Im T w p (boxR rb) ∧ Im T w q (boxW s.w)) ∨
 (s.k = 2 ∧ ∃ p q l, v = .func (.func 133) #[] #[ptr0 p, ptr0 q, ptr0 l] ∧ Im T w p (boxR rb) ∧ Im T w q (boxW s.w) ∧ Im T w l (boxL s.a s.b)) ∨
 (s.k = 3 ∧ ∃ l, v = .func (.func 110) #[] #[ptr0 l] ∧ Im T w l (boxB (decide (s.a ≠ 0)))) ∨
 (s.k = 4 ∧ ∃ p q, v = .func (.func 111) #[] #[ptr0 p, ptr0 q] ∧ Im T w p (boxR rb) ∧ Im T w q (boxW s.w)) ∨
 (s.k = 5 ∧ ∃ p l q, v = .func (.func 144) #[] #[ptr0 p, ptr0 l, ptr0 q] ∧ Im T w p (boxR rb) ∧ Im T w q (boxW s.w) ∧ Im T w l (boxN s.a)) ∨
 (s.k = 6 ∧ ∃ p q l, v = .func (.func 145) #[] #[ptr0 p, ptr0 q, ptr0 l] ∧ Im T w p (boxR rb) ∧ Im T w q (boxW s.w) ∧ Im T w l (boxN s.a))
theorem StpV.sft {T T' : Nat → Nat} {w w' : World} {rb : Nat} {v : Value} {s : Stp} (h : StpV T w rb v s) (hc : Sft T T' w w') : StpV T' w' rb v s := by
 rcases h with ⟨h, p, q, e, h1, h2⟩ | ⟨h, p, q, l, e, h1, h2, h3⟩ | ⟨h, l, e, h3⟩ | ⟨h, p, q, e, h1, h2⟩ | ⟨h, p, l, q, e, h1, h2, h3⟩ | ⟨h, p, q, l, e, h1, h2, h3⟩
 · exact .inl ⟨h, p, q, e, h1.sft hc, h2.sft hc⟩
 · exact .inr (.inl ⟨h, p, q, l, e, h1.sft hc, h2.sft hc, h3.sft hc⟩)
 · exact .inr (.inr (.inl ⟨h, l, e, h3.sft hc⟩))
 · exact .inr (.inr (.inr (.inl ⟨h, p, q, e, h1.sft hc, h2.sft hc⟩)))
 · exact .inr (.inr (.inr (.inr (.inl ⟨h, p, l, q, e, h1.sft hc, h2.sft hc, h3.sft hc⟩))))
 · exact .inr (.inr (.inr (.inr (.inr ⟨h, p, q, l, e, h1.sft hc, h2.sft hc, h3.sft hc⟩))))
theorem Im.keep {T T' : Nat → Nat} {w w' : World} {b : Nat} {o : Obj} (h : Im T w b o) (hc : Chg T T' w w') : Im T' w' b o := h.sft hc.sft
theorem WsV.keep {T T' : Nat → Nat} {w w' : World} {v : Value} {ws : List Wd} (h : WsV T w v ws) (hc : Chg T T' w w') : WsV T' w' v ws := h.sft hc.sft
theorem ImC.keep {T T' : Nat → Nat} {w w' : World} {v : Value} {l : List Cel} (h : ImC T w v l) (hc : Chg T T' w w') : ImC T' w' v l := h.sft hc.sft
theorem RuC.keep {T T' : Nat → Nat} {w w' : World} {er : Int} {v : Value} {l : List Cel} (h : RuC T w er v l) (hc : Chg T T' w w') : RuC T' w' er v l := h.sft hc.sft
theorem StpV.keep {T T' : Nat → Nat} {w w' : World} {rb : Nat} {v : Value} {s : Stp} (h : StpV T w rb v s) (hc : Chg T T' w w') : StpV T' w' rb v s := h.sft hc.sft
theorem StpV.oneCell {T : Nat → Nat} {w : World} {rb : Nat} {v : Value} {s : Stp} (h : StpV T w rb v s) : v.oneCell' = true := by
 rcases h with ⟨_, p, q, rfl, _⟩ | ⟨_, p, q, l, rfl, _⟩ | ⟨_, l, rfl, _⟩ | ⟨_, p, q, rfl, _⟩ | ⟨_, p, l, q, rfl, _⟩ | ⟨_, p, q, l, rfl, _⟩ <;> rfl
/-- the slices of the reader; of its rules their cells' slices; of what is left to be done the functions -/
structure RX where
 wv : Value
 rv : Value
 nv : Value
 pv : Value
 sk : Value
 te : Value
 no : Value
 la : Value
 rl : List Value
 fl : List Value
abbrev rdO (X : RX) (lc sc : Nat) (pl : Nat) (er : Int) : Obj := .cells #[X.wv, X.rv, X.nv, .slice none 0 0, X.pv, .int .i64 0, .int .i64 (lc : Int), .int .i64 (sc : Int), X.sk, X.te, X.no, .int .u32 0, .int .i32 0, .int .u32 0, .map none, X.la, .int .i64 (pl : Int), .int .i64 er] 87
def rlV (r : Rl) (v : Value) : List Value := [.string (strT r.name), v, .bool r.skip]
def pdV (l : Nat) : List Value := [.int .i64 (l : Int), .slice none 0 0, .int .i64 0]
def spV (s : Stp) (v : Value) : List Value := [.int .i64 (s.w.2.1 : Int), v]
/-- the end stands last -/
def Endd (ws : List Wd) : Prop := ∃ l p, ws = l ++ [(0, p, [])]
theorem Endd.ne {ws : List Wd} (h : Endd ws) : ws ≠ [] := by obtain ⟨l, p, rfl⟩ := h; simp
theorem Endd.two {ws : List Wd} (h : Endd ws) (hk : (ws.headD (0, 0, [])).1 ≠ 0) : 2 ≤ ws.length := by
 obtain ⟨l, p, rfl⟩ := h
 cases l with
 | nil => exact absurd rfl hk
 | cons a l => rw [List.length_append, List.length_cons, List.length_singleton]; omega
theorem Endd.tail {ws : List Wd} (h : Endd ws) (h2 : 2 ≤ ws.length) : Endd ws.tail := by
 obtain ⟨l, p, rfl⟩ := h
 cases l with
 | nil => simp at h2
 | cons a l => exact ⟨l, p, rfl⟩
structure RdV (B : Nat) (T : Nat → Nat) (w : World) (rb : Nat) (X : RX) (st : RS) : Prop where
 blk : w.heap[rb]? = some (rdO X st.levels st.starts st.pl st.err)
 rt : T rb = 99
 own : ∀ b, T b ≠ 0 → B ≤ b ∧ b < w.heap.size
 base : B ≤ w.heap.size
 words : WsV T w X.wv st.ws
 wf : Endd st.ws
 rules : OwnI w B T 1 48 3 X.rv st.rules.length ((st.rules.zip X.rl).flatMap fun x => rlV x.1 x.2)
 rlen : X.rl.length = st.rules.length
 rre : ∀ x ∈ st.rules.zip X.rl, RuC T w st.err x.2 x.1.re
 nonts : OwnI w B T 2 9 1 X.nv st.nonts.length (st.nonts.flatMap csT)
 prods : OwnI w B T 4 50 3 X.pv st.prods.length (st.prods.flatMap pdV)
 skips : OwnI w B T 8 69 3 X.sk st.skips.length (st.skips.flatMap wdV)
 terms : OwnI w B T 9 69 3 X.te st.terms.length (st.terms.flatMap wdV)
 nons : OwnI w B T 10 69 3 X.no st.nons.length (st.nons.flatMap wdV)
 later : OwnI w B T 15 110 2 X.la st.later.length ((st.later.zip X.fl).flatMap fun x => spV x.1 x.2)
 flen : X.fl.length = st.later.length
 fst : ∀ x ∈ st.later.zip X.fl, StpV T w rb x.2 x.1
theorem RdV.keep {B rb : Nat} {T : Nat → Nat} {w w' : World} {X : RX} {st : RS} (h : RdV B T w rb X st) (hb : Below w.heap.size w w') : RdV B T w' rb X st := by
 have hk : Kept (fun _ => False) w w' := Kept.of_below hb
 have hc : Chg T T w w' := Chg.of_below hb
 have ht : ∀ b, b < w.heap.size → T b = T b := fun _ _ => rfl
 have hF : ∀ i b, False → T b ≠ i := fun _ _ h => h.elim
 exact ⟨hs_keep h.blk hb, h.rt, fun b hn => ⟨(h.own b hn).1, Nat.lt_of_lt_of_le (h.own b hn).2 hb.size⟩, Nat.le_trans h.base hb.size, h.words.keep hc, h.wf, h.rules.kept hk (hF 1) ht, h.rlen, fun x hx => (h.rre x hx).keep hc, h.nonts.kept hk (hF 2) ht, h.prods.kept hk (hF 4) ht, h.skips.kept hk (hF 8) ht, h.terms.kept hk (hF 9) ht, h.nons.kept hk (hF 10) ht, h.later.kept hk (hF 15) ht, h.flen, fun x hx => (h.fst x hx).keep hc⟩
theorem RdV.fresh {B rb b : Nat} {T : Nat → Nat} {w : World} {X : RX} {st : RS} (h : RdV B T w rb X st) (hb : w.heap.size ≤ b) : T b = 0 := by
 rcases Nat.eq_zero_or_pos (T b) with h1 | h1
 · exact h1
 · have := (h.own b (by omega)).2
   omega
/-- the reader's block is stored into, or what bears the number 77 -/
theorem RdV.put {B rb : Nat} {T : Nat → Nat} {w F : World} {X X' : RX} {st st' : RS} (h : RdV B T w rb X st) (hk : Kept (fun b => b = rb ∨ T b = 77) w F)
 (hblk : F.heap[rb]? = some (rdO X' st'.levels st'.starts st'.pl st'.err)) (hws : WsV T F X'.wv st'.ws) (hwf : Endd st'.ws)
 (e1 : st'.rules = st.rules) (e2 : st'.nonts = st.nonts) (e3 : st'.prods = st.prods) (e4 : st'.skips = st.skips) (e5 : st'.terms = st.terms) (e6 : st'.nons = st.nons) (e7 : st'.later = st.later) (e8 : st'.err = 0 → st.err = 0)
 (f1 : X'.rv = X.rv) (f2 : X'.nv = X.nv) (f3 : X'.pv = X.pv) (f4 : X'.sk = X.sk) (f5 : X'.te = X.te) (f6 : X'.no = X.no) (f7 : X'.la = X.la) (f8 : X'.rl = X.rl) (f9 : X'.fl = X.fl) :
 RdV B T F rb X' st' := by
 have hc : Sft T T w F := Sft.of_kept hk (fun b e => by rcases e with e | e <;> rw [e] <;> (try rw [h.rt]) <;> decide)
 have ht : ∀ b, b < w.heap.size → T b = T b := fun _ _ => rfl
 have hF : ∀ i, i ≠ 99 → i ≠ 77 → ∀ b, b = rb ∨ T b = 77 → T b ≠ i := fun i hi hj b e => by
  rcases e with e | e
  · rw [e, h.rt]; exact hi.symm
  · rw [e]; exact hj.symm
 refine ⟨hblk, h.rt, fun b hn => ⟨(h.own b hn).1, Nat.lt_of_lt_of_le (h.own b hn).2 hk.size⟩, Nat.le_trans h.base hk.size, hws, hwf, ?_, ?_, ?_, ?_, ?_, ?_, ?_, ?_, ?_, ?_, ?_⟩
 · rw [e1, f1, f8]; exact h.rules.kept hk (hF 1 (by decide) (by decide)) ht
 · rw [e1, f8]; exact h.rlen
 · rw [e1, f8]; exact fun x hx => ((h.rre x hx).sft hc).err e8
 · rw [e2, f2]; exact h.nonts.kept hk (hF 2 (by decide) (by decide)) ht
 · rw [e3, f3]; exact h.prods.kept hk (hF 4 (by decide) (by decide)) ht
 · rw [e4, f4]; exact h.skips.kept hk (hF 8 (by decide) (by decide)) ht
 · rw [e5, f5]; exact h.terms.kept hk (hF 9 (by decide) (by decide)) ht
 · rw [e6, f6]; exact h.nons.kept hk (hF 10 (by decide) (by decide)) ht
 · rw [e7, f7, f9]; exact h.later.kept hk (hF 15 (by decide) (by decide)) ht
 · rw [e7, f9]; exact h.flen
 · rw [e7, f9]; exact fun x hx => (h.fst x hx).sft hc
/-- nothing but what bears the number 77 has changed; numbers may, where nothing of the reader is -/
theorem OwnI.mv {w w' : World} {B i sz n : Nat} {T T' : Nat → Nat} {te : TypeId} {v : Value} {xs : List Value} (h : OwnI w B T i te sz v n xs) (hk : Kept (fun b => T b = 77) w w') (hi : i ≠ 77) (ht : ∀ b, b < w.heap.size → T b ≠ 77 → T' b = T b) : OwnI w' B T' i te sz v n xs :=
 ⟨own_kept h.1 hk (fun k e hf => hi ((h.2 k e).symm.trans hf)), fun b e => (ht b (h.1.lt b e).2 (by rw [h.2 b e]; exact hi)).trans (h.2 b e)⟩
theorem Im.mv {T T' : Nat → Nat} {w w' : World} {b : Nat} {o : Obj} (h : Im T w b o) (hk : Kept (fun b => T b = 77) w w') (ht : ∀ b, b < w.heap.size → T b ≠ 77 → T' b = T b) : Im T' w' b o := by
 have hb := blk_lt h.2
 have h7 : T b ≠ 77 := by rw [h.1]; decide
 exact ⟨(ht b hb h7).trans h.1, (hk.block b hb h7).trans h.2⟩
theorem StpV.mv {T T' : Nat → Nat} {w w' : World} {rb : Nat} {v : Value} {s : Stp} (h : StpV T w rb v s) (hk : Kept (fun b => T b = 77) w w') (ht : ∀ b, b < w.heap.size → T b ≠ 77 → T' b = T b) : StpV T' w' rb v s := by
 rcases h with ⟨h, p, q, e, h1, h2⟩ | ⟨h, p, q, l, e, h1, h2, h3⟩ | ⟨h, l, e, h3⟩ | ⟨h, p, q, e, h1, h2⟩ | ⟨h, p, l, q, e, h1, h2, h3⟩ | ⟨h, p, q, l, e, h1, h2, h3⟩
 · exact .inl ⟨h, p, q, e, h1.mv hk ht, h2.mv hk ht⟩
 · exact .inr (.inl ⟨h, p, q, l, e, h1.mv hk ht, h2.mv hk ht, h3.mv hk ht⟩)
 · exact .inr (.inr (.inl ⟨h, l, e, h3.mv hk ht⟩))
 · exact .inr (.inr (.inr (.inl ⟨h, p, q, e, h1.mv hk ht, h2.mv hk ht⟩)))
 · exact .inr (.inr (.inr (.inr (.inl ⟨h, p, l, q, e, h1.mv hk ht, h2.mv hk ht, h3.mv hk ht⟩))))
 · exact .inr (.inr (.inr (.inr (.inr ⟨h, p, q, l, e, h1.mv hk ht, h2.mv hk ht, h3.mv hk ht⟩))))
theorem ImC.mv {T T' : Nat → Nat} {w w' : World} {v : Value} {l : List Cel} (h : ImC T w v l) (hk : Kept (fun b => T b = 77) w w') (ht : ∀ b, b < w.heap.size → T b ≠ 77 → T' b = T b) : ImC T' w' v l := by
 refine ⟨h.1.keptP hk (fun a n c e hn hf => h.2 a n c e hn (by show T a.block ≠ 0; rw [hf]; decide)), fun a n c e hn hf => ?_⟩
 have h0 := h.2 a n c e hn
 obtain ⟨a', cap, e', _, _, _, hat⟩ := h.1
 rw [e] at e'
 injection e' with e1 e2 e3
 subst e2
 obtain ⟨b, o, e4, hlt, _⟩ := hat 0 hn
 rw [e4] at e1
 injection e1 with e1
 subst e1
 have hz : T b = 0 := by
  rcases Nat.eq_zero_or_pos (T b) with h9 | h9
  · exact h9
  · exact absurd (show T b ≠ 0 by omega) h0
 exact hf ((ht b hlt (by rw [hz]; decide)).trans hz)
theorem RuC.mv {T T' : Nat → Nat} {w w' : World} {er : Int} {v : Value} {l : List Cel} (h : RuC T w er v l) (hk : Kept (fun b => T b = 77) w w') (ht : ∀ b, b < w.heap.size → T b ≠ 77 → T' b = T b) : RuC T' w' er v l := ⟨h.1, fun e => (h.2 e).mv hk ht⟩
theorem RdV.mv {B rb : Nat} {T T' : Nat → Nat} {w F : World} {X : RX} {st : RS} (h : RdV B T w rb X st) (hk : Kept (fun b => T b = 77) w F) (ht : ∀ b, b < w.heap.size → T b ≠ 77 → T' b = T b) (ho : ∀ b, T' b ≠ 0 → B ≤ b ∧ b < F.heap.size) : RdV B T' F rb X st := by
 have hr := blk_lt h.blk
 have h7 : T rb ≠ 77 := by rw [h.rt]; decide
 refine ⟨hk.blk h.blk h7, (ht rb hr h7).trans h.rt, ho, Nat.le_trans h.base hk.size, ?_, h.wf, h.rules.mv hk (by decide) ht, h.rlen, fun x hx => (h.rre x hx).mv hk ht, h.nonts.mv hk (by decide) ht, h.prods.mv hk (by decide) ht, h.skips.mv hk (by decide) ht, h.terms.mv hk (by decide) ht, h.nons.mv hk (by decide) ht, h.later.mv hk (by decide) ht, h.flen, fun x hx => (h.fst x hx).mv hk ht⟩
 obtain ⟨b, o, cap, e, h1, h2, h3, h4⟩ := h.words
 have h8 : T b ≠ 77 := by rw [h2]; decide
 refine ⟨b, o, cap, e, h1, (ht b h3 h8).trans h2, Nat.lt_of_lt_of_le h3 hk.size, fun j hj => ?_⟩
 obtain ⟨x0, x1, x2⟩ := h4 j hj
 exact ⟨hk.cell x0 h3 h8, hk.cell x1 h3 h8, hk.cell x2 h3 h8⟩
/-- the number i for block q -/
def tagT (T : Nat → Nat) (q i : Nat) : Nat → Nat := fun b => if b = q then i else T b
/-- a block of the caller's own is set aside -/
theorem RdV.aside {B rb q : Nat} {T : Nat → Nat} {w F : World} {X : RX} {st : RS} (h : RdV B T w rb X st) (hb : Below w.heap.size w F) (h1 : w.heap.size ≤ q) (h2 : q < F.heap.size) : RdV B (tagT T q 77) F rb X st ∧ Chg T (tagT T q 77) w F := by
 have ht : ∀ b, b < w.heap.size → tagT T q 77 b = T b := fun b hb9 => if_neg (by omega)
 refine ⟨h.mv (Kept.of_below hb) (fun b hb9 _ => ht b hb9) (fun b hn => ?_), Kept.of_below hb, ht⟩
 unfold tagT at hn
 split at hn
 · rename_i e; subst e; exact ⟨Nat.le_trans h.base h1, h2⟩
 · exact ⟨(h.own b hn).1, Nat.lt_of_lt_of_le (h.own b hn).2 hb.size⟩
/-- .. and changed -/
theorem RdV.wrote {B rb q : Nat} {T : Nat → Nat} {w F : World} {X : RX} {st : RS} (h : RdV B (tagT T q 77) w rb X st) (hk : Kept (oneBlk q) w F) (h0 : T q = 0) : RdV B T F rb X st := by
 have hq : tagT T q 77 q = 77 := if_pos rfl
 refine h.mv (hk.mono (fun b _ e => by rw [show b = q from e, hq])) (fun b _ h7 => ?_) (fun b hn => ?_)
 · have : b ≠ q := fun e => h7 (by rw [e, hq])
   exact (if_neg this).symm
 · have hb : b ≠ q := fun e => hn (by rw [e, h0])
   have e9 : tagT T q 77 b = T b := if_neg hb
   have := h.own b (by rw [e9]; exact hn)
   exact ⟨this.1, Nat.lt_of_lt_of_le this.2 hk.size⟩
theorem RdV.chg1 {B rb : Nat} {T : Nat → Nat} {w F : World} {X : RX} {st : RS} (h : RdV B T w rb X st) (hk : Kept (oneBlk rb) w F) : Chg T T w F :=
 ⟨hk.mono (fun k _ e => by rw [show k = rb from e, h.rt]; decide), fun _ _ => rfl⟩
/-- the words behind a move -/
theorem RdV.ws1 {B rb : Nat} {T : Nat → Nat} {w F : World} {X : RX} {st : RS} (h : RdV B T w rb X st) (hk : Kept (oneBlk rb) w F) : WsV T F X.wv st.ws := h.words.keep (h.chg1 hk)
/-- the reader behind a call -/
def RdP (B : Nat) (T : Nat → Nat) (w : World) (rb : Nat) (st : RS) (w' : World) : Prop := ∃ T' X', RdV B T' w' rb X' st ∧ Chg T T' w w'
theorem rd18 {w : World} {b : Nat} {x0 x1 x2 x3 x4 x5 x6 x7 x8 x9 x10 x11 x12 x13 x14 x15 x16 x17 : Value} {T : TypeId} (h : w.heap[b]? = some (.cells #[x0, x1, x2, x3, x4, x5, x6, x7, x8, x9, x10, x11, x12, x13, x14, x15, x16, x17] T (0, 0))) :
 w.cell? ⟨b, 0, none⟩ = some x0 ∧ w.cell? ⟨b, 1, none⟩ = some x1 ∧ w.cell? ⟨b, 2, none⟩ = some x2 ∧ w.cell? ⟨b, 3, none⟩ = some x3 ∧ w.cell? ⟨b, 4, none⟩ = some x4 ∧ w.cell? ⟨b, 5, none⟩ = some x5 ∧ w.cell? ⟨b, 6, none⟩ = some x6 ∧ w.cell? ⟨b, 7, none⟩ = some x7 ∧ w.cell? ⟨b, 8, none⟩ = some x8 ∧ w.cell? ⟨b, 9, none⟩ = some x9 ∧ w.cell? ⟨b, 10, none⟩ = some x10 ∧ w.cell? ⟨b, 15, none⟩ = some x15 ∧ w.cell? ⟨b, 16, none⟩ = some x16 ∧ w.cell? ⟨b, 17, none⟩ = some x17 :=
 ⟨blk_cell h rfl, blk_cell h rfl, blk_cell h rfl, blk_cell h rfl, blk_cell h rfl, blk_cell h rfl, blk_cell h rfl, blk_cell h rfl, blk_cell h rfl, blk_cell h rfl, blk_cell h rfl, blk_cell h rfl, blk_cell h rfl, blk_cell h rfl⟩

end Go.Proofs.YtloaikjealcbmaaGreat
