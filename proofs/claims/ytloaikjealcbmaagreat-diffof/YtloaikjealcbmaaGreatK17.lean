/- append of a slice of numbers to a slice of the call's own; copied, slices.Grow, slices.Concat. Layer 14: a change in memory. The reference: Letter, Reserved, named. The reference: names. -/
import Derived.Test.YtloaikjealcbmaaGreatK10
import Derived.Test.YtloaikjealcbmaaGreatK16
import Derived.Test.YtloaikjealcbmaaGreatK15
import Derived.Test.YtloaikjealcbmaaGreatK11
import Derived.Test.YtloaikjealcbmaaGreatK14
import Derived.Laws.AppendOwnNone
import Derived.Laws.OwnMore
import Derived.Maps.AppendAt
import Derived.Deep.AppendLies
namespace Go.Proofs.YtloaikjealcbmaaGreat
open Go.RowKit

end Go.Proofs.YtloaikjealcbmaaGreat
namespace Go.Proofs.YtloaikjealcbmaaGreat
open Go.RowKit Go.Maps Go.Sort

def prC (p : Int × Int) : List Value := [.int .i64 p.1, .int .i64 p.2]
def prCells (l : List (Int × Int)) : List Value := l.flatMap prC
theorem prCells_app (l m : List (Int × Int)) : prCells (l ++ m) = prCells l ++ prCells m := by unfold prCells; rw [List.flatMap_append]
theorem prCells_at : ∀ (l : List (Int × Int)) (j : Nat) (hj : j < l.length), (prCells l)[j * 2]? = some (.int .i64 l[j].1) ∧ (prCells l)[j * 2 + 1]? = some (.int .i64 l[j].2)
 | [], _, hj => absurd hj (Nat.not_lt_zero _)
 | a :: l, 0, _ => ⟨rfl, rfl⟩
 | a :: l, j + 1, hj => by
  have h := prCells_at l j (by simpa using hj)
  have e : prCells (a :: l) = prC a ++ prCells l := rfl
  have hl : (prC a).length = 2 := rfl
  rw [e, List.getElem?_append_right (by rw [hl]; omega), List.getElem?_append_right (by rw [hl]; omega), hl, show (j + 1) * 2 - 2 = j * 2 by omega, show (j + 1) * 2 + 1 - 2 = j * 2 + 1 by omega]
  exact h
/-- pairs, wherever they lie -/
def PrAt (w : World) (b o : Nat) (p : Int × Int) : Prop := w.cell? ⟨b, o, none⟩ = some (.int .i64 p.1) ∧ w.cell? ⟨b, o + 1, none⟩ = some (.int .i64 p.2)
abbrev Prs (w : World) (v : Value) (l : List (Int × Int)) : Prop := Lst 2 PrAt w v l
abbrev OwnP (w : World) (B : Nat) (v : Value) (l : List (Int × Int)) : Prop := w.ownsRow B 41 2 v l.length (prCells l)
theorem Prs.of_row {w : World} {B : Nat} {v : Value} {l : List (Int × Int)} (h : OwnP w B v l) : Prs w v l := by
 have h' := h
 rcases h.2 with ⟨rfl, h0⟩ | ⟨g, cap, cur, rfl, _, _, hc, _⟩
 · rw [List.length_eq_zero_iff.1 h0]
   exact Lst.nil w
 · have hlt := (h'.lt g rfl).2
   have hcells := h'.cells (g := g) rfl
   refine ⟨_, _, rfl, hc, fun h => (by cases h), fun j hj => ⟨g, 0, rfl, hlt, ?_⟩⟩
   obtain ⟨h1, h2⟩ := prCells_at l j hj
   have e1 := hcells _ _ h1
   have e2 := hcells _ _ h2
   refine ⟨?_, ?_⟩
   · by_cases h0 : j = 0
     · subst h0; simpa [Addr.add] using e1
     · simpa [Addr.add, show j * 2 ≠ 0 by omega] using e1
   · simpa [Addr.add] using e2
theorem Prs.keep {w u : World} {v : Value} {l : List (Int × Int)} (h : Prs w v l) (hu : Below w.heap.size w u) : Prs u v l := h.keepR hu.size fun _ _ _ _ h => ⟨keep_cell hu h.1, keep_cell hu h.2⟩
def updT (τ : Nat → Nat) (n t : Nat) : Nat → Nat := fun k => if k = n then t else τ k
theorem updT_same (τ : Nat → Nat) (n t : Nat) : updT τ n t n = t := if_pos rfl
theorem updT_low {τ : Nat → Nat} {n t k : Nat} (h : k < n) : updT τ n t k = τ k := if_neg (by omega)
/-- a change that is made: its block, its rows, the row of what is kept; a number a block tells whose it is -/
structure ChO (τ : Nat → Nat) (w0 w : World) (cb : Nat) (tv kv gv nv : Value) (kept : List Int) (prs : List (Int × Int)) (gone new : List Int) (a b s : Bool) : Prop where
 blk : w.heap[cb]? = some (.cells #[kv, gv, nv, .bool a, .bool b, .bool s] 34)
 low : Below w0.heap.size w0 w
 c0 : w0.heap.size ≤ cb
 kt : Own w w0.heap.size tv kept
 pr : OwnP w w0.heap.size kv prs
 go : Own w w0.heap.size gv gone
 nw : Own w w0.heap.size nv new
 t0 : τ cb = 0
 t1 : ∀ k, tv.ownBlock = some k → τ k = 1
 t2 : ∀ k, kv.ownBlock = some k → τ k = 2
 t3 : ∀ k, gv.ownBlock = some k → τ k = 3
 t4 : ∀ k, nv.ownBlock = some k → τ k = 4
theorem ChO.start {w0 w : World} {cb : Nat} {a b s : Bool} (hb : w.heap[cb]? = some (.cells #[.slice none 0 0, .slice none 0 0, .slice none 0 0, .bool a, .bool b, .bool s] 34)) (hl : Below w0.heap.size w0 w) (hc : w0.heap.size ≤ cb) : ChO (fun _ => 0) w0 w cb (.slice none 0 0) (.slice none 0 0) (.slice none 0 0) (.slice none 0 0) [] [] [] [] a b s :=
 ⟨hb, hl, hc, World.ownsRow_nil _ _ _ _, World.ownsRow_nil _ _ _ _, World.ownsRow_nil _ _ _ _, World.ownsRow_nil _ _ _ _, rfl, fun _ h => (by cases h), fun _ h => (by cases h), fun _ h => (by cases h), fun _ h => (by cases h)⟩
section
variable {τ : Nat → Nat} {w0 w : World} {cb : Nat} {tv kv gv nv : Value} {kept : List Int} {prs : List (Int × Int)} {gone new : List Int} {a b s : Bool}
theorem ChO.keep (h : ChO τ w0 w cb tv kv gv nv kept prs gone new a b s) {u : World} (hu : Below w.heap.size w u) : ChO τ w0 u cb tv kv gv nv kept prs gone new a b s :=
 ⟨hs_keep h.blk hu, bl_step h.low hu, h.c0, own_below h.kt hu, own_below h.pr hu, own_below h.go hu, own_below h.nw hu, h.t0, h.t1, h.t2, h.t3, h.t4⟩
theorem ChO.cells (h : ChO τ w0 w cb tv kv gv nv kept prs gone new a b s) : w.cell? ⟨cb, 0, none⟩ = some kv ∧ w.cell? ⟨cb, 1, none⟩ = some gv ∧ w.cell? ⟨cb, 2, none⟩ = some nv ∧ w.cell? ⟨cb, 3, none⟩ = some (.bool a) ∧ w.cell? ⟨cb, 4, none⟩ = some (.bool b) ∧ w.cell? ⟨cb, 5, none⟩ = some (.bool s) := ⟨blk_cell h.blk rfl, blk_cell h.blk rfl, blk_cell h.blk rfl, blk_cell h.blk rfl, blk_cell h.blk rfl, blk_cell h.blk rfl⟩
theorem tag_ne {v : Value} {t t' r : Nat} {τ : Nat → Nat} (hv : ∀ k, v.ownBlock = some k → τ k = t) (hr : τ r = t') (hne : t ≠ t') : some r ≠ v.ownBlock := fun e => hne ((hv r e.symm).symm.trans hr)
theorem tag_off {v v' : Value} {t t' : Nat} {τ : Nat → Nat} (hv : ∀ k, v.ownBlock = some k → τ k = t) (hv' : ∀ k, v'.ownBlock = some k → τ k = t') (hne : t ≠ t') : v.ownBlock = none ∨ v.ownBlock ≠ v'.ownBlock := by
 cases h : v.ownBlock with
 | none => exact .inl rfl
 | some k => exact .inr fun e => hne ((hv k h).symm.trans (hv' k e.symm))
theorem below_grown {v : Value} {n : Nat} {xs : List Value} {e : TypeId} {sz : Nat} {u : World} (hl : Below w0.heap.size w0 w) (ho : w.ownsRow w0.heap.size e sz v n xs) (hg : w.grownBy u v.ownBlock) : Below w0.heap.size w0 u :=
 hl.grown hg hl.size (fun k hk => (ho.lt k hk).1)
theorem tag_new {τ : Nat → Nat} {v : Value} {g n c H t : Nat} (hv : ∀ k, v.ownBlock = some k → τ k = t) (hat : v.ownBlock = some g ∨ g = H) : ∀ k, (Value.slice (some ⟨g, 0, none⟩) n c).ownBlock = some k → updT τ H t k = t := fun k e => by
 have e : some g = some k := e
 injection e with e
 subst e
 unfold updT
 split
 · rfl
 · rename_i hne
   exact hv g (hat.resolve_right hne)
theorem tag_old {τ : Nat → Nat} {v : Value} {H t t' : Nat} (hv : ∀ k, v.ownBlock = some k → τ k = t) (hlt : ∀ k, v.ownBlock = some k → k < H) : ∀ k, v.ownBlock = some k → updT τ H t' k = t := fun k e => by rw [updT_low (hlt k e)]; exact hv k e
/-- one more is kept -/
theorem ChO.pushT (h : ChO τ w0 w cb tv kv gv nv kept prs gone new a b s) {u : World} {x : Int} {g cap : Nat} (ho : u.ownsRow w0.heap.size 3 1 (.slice (some ⟨g, 0, none⟩) (kept.length + 1) cap) (kept.length + 1) (numCells kept ++ [.int .i64 x])) (hg : w.grownBy u tv.ownBlock) (hat : tv.ownBlock = some g ∨ g = w.heap.size) :
 ChO (updT τ w.heap.size 1) w0 u cb (.slice (some ⟨g, 0, none⟩) (kept.length + 1) cap) kv gv nv (kept ++ [x]) prs gone new a b s where
 blk := (hg.block cb (blk_lt h.blk) (tag_ne h.t1 h.t0 (by decide))).trans h.blk
 low := below_grown h.low h.kt hg
 c0 := h.c0
 kt := by unfold Own; rw [numCells_snoc, List.length_append]; exact ho
 pr := h.pr.kept hg (tag_off h.t2 h.t1 (by decide))
 go := h.go.kept hg (tag_off h.t3 h.t1 (by decide))
 nw := h.nw.kept hg (tag_off h.t4 h.t1 (by decide))
 t0 := by rw [updT_low (blk_lt h.blk)]; exact h.t0
 t1 := tag_new h.t1 hat
 t2 := tag_old h.t2 fun k e => (h.pr.lt k e).2
 t3 := tag_old h.t3 fun k e => (h.go.lt k e).2
 t4 := tag_old h.t4 fun k e => (h.nw.lt k e).2
theorem own_setCell {w : World} {B n sz c o : Nat} {e : TypeId} {v x : Value} {xs : List Value} (h : w.ownsRow B e sz v n xs) (hne : some c ≠ v.ownBlock) : (w.setCell ⟨c, o, none⟩ x).ownsRow B e sz v n xs :=
 own_keep h fun k hk => Below.heap_setCell _ _ _ _ (fun e => hne (by rw [hk, e]))
/-- one more pair: behind the append, and behind the store -/
theorem ChO.pushK (h : ChO τ w0 w cb tv kv gv nv kept prs gone new a b s) {u : World} {x y : Int} {g cap : Nat} (ho : u.ownsRow w0.heap.size 41 2 (.slice (some ⟨g, 0, none⟩) (prs.length + 1) cap) (prs.length + 1) (prCells prs ++ [.int .i64 x, .int .i64 y])) (hg : w.grownBy u kv.ownBlock) (hat : kv.ownBlock = some g ∨ g = w.heap.size) :
 (u.cell? ⟨cb, 0, none⟩ = some kv ∧ u.frozen? ⟨cb, 0, none⟩ = false) ∧ ChO (updT τ w.heap.size 2) w0 (u.setCell ⟨cb, 0, none⟩ (.slice (some ⟨g, 0, none⟩) (prs.length + 1) cap)) cb tv (.slice (some ⟨g, 0, none⟩) (prs.length + 1) cap) gv nv kept (prs ++ [(x, y)]) gone new a b s := by
 have hb : u.heap[cb]? = some (.cells #[kv, gv, nv, .bool a, .bool b, .bool s] 34) := (hg.block cb (blk_lt h.blk) (tag_ne h.t2 h.t0 (by decide))).trans h.blk
 have t0' : updT τ w.heap.size 2 cb = 0 := by rw [updT_low (blk_lt h.blk)]; exact h.t0
 have t2' := tag_new (n := prs.length + 1) (c := cap) h.t2 hat
 refine ⟨⟨blk_cell hb rfl, blk_frozen hb 0⟩, ?_⟩
 exact {
  blk := by rw [heap_setCell hb]; rfl
  low := bl_set (below_grown h.low h.pr hg) _ _ _ h.c0
  c0 := h.c0
  kt := own_setCell (h.kt.kept hg (tag_off h.t1 h.t2 (by decide))) (tag_ne h.t1 h.t0 (by decide))
  pr := own_setCell (by rw [prCells_app, List.length_append]; exact ho) (tag_ne t2' t0' (by decide))
  go := own_setCell (h.go.kept hg (tag_off h.t3 h.t2 (by decide))) (tag_ne h.t3 h.t0 (by decide))
  nw := own_setCell (h.nw.kept hg (tag_off h.t4 h.t2 (by decide))) (tag_ne h.t4 h.t0 (by decide))
  t0 := t0'
  t1 := tag_old h.t1 fun k e => (h.kt.lt k e).2
  t2 := t2'
  t3 := tag_old h.t3 fun k e => (h.go.lt k e).2
  t4 := tag_old h.t4 fun k e => (h.nw.lt k e).2 }
/-- one more is gone -/
theorem ChO.pushG (h : ChO τ w0 w cb tv kv gv nv kept prs gone new a b s) {u : World} {x : Int} {g cap : Nat} (ho : u.ownsRow w0.heap.size 3 1 (.slice (some ⟨g, 0, none⟩) (gone.length + 1) cap) (gone.length + 1) (numCells gone ++ [.int .i64 x])) (hg : w.grownBy u gv.ownBlock) (hat : gv.ownBlock = some g ∨ g = w.heap.size) :
 (u.cell? ⟨cb, 1, none⟩ = some gv ∧ u.frozen? ⟨cb, 1, none⟩ = false) ∧ ChO (updT τ w.heap.size 3) w0 (u.setCell ⟨cb, 1, none⟩ (.slice (some ⟨g, 0, none⟩) (gone.length + 1) cap)) cb tv kv (.slice (some ⟨g, 0, none⟩) (gone.length + 1) cap) nv kept prs (gone ++ [x]) new a b s := by
 have hb : u.heap[cb]? = some (.cells #[kv, gv, nv, .bool a, .bool b, .bool s] 34) := (hg.block cb (blk_lt h.blk) (tag_ne h.t3 h.t0 (by decide))).trans h.blk
 have t0' : updT τ w.heap.size 3 cb = 0 := by rw [updT_low (blk_lt h.blk)]; exact h.t0
 have t3' := tag_new (n := gone.length + 1) (c := cap) h.t3 hat
 refine ⟨⟨blk_cell hb rfl, blk_frozen hb 1⟩, ?_⟩
 exact {
  blk := by rw [heap_setCell hb]; rfl
  low := bl_set (below_grown h.low h.go hg) _ _ _ h.c0
  c0 := h.c0
  kt := own_setCell (h.kt.kept hg (tag_off h.t1 h.t3 (by decide))) (tag_ne h.t1 h.t0 (by decide))
  pr := own_setCell (h.pr.kept hg (tag_off h.t2 h.t3 (by decide))) (tag_ne h.t2 h.t0 (by decide))
  go := own_setCell (by rw [numCells_snoc, List.length_append]; exact ho) (tag_ne t3' t0' (by decide))
  nw := own_setCell (h.nw.kept hg (tag_off h.t4 h.t3 (by decide))) (tag_ne h.t4 h.t0 (by decide))
  t0 := t0'
  t1 := tag_old h.t1 fun k e => (h.kt.lt k e).2
  t2 := tag_old h.t2 fun k e => (h.pr.lt k e).2
  t3 := t3'
  t4 := tag_old h.t4 fun k e => (h.nw.lt k e).2 }
/-- one more is new -/
theorem ChO.pushN (h : ChO τ w0 w cb tv kv gv nv kept prs gone new a b s) {u : World} {x : Int} {g cap : Nat} (ho : u.ownsRow w0.heap.size 3 1 (.slice (some ⟨g, 0, none⟩) (new.length + 1) cap) (new.length + 1) (numCells new ++ [.int .i64 x])) (hg : w.grownBy u nv.ownBlock) (hat : nv.ownBlock = some g ∨ g = w.heap.size) :
 (u.cell? ⟨cb, 2, none⟩ = some nv ∧ u.frozen? ⟨cb, 2, none⟩ = false) ∧ ChO (updT τ w.heap.size 4) w0 (u.setCell ⟨cb, 2, none⟩ (.slice (some ⟨g, 0, none⟩) (new.length + 1) cap)) cb tv kv gv (.slice (some ⟨g, 0, none⟩) (new.length + 1) cap) kept prs gone (new ++ [x]) a b s := by
 have hb : u.heap[cb]? = some (.cells #[kv, gv, nv, .bool a, .bool b, .bool s] 34) := (hg.block cb (blk_lt h.blk) (tag_ne h.t4 h.t0 (by decide))).trans h.blk
 have t0' : updT τ w.heap.size 4 cb = 0 := by rw [updT_low (blk_lt h.blk)]; exact h.t0
 have t4' := tag_new (n := new.length + 1) (c := cap) h.t4 hat
 refine ⟨⟨blk_cell hb rfl, blk_frozen hb 2⟩, ?_⟩
 exact {
  blk := by rw [heap_setCell hb]; rfl
  low := bl_set (below_grown h.low h.nw hg) _ _ _ h.c0
  c0 := h.c0
  kt := own_setCell (h.kt.kept hg (tag_off h.t1 h.t4 (by decide))) (tag_ne h.t1 h.t0 (by decide))
  pr := own_setCell (h.pr.kept hg (tag_off h.t2 h.t4 (by decide))) (tag_ne h.t2 h.t0 (by decide))
  go := own_setCell (h.go.kept hg (tag_off h.t3 h.t4 (by decide))) (tag_ne h.t3 h.t0 (by decide))
  nw := own_setCell (by rw [numCells_snoc, List.length_append]; exact ho) (tag_ne t4' t0' (by decide))
  t0 := t0'
  t1 := tag_old h.t1 fun k e => (h.kt.lt k e).2
  t2 := tag_old h.t2 fun k e => (h.pr.lt k e).2
  t3 := tag_old h.t3 fun k e => (h.go.lt k e).2
  t4 := t4' }
end

end Go.Proofs.YtloaikjealcbmaaGreat
namespace Go.Proofs.YtloaikjealcbmaaGreat
open Go.RowKit Go.Maps

set_option maxRecDepth 20000 in
theorem letterC (b : Nat) (w : World) (hb : b < 256) : Calls Tryz.prog 75 #[.int .u8 (b : Int)] w fun e w' => e = .returned (.bool (letB b)) ∧ w' = w := by
 rcases (show b = 95 ∨ (65 ≤ b ∧ b ≤ 90) ∨ (97 ≤ b ∧ b ≤ 122) ∨ b < 65 ∨ (90 < b ∧ b < 97 ∧ b ≠ 95) ∨ 122 < b by omega) with h | h | h | h | h | h
 · rw [letB_yes (by omega)]
   subst h
   go_enter Tryz.func75, Tryz.ntmps75
   go_wp2
   go_ret
   exact ⟨by simp, rfl⟩
 · rw [letB_yes (by omega)]
   have h1 : ((b : Int) == 95) = false := by rw [beq_eq_false_iff_ne]; omega
   have h2 : (65 : Int) ≤ (b : Int) := by omega
   have h3 : (b : Int) ≤ 90 := by omega
   go_enter Tryz.func75, Tryz.ntmps75
   go_wp2
   go_ret
   exact ⟨by simp, rfl⟩
 · rw [letB_yes (by omega)]
   have h1 : ((b : Int) == 95) = false := by rw [beq_eq_false_iff_ne]; omega
   have h2 : (65 : Int) ≤ (b : Int) := by omega
   have h3 : ¬ (b : Int) ≤ 90 := by omega
   have h4 : (97 : Int) ≤ (b : Int) := by omega
   have h5 : (b : Int) ≤ 122 := by omega
   go_enter Tryz.func75, Tryz.ntmps75
   go_wp2
   go_ret
   exact ⟨by simp, rfl⟩
 · rw [letB_no (by omega)]
   have h1 : ((b : Int) == 95) = false := by rw [beq_eq_false_iff_ne]; omega
   have h2 : ¬ (65 : Int) ≤ (b : Int) := by omega
   have h4 : ¬ (97 : Int) ≤ (b : Int) := by omega
   go_enter Tryz.func75, Tryz.ntmps75
   go_wp2
   go_ret
   exact ⟨by simp, rfl⟩
 · rw [letB_no (by omega)]
   have h1 : ((b : Int) == 95) = false := by rw [beq_eq_false_iff_ne]; omega
   have h2 : (65 : Int) ≤ (b : Int) := by omega
   have h3 : ¬ (b : Int) ≤ 90 := by omega
   have h4 : ¬ (97 : Int) ≤ (b : Int) := by omega
   go_enter Tryz.func75, Tryz.ntmps75
   go_wp2
   go_ret
   exact ⟨by simp, rfl⟩
 · rw [letB_no (by omega)]
   have h1 : ((b : Int) == 95) = false := by rw [beq_eq_false_iff_ne]; omega
   have h2 : (65 : Int) ≤ (b : Int) := by omega
   have h3 : ¬ (b : Int) ≤ 90 := by omega
   have h4 : (97 : Int) ≤ (b : Int) := by omega
   have h5 : ¬ (b : Int) ≤ 122 := by omega
   go_enter Tryz.func75, Tryz.ntmps75
   go_wp2
   go_ret
   exact ⟨by simp, rfl⟩
theorem kw_yes {t : Txt} (h : t = kTok ∨ t = kSkip ∨ t = kLeft ∨ t = kRight ∨ t = kNone ∨ t = kStart) : kwB t = true := by
 rcases h with rfl | rfl | rfl | rfl | rfl | rfl <;> decide
theorem kw_no {t : Txt} (h1 : ¬ t = kTok) (h2 : ¬ t = kSkip) (h3 : ¬ t = kLeft) (h4 : ¬ t = kRight) (h5 : ¬ t = kNone) (h6 : ¬ t = kStart) : kwB t = false := by
 unfold kwB sdN
 rw [decide_eq_false h1, decide_eq_false h2, decide_eq_false h6, if_neg h3, if_neg h4, if_neg h5]
 rfl
theorem strT_is3 {t u : Txt} (h : t = u) : ((strT t).toList == u) = true := by rw [h, strT_toL, beq_self_eq_true]
theorem strT_isnt3 {t u : Txt} (h : ¬ t = u) : ((strT t).toList == u) = false := by rw [strT_toL, beq_eq_false_iff_ne]; exact h
set_option maxRecDepth 20000 in
set_option maxHeartbeats 4000000 in
theorem reservedC (t : Txt) (w : World) : Calls Tryz.prog 74 #[.string (strT t)] w fun e w' => e = .returned (.bool (kwB t)) ∧ w' = w := by
 by_cases h1 : t = kTok
 · have hb1 : ((strT t).toList == ([116, 111, 107, 101, 110] : Txt)) = true := strT_is3 h1
   rw [kw_yes (.inl h1)]
   clear h1
   generalize strT t = S at *
   go_enter Tryz.func74, Tryz.ntmps74
   go_wp2_with fail
   go_ret
   exact ⟨by first | rfl | simp, rfl⟩
 have hb1 : ((strT t).toList == ([116, 111, 107, 101, 110] : Txt)) = false := strT_isnt3 h1
 by_cases h2 : t = kSkip
 · have hb2 : ((strT t).toList == ([115, 107, 105, 112] : Txt)) = true := strT_is3 h2
   rw [kw_yes (.inr (.inl h2))]
   clear h1 h2
   generalize strT t = S at *
   go_enter Tryz.func74, Tryz.ntmps74
   go_wp2_with fail
   go_ret
   exact ⟨by first | rfl | simp, rfl⟩
 have hb2 : ((strT t).toList == ([115, 107, 105, 112] : Txt)) = false := strT_isnt3 h2
 by_cases h3 : t = kLeft
 · have hb3 : ((strT t).toList == ([108, 101, 102, 116] : Txt)) = true := strT_is3 h3
   rw [kw_yes (.inr (.inr (.inl h3)))]
   clear h1 h2 h3
   generalize strT t = S at *
   go_enter Tryz.func74, Tryz.ntmps74
   go_wp2_with fail
   go_ret
   exact ⟨by first | rfl | simp, rfl⟩
 have hb3 : ((strT t).toList == ([108, 101, 102, 116] : Txt)) = false := strT_isnt3 h3
 by_cases h4 : t = kRight
 · have hb4 : ((strT t).toList == ([114, 105, 103, 104, 116] : Txt)) = true := strT_is3 h4
   rw [kw_yes (.inr (.inr (.inr (.inl h4))))]
   clear h1 h2 h3 h4
   generalize strT t = S at *
   go_enter Tryz.func74, Tryz.ntmps74
   go_wp2_with fail
   go_ret
   exact ⟨by first | rfl | simp, rfl⟩
 have hb4 : ((strT t).toList == ([114, 105, 103, 104, 116] : Txt)) = false := strT_isnt3 h4
 by_cases h5 : t = kNone
 · have hb5 : ((strT t).toList == ([110, 111, 110, 101] : Txt)) = true := strT_is3 h5
   rw [kw_yes (.inr (.inr (.inr (.inr (.inl h5)))))]
   clear h1 h2 h3 h4 h5
   generalize strT t = S at *
   go_enter Tryz.func74, Tryz.ntmps74
   go_wp2_with fail
   go_ret
   exact ⟨by first | rfl | simp, rfl⟩
 have hb5 : ((strT t).toList == ([110, 111, 110, 101] : Txt)) = false := strT_isnt3 h5
 by_cases h6 : t = kStart
 · have hb6 : ((strT t).toList == ([115, 116, 97, 114, 116] : Txt)) = true := strT_is3 h6
   rw [kw_yes (.inr (.inr (.inr (.inr (.inr (h6))))))]
   clear h1 h2 h3 h4 h5 h6
   generalize strT t = S at *
   go_enter Tryz.func74, Tryz.ntmps74
   go_wp2_with fail
   go_ret
   exact ⟨by first | rfl | simp, rfl⟩
 have hb6 : ((strT t).toList == ([115, 116, 97, 114, 116] : Txt)) = false := strT_isnt3 h6
 rw [kw_no h1 h2 h3 h4 h5 h6]
 clear h1 h2 h3 h4 h5 h6
 generalize strT t = S at *
 go_enter Tryz.func74, Tryz.ntmps74
 go_wp2_with fail
 go_ret
 exact ⟨by first | rfl | simp, rfl⟩
theorem namB_bad {s : Txt} {i : Nat} (h : i < s.length) (h1 : letB s[i].toNat = false) (h2 : i = 0 ∨ digB s[i].toNat = false) : namB s = false := by
 rw [Bool.eq_false_iff]
 intro hn
 unfold namB at hn
 simp only [Bool.and_eq_true, decide_eq_true_eq, List.all_eq_true] at hn
 obtain ⟨⟨⟨-, h3⟩, h4⟩, -⟩ := hn
 rcases h2 with rfl | h2
 · cases s with
   | nil => cases h
   | cons c r =>
    have h1 : letB c.toNat = false := h1
    have h3 : letB c.toNat = true := h3
    rw [h1] at h3
    cases h3
 · have := h4 _ (List.getElem_mem h)
   rw [h1, h2] at this
   cases this
theorem namB_good {s : Txt} (h0 : 1 ≤ s.length) (h16 : s.length ≤ 16) (hk : kwB s = false) (h : ∀ i (hi : i < s.length), letB s[i].toNat = true ∨ (i ≠ 0 ∧ digB s[i].toNat = true)) : namB s = true := by
 refine namB_of ⟨h16, ?_, fun c hc => ?_⟩ hk
 · cases s with
   | nil => cases h0
   | cons c r =>
    rcases h 0 (by simp) with h1 | h1
    · exact ⟨c, r, rfl, h1⟩
    · exact absurd rfl h1.1
 · obtain ⟨i, hi, rfl⟩ := List.getElem_of_mem hc
   rcases h i hi with h1 | h1
   · rw [h1, Bool.true_or]
   · rw [h1.2, Bool.or_true]
theorem digB_yes {c : Nat} (h1 : 48 ≤ c) (h2 : c ≤ 57) : digB c = true := by unfold digB; rw [decide_eq_true h1, decide_eq_true h2]; rfl
theorem digB_no {c : Nat} (h : ¬ (48 ≤ c ∧ c ≤ 57)) : digB c = false := by
 unfold digB
 by_cases h1 : 48 ≤ c
 · rw [decide_eq_true h1, decide_eq_false (fun h2 => h ⟨h1, h2⟩)]; rfl
 · rw [decide_eq_false h1]; rfl
set_option maxRecDepth 20000 in
set_option maxHeartbeats 8000000 in
theorem namedC (s : Txt) (w : World) (hs : s.length ≤ 1000000) : Calls Tryz.prog 55 #[.string (strT s)] w fun e w' => e = .returned (.bool (namB s)) ∧ w' = w := by
 have hsz := strT_size s
 have GL := hid (fun (c : Nat) (hc : c < 256) (u : World) => letterC c u hc)
 have GK := hid (reservedC s w)
 rcases Nat.lt_or_ge s.length 1 with h1 | h1
 · have hz : ((strT s).size : Int) < 1 := by omega
   have hn : namB s = false := by
    have : s = [] := List.eq_nil_of_length_eq_zero (by omega)
    rw [this]; rfl
   rw [hn]
   clear GK GL hn hsz
   go_enter Tryz.func55, Tryz.ntmps55
   go_wp2
   go_ret
   exact ⟨rfl, rfl⟩
 have hz1 : ¬ ((strT s).size : Int) < 1 := by omega
 rcases Nat.lt_or_ge 16 s.length with h2 | h2
 · have hz : (16 : Int) < ((strT s).size : Int) := by omega
   have hn : namB s = false := by unfold namB; rw [decide_eq_false (by omega)]; rfl
   rw [hn]
   clear GK GL hn hsz
   go_enter Tryz.func55, Tryz.ntmps55
   go_wp2
   go_ret
   exact ⟨rfl, rfl⟩
 have hz2 : ¬ (16 : Int) < ((strT s).size : Int) := by omega
 cases hk : kwB s with
 | true =>
  have hn : namB s = false := by unfold namB; rw [hk]; simp
  rw [hn]
  rw [hk] at GK
  clear GL hn hsz hk
  go_enter Tryz.func55, Tryz.ntmps55
  go_wp2_with (go_at_call 74; refine GK.out.mono ?_; clear GK; rintro e w2 ⟨rfl, hc2⟩; subst w2)
  go_ret
  exact ⟨rfl, rfl⟩
 | false =>
  rw [hk] at GK
  have hgood := hid (fun h => namB_good h1 h2 hk h)
  have hbad := hid (fun i (h : i < s.length) h1 h2 => namB_bad h h1 h2)
  clear hk
  generalize namB s = R at *
  go_enter Tryz.func55, Tryz.ntmps55
  go_wp2_with (go_at_call 74; refine GK.out.mono ?_; clear GK; rintro e w2 ⟨rfl, hc2⟩; subst w2)
  go_loopw [3] (fun x wr => ∃ p : Nat, p ≤ s.length ∧ x = .int .i64 (p : Int) ∧ Hid (∀ i (hi : i < s.length), i < p → letB s[i].toNat = true ∨ (i ≠ 0 ∧ digB s[i].toNat = true)) ∧ wr = w) (fun x _ => s.length - (intOf x).toNat)
  case atStart => exact ⟨0, Nat.zero_le _, rfl, hid (fun i _ h => absurd h (Nat.not_lt_zero _)), rfl⟩
  case round =>
   obtain ⟨p, hp, rfl, hI, rfl⟩ := hrel
   by_cases hpt : p < s.length
   · have hptz : (p : Int) < ((strT s).size : Int) := by omega
     have hptn : p < (strT s).size := by omega
     have key := str_get hpt hptn
     have hgd : s.getD p 0 = s[p] := by rw [List.getD_eq_getElem?_getD, List.getElem?_eq_getElem hpt]; rfl
     rw [hgd] at key
     have hcb := s[p].toNat_lt
     have G := hid (GL.out s[p].toNat hcb wr)
     have hb1 := hid (fun h1 h2 => hbad.out p hpt h1 h2)
     have hst : Hid ((letB s[p].toNat = true ∨ (p ≠ 0 ∧ digB s[p].toNat = true)) → ∀ i (hi : i < s.length), i < p + 1 → letB s[i].toNat = true ∨ (i ≠ 0 ∧ digB s[i].toNat = true)) := hid (fun h i hi h9 => by
      rcases Nat.lt_or_ge i p with h8 | h8
      · exact hI.out i hi h8
      · obtain rfl : i = p := by omega
        exact h)
     clear hgd hI hbad
     generalize s[p].toNat = c at *
     have hdig : (48 ≤ c ∧ c ≤ 57) ∨ c < 48 ∨ 57 < c := by omega
     cases hl : letB c with
     | true =>
      rw [hl] at G
      have hn9 := hid (hst.out (.inl hl))
      clear hst hb1 hl
      rcases hdig with ⟨d1, d2⟩ | d1 | d1
      · have e1 : (48 : Int) ≤ (c : Int) := by omega
        have e2 : (c : Int) ≤ 57 := by omega
        go_wp2_with (go_at_call 75; refine G.out.mono ?_; clear G; rintro e w2 ⟨rfl, hc2⟩; subst w2)
        go_roundw
        case rel => exact ⟨p + 1, by omega, by go_num, hn9, by first | rfl | trivial⟩
        case measure => simp [intOf]; omega
      · have e1 : ¬ (48 : Int) ≤ (c : Int) := by omega
        go_wp2_with (go_at_call 75; refine G.out.mono ?_; clear G; rintro e w2 ⟨rfl, hc2⟩; subst w2)
        go_roundw
        case rel => exact ⟨p + 1, by omega, by go_num, hn9, by first | rfl | trivial⟩
        case measure => simp [intOf]; omega
      · have e1 : (48 : Int) ≤ (c : Int) := by omega
        have e2 : ¬ (c : Int) ≤ 57 := by omega
        go_wp2_with (go_at_call 75; refine G.out.mono ?_; clear G; rintro e w2 ⟨rfl, hc2⟩; subst w2)
        go_roundw
        case rel => exact ⟨p + 1, by omega, by go_num, hn9, by first | rfl | trivial⟩
        case measure => simp [intOf]; omega
     | false =>
      rw [hl] at G
      rcases Nat.eq_zero_or_pos p with h0 | h0
      · obtain rfl := hb1.out hl (.inl h0)
        have h0z : ((p : Int) == 0) = true := by rw [h0]; rfl
        clear hst hb1 hl h0
        rcases hdig with ⟨d1, d2⟩ | d1 | d1
        · have e1 : (48 : Int) ≤ (c : Int) := by omega
          have e2 : (c : Int) ≤ 57 := by omega
          go_wp2_with (go_at_call 75; refine G.out.mono ?_; clear G; rintro e w2 ⟨rfl, hc2⟩; subst w2)
          go_ret
          exact ⟨rfl, rfl⟩
        · have e1 : ¬ (48 : Int) ≤ (c : Int) := by omega
          go_wp2_with (go_at_call 75; refine G.out.mono ?_; clear G; rintro e w2 ⟨rfl, hc2⟩; subst w2)
          go_ret
          exact ⟨rfl, rfl⟩
        · have e1 : (48 : Int) ≤ (c : Int) := by omega
          have e2 : ¬ (c : Int) ≤ 57 := by omega
          go_wp2_with (go_at_call 75; refine G.out.mono ?_; clear G; rintro e w2 ⟨rfl, hc2⟩; subst w2)
          go_ret
          exact ⟨rfl, rfl⟩
      · have h0z : ((p : Int) == 0) = false := by rw [beq_eq_false_iff_ne]; omega
        rcases hdig with ⟨d1, d2⟩ | d1 | d1
        · have e1 : (48 : Int) ≤ (c : Int) := by omega
          have e2 : (c : Int) ≤ 57 := by omega
          have hn9 := hid (hst.out (.inr ⟨by omega, digB_yes d1 d2⟩))
          clear hst hb1 hl
          go_wp2_with (go_at_call 75; refine G.out.mono ?_; clear G; rintro e w2 ⟨rfl, hc2⟩; subst w2)
          go_roundw
          case rel => exact ⟨p + 1, by omega, by go_num, hn9, by first | rfl | trivial⟩
          case measure => simp [intOf]; omega
        · have e1 : ¬ (48 : Int) ≤ (c : Int) := by omega
          obtain rfl := hb1.out hl (.inr (digB_no (by omega)))
          clear hst hb1 hl
          go_wp2_with (go_at_call 75; refine G.out.mono ?_; clear G; rintro e w2 ⟨rfl, hc2⟩; subst w2)
          go_ret
          exact ⟨rfl, rfl⟩
        · have e1 : (48 : Int) ≤ (c : Int) := by omega
          have e2 : ¬ (c : Int) ≤ 57 := by omega
          obtain rfl := hb1.out hl (.inr (digB_no (by omega)))
          clear hst hb1 hl
          go_wp2_with (go_at_call 75; refine G.out.mono ?_; clear G; rintro e w2 ⟨rfl, hc2⟩; subst w2)
          go_ret
          exact ⟨rfl, rfl⟩
   · have hptz : ¬ (p : Int) < ((strT s).size : Int) := by omega
     obtain rfl := hgood.out (fun i hi => hI.out i hi (by omega))
     go_wp2
     go_ret
     exact ⟨rfl, rfl⟩

end Go.Proofs.YtloaikjealcbmaaGreat
namespace Go.Proofs.YtloaikjealcbmaaGreat
open Go.RowKit Go.Maps Go.Sort

def namesB (g : Gm) : Bool := (g.rules.all fun r => rightB r.re) && (g.allN.all namB && decide g.allN.Nodup)
theorem namesB_right {g : Gm} {k : Nat} (hk : k < g.rules.length) (h : rightB g.rules[k].re = false) : namesB g = false := by
 unfold namesB
 have : (g.rules.all fun r => rightB r.re) = false := by
  rw [List.all_eq_false]
  exact ⟨_, List.getElem_mem hk, by rw [h]; decide⟩
 rw [this]; rfl
theorem namesB_named {g : Gm} {k : Nat} (hk : k < g.allN.length) (h : namB g.allN[k] = false) : namesB g = false := by
 unfold namesB
 have : g.allN.all namB = false := by
  rw [List.all_eq_false]
  exact ⟨_, List.getElem_mem hk, by rw [h]; decide⟩
 rw [this, Bool.false_and, Bool.and_false]
theorem namesB_twice {g : Gm} {k i : Nat} (hi : i < g.allN.length) (hk : k < i) (h : g.allN[k]'(by omega) = g.allN[i]) : namesB g = false := by
 unfold namesB
 have : decide g.allN.Nodup = false := decide_eq_false fun hn => by
  have := List.pairwise_iff_getElem.1 hn k i (by omega) hi hk
  exact this h
 rw [this, Bool.and_false, Bool.and_false]
theorem namesB_yes {g : Gm} (h1 : ∀ k (hk : k < g.rules.length), rightB g.rules[k].re = true) (h2 : ∀ k (hk : k < g.allN.length), namB g.allN[k] = true) (h3 : ∀ k i (hi : i < g.allN.length) (hk : k < i), g.allN[k]'(by omega) ≠ g.allN[i]) : namesB g = true := by
 unfold namesB
 have e1 : (g.rules.all fun r => rightB r.re) = true := by
  rw [List.all_eq_true]
  intro r hr
  obtain ⟨k, hk, rfl⟩ := List.getElem_of_mem hr
  exact h1 k hk
 have e2 : g.allN.all namB = true := by
  rw [List.all_eq_true]
  intro r hr
  obtain ⟨k, hk, rfl⟩ := List.getElem_of_mem hr
  exact h2 k hk
 have e3 : decide g.allN.Nodup = true := decide_eq_true (List.pairwise_iff_getElem.2 fun k i hk hi hki => h3 k i hi hki)
 rw [e1, e2, e3]; rfl
theorem strT_beq2 (s t : Txt) : ((strT s).toList == (strT t).toList) = decide (s = t) := by
 rw [strT_toL, strT_toL]
 by_cases h : s = t
 · subst h; simp
 · simp [h]
set_option maxRecDepth 20000 in
set_option maxHeartbeats 16000000 in
theorem namesC (g : Gm) (rv nv lv pv : Value) (w : World) (hV : GmV w rv nv lv pv g) (hr : g.rules.length ≤ 1000) (hn : g.nonts.length ≤ 1000) (hnl : ∀ t ∈ g.allN, t.length ≤ 1000000) :
 Calls Tryz.prog 34 #[gmA rv nv lv pv g.start] w fun e w' => e = .returned (.bool (namesB g)) ∧ Below w.heap.size w w' := by
 obtain ⟨ra, rc, rfl⟩ := hV.rules.shape
 obtain ⟨na, nc, rfl⟩ := hV.nonts.shape
 have hB1 := al' w (.cells #[.slice ra g.rules.length rc, .slice na g.nonts.length nc, lv, pv, .int .i64 g.start] 27)
 have k1 := heap_new w (.cells #[.slice ra g.rules.length rc, .slice na g.nonts.length nc, lv, pv, .int .i64 g.start] 27)
 obtain ⟨W, hW⟩ : ∃ x, w.alloc (.cells #[.slice ra g.rules.length rc, .slice na g.nonts.length nc, lv, pv, .int .i64 g.start] 27) = x := ⟨_, rfl⟩
 rw [hW] at hB1 k1
 have hk1 : Hid (∀ u, Below W.heap.size W u → u.cell? ⟨w.heap.size, 0, none⟩ = some (.slice ra g.rules.length rc) ∧ u.cell? ⟨w.heap.size, 1, none⟩ = some (.slice na g.nonts.length nc)) := hid (fun u hu => ⟨blk_cell (hs_keep k1 hu) rfl, blk_cell (hs_keep k1 hu) rfl⟩)
 have hB := hid hB1
 have hKr : Hid (∀ u, Below w.heap.size w u → ∀ k (hk : k < g.rules.length), ∃ b o q1 q3, ra = some ⟨b, o, none⟩ ∧ u.cell? ⟨b, o + k * 3, none⟩ = some (.string (strT g.rules[k].name)) ∧ u.cell? ⟨b, o + k * 3 + 1, none⟩ = some (.slice q1 g.rules[k].re.length q3) ∧ Calls Tryz.prog 54 #[.slice q1 g.rules[k].re.length q3] u fun e w' => e = .returned (.bool (rightB g.rules[k].re)) ∧ w' = u) := hid (fun u hu k hk => by
  obtain ⟨b, o, e, -, hx⟩ := (hV.keep hu).rules.at hk
  obtain ⟨v, x0, x1, x2, hN⟩ := hx
  have hN2 := hN
  obtain ⟨q1, q3, rfl, _⟩ := hN2
  exact ⟨b, o, q1, q3, e, x0, x1, rightC _ _ u hN⟩)
 have hKn : Hid (∀ u, Below w.heap.size w u → Lst 1 TxtAt u (.slice na g.nonts.length nc) g.nonts) := hid (fun u hu => (hV.keep hu).nonts)
 have hbr := hid (fun k (hk : k < g.rules.length) h => namesB_right hk h)
 have hbn := hid (fun k (hk : k < g.allN.length) h => namesB_named hk h)
 have hbt := hid (fun k i (hi : i < g.allN.length) (hk : k < i) h => namesB_twice hi hk h)
 have hby := hid (fun h1 h2 h3 => namesB_yes (g := g) h1 h2 h3)
 have GN := hid (fun k (hk : k < g.allN.length) u => namedC g.allN[k] u (hnl _ (List.getElem_mem hk)))
 obtain ⟨F1, hF1⟩ : ∃ F : Nat → List Txt, Hid (∀ k, (g.rules.take k).map Rl.name = F k) := ⟨_, hid (fun _ => rfl)⟩
 have s1 : Hid (∀ k (hk : k < g.rules.length), F1 (k + 1) = F1 k ++ [g.rules[k].name]) := hid (fun k hk => by
  rw [← hF1.out, ← hF1.out, List.take_add_one, List.getElem?_eq_getElem hk, Option.toList_some, List.map_append]
  rfl)
 have l1 : Hid (∀ k, (F1 k).length ≤ 1000) := hid (fun k => by rw [← hF1.out, List.length_map, List.length_take]; omega)
 have e1 : Hid (F1 g.rules.length ++ g.nonts = g.allN) := hid (by rw [← hF1.out, List.take_length]; rfl)
 have hO0 : Hid (OwnT W W.heap.size (.slice none 0 0) (F1 0)) := hid (by rw [← hF1.out]; exact World.ownsRow_nil _ _ _ _)
 have lA : g.allN.length ≤ 2000 := by unfold Gm.allN; rw [List.length_append, List.length_map]; omega
 clear hV hB1 k1 hF1 hnl
 generalize namesB g = R at *
 obtain ⟨rn, hrn⟩ : ∃ n, Hid (g.rules.length = n) := ⟨_, hid rfl⟩
 obtain ⟨nn, hnn⟩ : ∃ n, Hid (g.nonts.length = n) := ⟨_, hid rfl⟩
 rw [hrn.out] at hr hk1 hW e1 ⊢
 rw [hnn.out] at hn hk1 hW hKn ⊢
 generalize g.start = st at *
 go_enter Tryz.func34, Tryz.ntmps34
 go_wp2
 clear hW
 go_loopw [3, 4] (fun v i wr => ∃ k : Nat, k ≤ rn ∧ i = .int .i64 (k : Int) ∧ Hid (OwnT wr W.heap.size v (F1 k)) ∧ Hid (∀ j (hj : j < g.rules.length), j < k → rightB g.rules[j].re = true) ∧ Hid (Below W.heap.size W wr)) (fun _ i _ => rn - (intOf i).toNat)
 case atStart => exact ⟨0, Nat.zero_le _, rfl, hO0, hid (fun _ _ h => absurd h (Nat.not_lt_zero _)), hid (Below.refl _ _)⟩
 case round =>
  obtain ⟨k, hk, rfl, hO, hrt, hbl⟩ := hrel
  have hbw := hid (bl_step hB.out hbl.out)
  obtain ⟨y0, y1⟩ := hk1.out wr hbl.out
  by_cases hlt : k < rn
  · have hltz : (k : Int) < (rn : Int) := by omega
    have hkl : k < g.rules.length := by rw [hrn.out]; exact hlt
    obtain ⟨b, o, q1, q3, e, x0, x1, -⟩ := hKr.out wr hbw.out k hkl
    subst e
    have hal := al' wr (.cells #[.string (strT g.rules[k].name)] 9)
    have hOa := hid (own_below hO.out hal)
    have hDa := hid (txt_one wr g.rules[k].name)
    have hBa := hid (bl_step hbl.out hal)
    have hs := hid (s1.out k hkl)
    have hln := l1.out k
    have hap := hid (fun u (hu : Below W.heap.size W u) => hKr.out u (bl_step hB.out hu) k hkl)
    have hmore : Hid (rightB g.rules[k].re = true → ∀ j (hj : j < g.rules.length), j < k + 1 → rightB g.rules[j].re = true) := hid (fun h j hj h9 => by
     rcases Nat.lt_or_ge j k with h8 | h8
     · exact hrt.out j hj h8
     · obtain rfl : j = k := by omega
       exact h)
    have hb9 := hid (fun h => hbr.out k hkl h)
    clear hal hO hrt hbr
    generalize g.rules[k].name = nm at *
    generalize g.rules[k].re.length = rl at *
    cases hrb : rightB g.rules[k].re with
    | true =>
     have hm9 := hid (hmore.out hrb)
     rw [hrb] at hap
     clear hmore hb9
     go_wp2_with (first
      | (at_builtin; refine wp_appT _ rfl _ _ rfl W.heap.size (F1 k) [nm] _ _ rfl rfl hOa.out hDa.out (by simp; omega) hBa.out.size ?_; intro v3 w3 hO3 hb3; have hO4 : Hid (OwnT w3 W.heap.size v3 (F1 (k + 1))) := (by rw [hs.out]; exact hid hO3); have hb4 := hid (hBa.out.trans hb3); obtain ⟨z0, z1⟩ := hk1.out w3 hb4.out; obtain ⟨b', o', q1', q3', e', x0', x1', G'⟩ := hap.out w3 hb4.out; injection e' with e'; injection e' with e' e'' _; subst e' e''; have G' := hid G'; clear hO3 hb3 hap hOa hDa)
      | (go_at_call 54; refine G'.out.mono ?_; clear G'; rintro e w4 ⟨rfl, hc4⟩; subst w4))
     go_roundw
     case rel => exact ⟨k + 1, by omega, by go_num, hO4, hm9, hb4⟩
     case measure => simp [intOf]; omega
    | false =>
     obtain rfl := hb9.out hrb
     rw [hrb] at hap
     clear hmore hb9
     go_wp2_with (first
      | (at_builtin; refine wp_appT _ rfl _ _ rfl W.heap.size (F1 k) [nm] _ _ rfl rfl hOa.out hDa.out (by simp; omega) hBa.out.size ?_; intro v3 w3 hO3 hb3; have hb4 := hid (hBa.out.trans hb3); obtain ⟨z0, z1⟩ := hk1.out w3 hb4.out; obtain ⟨b', o', q1', q3', e', x0', x1', G'⟩ := hap.out w3 hb4.out; injection e' with e'; injection e' with e' e'' _; subst e' e''; have G' := hid G'; clear hO3 hb3 hap hOa hDa)
      | (go_at_call 54; refine G'.out.mono ?_; clear G'; rintro e w4 ⟨rfl, hc4⟩; subst w4))
     go_ret
     exact ⟨rfl, bl_step hB.out hb4.out⟩
  · have hltz : ¬ (k : Int) < (rn : Int) := by omega
    obtain rfl : k = rn := by omega
    have hD := hid (hKn.out wr hbw.out)
    have hln := l1.out k
    have hrt9 := hid (fun j (hj : j < g.rules.length) => hrt.out j hj (by rw [hrn.out] at hj; exact hj))
    clear hrt hKr hbr s1 l1
    go_wp2_with (at_builtin; refine wp_appT _ rfl _ _ rfl W.heap.size (F1 k) g.nonts _ _ rfl rfl hO.out hD.out (by rw [hnn.out]; omega) hbl.out.size ?_; intro v3 w3 hO3 hb3; rw [e1.out] at hO3; obtain ⟨va, vc, hve⟩ := own_shape hO3; subst hve; have hb4 := hid (hbl.out.trans hb3); have hO4 := hid hO3; clear hO3 hb3 hO hD)
    clear hltz hlt hk hbl hbw y0 y1 hKn hln hk1
    have hcell : Hid (∀ u, Below w3.heap.size w3 u → ∀ j (hj : j < g.allN.length), ∃ gb, va = some ⟨gb, 0, none⟩ ∧ u.cell? ⟨gb, j, none⟩ = some (.string (strT g.allN[j]))) := hid (fun u hu j hj => by
     obtain ⟨gb, e, hc⟩ := OwnT.at (own_below hO4.out hu) hj
     refine ⟨gb, e, ?_⟩
     rw [hc, List.getD_eq_getElem?_getD, List.getElem?_eq_getElem hj]
     rfl)
    obtain ⟨n, hnA⟩ : ∃ n, Hid (g.allN.length = n) := ⟨_, hid rfl⟩
    have hB4 := hid (bl_step hB.out hb4.out)
    rw [hnA.out] at lA ⊢
    clear hO4
    go_loopw [5] (fun i wr => ∃ k : Nat, k ≤ n ∧ i = .int .i64 (k : Int) ∧ Hid (∀ j (hj : j < g.allN.length), j < k → namB g.allN[j] = true) ∧ Hid (∀ a b (hb : b < g.allN.length) (hab : a < b), b < k → g.allN[a]'(by omega) ≠ g.allN[b]) ∧ Hid (Below w3.heap.size w3 wr)) (fun i _ => n - (intOf i).toNat)
    case atStart => exact ⟨0, Nat.zero_le _, rfl, hid (fun _ _ h => absurd h (Nat.not_lt_zero _)), hid (fun _ _ _ _ h => absurd h (Nat.not_lt_zero _)), hid (Below.refl _ _)⟩
    case round =>
     obtain ⟨k2, hk2, rfl, hq1, hq2, hbl⟩ := hrel
     by_cases hlt : k2 < n
     · have hltz : (k2 : Int) < (n : Int) := by omega
       have hkl : k2 < g.allN.length := by rw [hnA.out]; exact hlt
       obtain ⟨gb, e, x0⟩ := hcell.out _ hbl.out k2 hkl
       subst e
       have G := hid (GN.out k2 hkl wr)
       have hbn9 := hid (fun h => hbn.out k2 hkl h)
       cases hnb : namB g.allN[k2] with
       | false =>
        obtain rfl := hbn9.out hnb
        rw [hnb] at G
        clear hnb hq1 hq2 hbn9
        generalize g.allN[k2] = tx at *
        go_wp2_with (go_at_call 55; refine G.out.mono ?_; clear G; rintro e w4 ⟨rfl, hc4⟩; subst w4)
        go_ret
        exact ⟨rfl, bl_step hB4.out hbl.out⟩
       | true =>
        rw [hnb] at G
        have hq3 : Hid (∀ j (hj : j < g.allN.length), j < k2 + 1 → namB g.allN[j] = true) := hid (fun j hj h9 => by
         rcases Nat.lt_or_ge j k2 with h8 | h8
         · exact hq1.out j hj h8
         · obtain rfl : j = k2 := by omega
           exact hnb)
        clear hnb hq1 hbn9
        go_wp2_with (go_at_call 55; refine G.out.mono ?_; clear G; rintro e w4 ⟨rfl, hc4⟩; subst w4)
        clear x0 hltz
        go_loopw [6] (fun i wr => ∃ m : Nat, m ≤ k2 ∧ i = .int .i64 (m : Int) ∧ Hid (∀ a (ha : a < k2), a < m → g.allN[a]'(by omega) ≠ g.allN[k2]) ∧ Hid (Below w3.heap.size w3 wr)) (fun i _ => k2 - (intOf i).toNat)
        case atStart => exact ⟨0, Nat.zero_le _, rfl, hid (fun _ _ h => absurd h (Nat.not_lt_zero _)), hbl⟩
        case round =>
         clear hbl
         obtain ⟨m, hm, rfl, hq4, hbl⟩ := hrel
         by_cases hlm : m < k2
         · have hlmz : (m : Int) < (k2 : Int) := by omega
           have hmn : (m : Int) < (n : Int) := by omega
           have hkn : (k2 : Int) < (n : Int) := by omega
           have hml : m < g.allN.length := by omega
           obtain ⟨gb1, e1, x1⟩ := hcell.out _ hbl.out m hml
           obtain ⟨gb2, e2, x2⟩ := hcell.out _ hbl.out k2 hkl
           injection e1 with e1
           injection e1 with e1 _ _
           injection e2 with e2
           injection e2 with e2 _ _
           subst e1 e2
           by_cases he : g.allN[m] = g.allN[k2]
           · obtain rfl := hbt.out m k2 hkl hlm he
             have hz : ((strT g.allN[m]).toList == (strT g.allN[k2]).toList) = true := by rw [strT_beq2]; exact decide_eq_true he
             clear hq4 hq2 he hq3
             generalize strT g.allN[m] = s1 at *
             generalize strT g.allN[k2] = s2 at *
             go_wp2_with fail
             go_quiet (fail)
             go_wp2
             go_ret
             exact ⟨rfl, by first | exact bl_step hB4.out (belowN hbl.out) | exact bl_step hB4.out (belowN (belowN hbl.out))⟩
           · have hq5 : Hid (∀ a (ha : a < k2), a < m + 1 → g.allN[a]'(by omega) ≠ g.allN[k2]) := hid (fun a ha h9 => by
              rcases Nat.lt_or_ge a m with h8 | h8
              · exact hq4.out a ha h8
              · obtain rfl : a = m := by omega
                exact he)
             have hz : ((strT g.allN[m]).toList == (strT g.allN[k2]).toList) = false := by rw [strT_beq2]; exact decide_eq_false he
             clear hq4 he
             generalize strT g.allN[m] = s1 at *
             generalize strT g.allN[k2] = s2 at *
             go_wp2_with fail
             go_quiet (fail)
             go_wp2
             go_roundw
             case rel => exact ⟨m + 1, by omega, by go_num, hq5, hid (by first | exact belowN hbl.out | exact belowN (belowN hbl.out))⟩
             case measure => simp [intOf]; omega
         · have hlmz : ¬ (m : Int) < (k2 : Int) := by omega
           have hq6 : Hid (∀ a b (hb : b < g.allN.length) (hab : a < b), b < k2 + 1 → g.allN[a]'(by omega) ≠ g.allN[b]) := hid (fun a b hb hab h9 => by
            rcases Nat.lt_or_ge b k2 with h8 | h8
            · exact hq2.out a b hb hab h8
            · obtain rfl : b = k2 := by omega
              exact hq4.out a hab (by omega))
           clear hq4 hq2
           go_wp2
           go_roundw
           case rel => exact ⟨k2 + 1, by omega, by go_num, hq3, hq6, hbl⟩
           case measure => simp [intOf]; omega
     · have hltz : ¬ (k2 : Int) < (n : Int) := by omega
       obtain rfl := hby.out hrt9.out (fun j hj => hq1.out j hj (by rw [hnA.out] at hj; omega)) (fun a b hb hab => hq2.out a b hb hab (by rw [hnA.out] at hb; omega))
       clear hq1 hq2
       go_wp2
       go_ret
       exact ⟨rfl, bl_step hB4.out hbl.out⟩

end Go.Proofs.YtloaikjealcbmaaGreat
