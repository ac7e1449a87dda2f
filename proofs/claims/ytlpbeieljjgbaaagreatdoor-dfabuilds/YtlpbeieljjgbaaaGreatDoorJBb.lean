/- topiaryref08.Build, of too many rules. topiaryref08.Build: the rules' spots, one behind the other, in a row of its own. topiaryref08.Build: what it asks of its calls. -/
import Derived.Test.YtlpbeieljjgbaaaGreatDoorJBa
import Derived.Test.YtlpbeieljjgbaaaGreatDoorJ36
import Derived.Test.YtlpbeieljjgbaaaGreatDoorJB0
import Derived.Test.YtlpbeieljjgbaaaGreatDoorJ42
namespace Go.Proofs.YtlpbeieljjgbaaaGreatDoor
open Go.RowKit

set_option maxRecDepth 20000 in
theorem refBuildMany (a : Option Addr) (n c : Nat) (w : World) (hn : 16 < n) (hn2 : n ≤ 9223372036854775807) :
    Calls Tryz.prog 17 #[.slice a n c] w fun z w' => z = .returned (.tuple #[.agg #[.slice none 0 0, .slice none 0 0], .int .i64 1]) ∧ Below w.heap.size w w' := by
  have hnz : (16 : Int) < (n : Int) := by omega
  have hal := hid (al' w (.cells #[.slice none 0 0, .slice none 0 0] 25))
  have hz := hid (heap_new w (.cells #[.slice none 0 0, .slice none 0 0] 25))
  obtain ⟨x0, x1, y0, y1⟩ := cells2m hz.out
  go_enter Tryz.func17, Tryz.ntmps17
  go_wp2
  exact bodyPost_ret (v := .tuple #[.agg #[.slice none 0 0, .slice none 0 0], .int .i64 1]) (by simp [results, Tryz.results17, go_sem, x0, x1]) rfl ⟨rfl, hal.out⟩

end Go.Proofs.YtlpbeieljjgbaaaGreatDoor
namespace Go.Proofs.YtlpbeieljjgbaaaGreatDoor
open Go.RowKit

theorem Off.numss {F G : Nat → Prop} {w : World} {v : Value} {l : List (List Int)} (ho : Off F v) (h : Numss w v l) (hG : ∀ k, G k → F k ∨ w.heap.size ≤ k) : Off G v := fun ad n c e hn hg => by
  obtain ⟨a, cap, rfl, hc, hz, hat⟩ := h
  injection e with e1 e2 e3
  subst e1 e2
  obtain ⟨b, o, x, e, hlt, _⟩ := hat 0 hn
  rcases hG _ hg with h | h
  · exact ho _ _ _ rfl hn h
  · cases e
    exact absurd hlt (Nat.not_lt.2 h)
theorem SpVF.kept' {F : Nat → Prop} {w w' : World} {sv fv lv gv : Value} {p : Sp} (h : SpVF F w sv fv lv gv p) (hk : Kept F w w') : SpVF F w' sv fv lv gv p :=
  ⟨h.kept hk, h.os, h.of, h.ol, h.og, fun b o n c e j x hj hx => by
    obtain ⟨a, cap, e2, hc, hn, hat⟩ := h.spv.follow
    rw [e] at e2
    injection e2 with e3 e4 e5
    obtain ⟨b', o', x', e6, hlt, h1, _⟩ := hat j hj
    rw [← e3] at e6
    cases e6
    have := hk.cell h1 hlt (h.og _ _ _ e (by omega))
    rw [hx] at this
    injection this with this
    subst this
    exact h.oin b o n c e j _ hj h1⟩
theorem SpVF.more {F G : Nat → Prop} {w : World} {sv fv lv gv : Value} {p : Sp} (h : SpVF F w sv fv lv gv p) (hG : ∀ k, G k → F k ∨ w.heap.size ≤ k) : SpVF G w sv fv lv gv p :=
  ⟨h.spv, h.os.sets h.spv.sets hG, h.of.more h.spv.first hG, h.ol.more h.spv.last hG, h.og.numss h.spv.follow hG, fun b o n c e j x hj hx => by
    obtain ⟨a, cap, e2, hc, hn, hat⟩ := h.spv.follow
    have h0 := h.oin b o n c e j x hj hx
    rw [e] at e2
    injection e2 with e3 e4 e5
    obtain ⟨b', o', x', e6, hlt, h1, h2⟩ := hat j hj
    rw [← e3] at e6
    cases e6
    rw [hx] at h1
    injection h1 with h1
    subst h1
    exact h0.more h2 hG⟩
/-- spots, and where their lists lie -/
structure SpE where
  sv : Value
  fv : Value
  lv : Value
  gv : Value
  p : Sp
def SpE.cells (e : SpE) : List Value := [e.sv, .bool e.p.null, e.fv, e.lv, e.gv]
theorem spE_len (es : List SpE) : (es.flatMap SpE.cells).length = es.length * 5 := by
  induction es with
  | nil => rfl
  | cons a l ih => rw [List.flatMap_cons, List.length_append, ih, List.length_cons]; show 5 + _ = _; omega
theorem spE_at : ∀ (es : List SpE) (j : Nat) (hj : j < es.length) (i : Nat), i < 5 → (es.flatMap SpE.cells)[j * 5 + i]? = (es[j].cells)[i]?
  | [], _, hj, _, _ => absurd hj (Nat.not_lt_zero _)
  | a :: l, 0, _, i, hi => by
    rw [List.flatMap_cons, Nat.zero_mul, Nat.zero_add, List.getElem?_append_left (show i < a.cells.length from hi)]
    rfl
  | a :: l, j + 1, hj, i, hi => by
    have hl : a.cells.length = 5 := rfl
    rw [List.flatMap_cons, List.getElem?_append_right (by rw [hl]; omega), hl, show (j + 1) * 5 + i - 5 = j * 5 + i by omega, spE_at l j (by simpa using hj) i hi]
    rfl
structure AllO (B : Nat) (w : World) (v : Value) (es : List SpE) : Prop where
  row : w.ownsRow B 64 5 v es.length (es.flatMap SpE.cells)
  is : ∀ e ∈ es, SpVF (fun k => v.ownBlock = some k) w e.sv e.fv e.lv e.gv e.p
theorem AllO.nil (B : Nat) (w : World) : AllO B w (.slice none 0 0) [] := ⟨World.ownsRow_nil _ _ _ _, fun e h => absurd h (by simp)⟩
theorem AllO.keep {B : Nat} {w u : World} {v : Value} {es : List SpE} (h : AllO B w v es) (hu : Below w.heap.size w u) : AllO B u v es := ⟨own_below h.row hu, fun e he => (h.is e he).keep hu⟩
theorem AllO.spss {B : Nat} {w : World} {v : Value} {es : List SpE} (h : AllO B w v es) : Spss w v (es.map SpE.p) := by
  have hr := h.row
  rcases h.row.2 with ⟨e, h0⟩ | ⟨g, cap, cur, e, hb, hg, hc, _, _, _⟩
  · refine ⟨none, 0, by rw [e, List.length_map, h0], by rw [List.length_map, h0]; exact Nat.le_refl _, fun _ => rfl, fun j hj => ?_⟩
    rw [List.length_map] at hj
    omega
  · refine ⟨some ⟨g, 0, none⟩, cap, by rw [e, List.length_map], by rw [List.length_map]; exact hc, fun e => (by cases e), fun j hj => ?_⟩
    have hj' : j < es.length := by rw [List.length_map] at hj; exact hj
    have hlt : g < w.heap.size := (hr.lt g (by rw [e]; rfl)).2
    refine ⟨g, 0, rfl, hlt, ?_⟩
    rw [List.getElem_map]
    subst e
    have hlen := spE_len es
    have key : ∀ i x, i < 5 → (es[j].cells)[i]? = some x → w.cell? ⟨g, j * 5 + i, none⟩ = some x := fun i x hi hx => by
      have h1 := hr.cellAt (j * 5 + i) (by omega)
      rw [h1, spE_at es j hj' i hi]
      exact hx
    refine ⟨es[j].sv, es[j].fv, es[j].lv, es[j].gv, ?_, ?_, ?_, ?_, ?_, (h.is _ (List.getElem_mem hj')).spv⟩
    · rw [Nat.zero_add]; exact key 0 _ (by omega) rfl
    · rw [Nat.zero_add]; exact key 1 _ (by omega) rfl
    · rw [Nat.zero_add]; exact key 2 _ (by omega) rfl
    · rw [Nat.zero_add]; exact key 3 _ (by omega) rfl
    · rw [Nat.zero_add]; exact key 4 _ (by omega) rfl
theorem AllO.snoc {B : Nat} {u w' : World} {v : Value} {es : List SpE} (h : AllO B u v es) (x : SpE) (hx : SpVF (fun k => v.ownBlock = some k) u x.sv x.fv x.lv x.gv x.p) {g cap : Nat}
    (ho : w'.ownsRow B 64 5 (.slice (some ⟨g, 0, none⟩) (es.length + 1) cap) (es.length + 1) (es.flatMap SpE.cells ++ x.cells)) (hg : u.grownBy w' v.ownBlock) (hat : v.ownBlock = some g ∨ g = u.heap.size) :
    AllO B w' (.slice (some ⟨g, 0, none⟩) (es.length + 1) cap) (es ++ [x]) := by
  have key : ∀ e : SpE, SpVF (fun k => v.ownBlock = some k) u e.sv e.fv e.lv e.gv e.p → SpVF (fun k => (Value.slice (some ⟨g, 0, none⟩) (es.length + 1) cap).ownBlock = some k) w' e.sv e.fv e.lv e.gv e.p := fun e he => by
    have h1 : SpVF (fun k => v.ownBlock = some k ∨ k = g) u e.sv e.fv e.lv e.gv e.p := he.more fun k hk => by
      rcases hk with h2 | h2
      · exact Or.inl h2
      · subst h2
        rcases hat with h3 | h3
        · exact Or.inl h3
        · exact Or.inr (by omega)
    have h2 := h1.kept' ((Kept.of_grown hg).mono fun k _ e => Or.inl e)
    exact h2.more fun k hk => Or.inl (Or.inr (by injection hk with hk; exact hk.symm))
  refine ⟨?_, fun e he => ?_⟩
  · rw [List.flatMap_append, List.length_append, List.flatMap_singleton]
    exact ho
  · rcases List.mem_append.1 he with h1 | h1
    · exact key e (h.is e h1)
    · have : e = x := by simpa using h1
      subst this
      exact key _ hx
set_option maxRecDepth 20000 in
theorem Tryz.infoSp : (Tryz.prog.info? 64).map (fun i => (i.zero, i.size, i.bytes)) = some (some (.agg #[.slice none 0 0, .bool false, .slice none 0 0, .slice none 0 0, .slice none 0 0]), 5, 104) := by kernel_rfl

/-- states that were met, beside an automaton that is filled -/
structure RbS (db : Nat) (w0 w : World) (D F : Nat → Prop) (tv nv av : Value) (ts vs : List Value) (S : List (List Int)) (N : List (List Int)) (A : List Int) : Prop where
  df : DfO w0.heap.size db D F w nv av vs N A
  st : w.ownsRow w0.heap.size 23 1 tv ts.length ts
  sF : ∀ k, tv.ownBlock = some k → F k
  sn : NumsF (fun k => D k ∨ F k) w ts S
  fF : ∀ k, F k → w0.heap.size ≤ k
  fL : ∀ k, F k → k < w.heap.size
  dF : ∀ k, D k → w0.heap.size ≤ k
  low : Below w0.heap.size w0 w
  up : ∀ j, Off (fun k => k < w0.heap.size) (vs.getD j nilV)
theorem RbS.keep {db : Nat} {w0 w u : World} {D F : Nat → Prop} {tv nv av : Value} {ts vs : List Value} {S : List (List Int)} {N : List (List Int)} {A : List Int} (h : RbS db w0 w D F tv nv av ts vs S N A) (hu : Below w.heap.size w u) : RbS db w0 u D F tv nv av ts vs S N A :=
  ⟨h.df.keep hu, own_below h.st hu, h.sF, h.sn.kept (Kept.of_below hu), h.fF, fun k hk => Nat.lt_of_lt_of_le (h.fL k hk) hu.size, h.dF, bl_step h.low hu, h.up⟩
/-- the blocks of the states change -/
theorem RbS.moved {db : Nat} {w0 w u : World} {D F F' : Nat → Prop} {tv tv' nv av : Value} {ts ts' vs : List Value} {S S' : List (List Int)} {N : List (List Int)} {A : List Int} (h : RbS db w0 w D F tv nv av ts vs S N A) (hu : Mvd F F' w u) (hL : ∀ k, F' k → k < u.heap.size)
    (hst : u.ownsRow w0.heap.size 23 1 tv' ts'.length ts') (hF : ∀ k, tv'.ownBlock = some k → F' k) (hn : NumsF (fun k => D k ∨ F k) w ts' S') : RbS db w0 u D F' tv' nv av ts' vs S' N A := by
  refine ⟨h.df.moved hu, hst, hF, (hn.kept (hu.kept.mono fun k _ e => Or.inr e)).off (fun k hk => ?_) hn, fun k hk => ?_, hL, h.dF, h.low.trans (hu.kept.below h.fF h.low.size), h.up⟩
  · rcases hk with h1 | h1
    · exact Or.inl (Or.inl h1)
    · rcases hu.new k h1 with h2 | h2
      · exact Or.inl (Or.inr h2)
      · exact Or.inr h2
  · rcases hu.new k hk with h2 | h2
    · exact h.fF k h2
    · exact Nat.le_trans h.low.size h2
/-- one state more -/
theorem RbS.push {db : Nat} {w0 w u : World} {D F : Nat → Prop} {tv nv av x : Value} {ts vs : List Value} {S : List (List Int)} {N : List (List Int)} {A l : List Int} (h : RbS db w0 w D F tv nv av ts vs S N A) (hx : Nums w x l) (hxo : Off (fun k => D k ∨ F k) x) {g cap : Nat}
    (ho : u.ownsRow w0.heap.size 23 1 (.slice (some ⟨g, 0, none⟩) (ts.length + 1) cap) (ts.length + 1) (ts ++ [x])) (hg : w.grownBy u tv.ownBlock) (hat : tv.ownBlock = some g ∨ g = w.heap.size) :
    RbS db w0 u D (fun k => F k ∨ k = g) (.slice (some ⟨g, 0, none⟩) (ts.length + 1) cap) nv av (ts ++ [x]) vs (S ++ [l]) N A := by
  have hgl : g < u.heap.size := (ho.lt g rfl).2
  refine h.moved ⟨(Kept.of_grown hg).mono fun k _ e => h.sF k e, fun k hk => ?_⟩ (fun k hk => ?_) (by rw [List.length_append]; exact ho) (fun k e => Or.inr ?_) (h.sn.snoc hx hxo)
  · rcases hk with h1 | h1
    · exact Or.inl h1
    · rcases hat with h2 | h2
      · exact Or.inl (h1 ▸ h.sF g h2)
      · exact Or.inr (by omega)
  · rcases hk with h1 | h1
    · exact Nat.lt_of_lt_of_le (h.fL k h1) hg.size
    · omega
  · injection e with e; exact e.symm
/-- a new block, that changes with the states -/
theorem RbS.newBlk {db : Nat} {w0 w u : World} {D F : Nat → Prop} {tv nv av : Value} {ts vs : List Value} {S : List (List Int)} {N : List (List Int)} {A : List Int} (h : RbS db w0 w D F tv nv av ts vs S N A) (hu : Below w.heap.size w u) (hs : w.heap.size < u.heap.size) : RbS db w0 u D (fun k => F k ∨ k = w.heap.size) tv nv av ts vs S N A :=
  h.moved ⟨Kept.of_below hu, fun k hk => by
    rcases hk with h1 | h1
    · exact Or.inl h1
    · exact Or.inr (by omega)⟩ (fun k hk => by
    rcases hk with h1 | h1
    · exact Nat.lt_of_lt_of_le (h.fL k h1) hu.size
    · omega) (own_below h.st hu) (fun k e => Or.inl (h.sF k e)) h.sn
/-- a store into one of them -/
theorem RbS.put {db : Nat} {w0 w : World} {D F : Nat → Prop} {tv nv av : Value} {ts vs : List Value} {S : List (List Int)} {N : List (List Int)} {A : List Int} (h : RbS db w0 w D F tv nv av ts vs S N A) {rk : Nat} (hr : F rk) (hn : tv.ownBlock ≠ some rk) (o : Nat) (x : Value) : RbS db w0 (w.setCell ⟨rk, o, none⟩ x) D F tv nv av ts vs S N A :=
  h.moved ⟨(Kept.refl F w).setCell fun _ => hr, fun _ hk => Or.inl hk⟩ (fun k hk => by simpa using h.fL k hk) (own_set h.st hn) h.sF h.sn
/-- it changes no more -/
theorem RbS.drop {db : Nat} {w0 w : World} {D F G : Nat → Prop} {tv nv av : Value} {ts vs : List Value} {S : List (List Int)} {N : List (List Int)} {A : List Int} (h : RbS db w0 w D F tv nv av ts vs S N A) (hG : ∀ k, G k → F k) (ht : ∀ k, tv.ownBlock = some k → G k) : RbS db w0 w D G tv nv av ts vs S N A :=
  ⟨⟨h.df.blk, h.df.nxt, h.df.nF, h.df.acc, h.df.aF, h.df.nums.more fun k hk => Or.inl (by rcases hk with h1 | h1; exact Or.inl h1; exact Or.inr (hG k h1)), h.df.inD, h.df.lt, fun k hk hg => h.df.apart k hk (hG k hg), h.df.base⟩,
    h.st, ht, h.sn.more fun k hk => Or.inl (by rcases hk with h1 | h1; exact Or.inl h1; exact Or.inr (hG k h1)), fun k hk => h.fF k (hG k hk), fun k hk => h.fL k (hG k hk), h.dF, h.low, h.up⟩
theorem RbS.row2 {db : Nat} {w0 w w2 : World} {D F : Nat → Prop} {tv nv av x : Value} {ts vs : List Value} {S : List (List Int)} {N : List (List Int)} {A l : List Int} (h : RbS db w0 w D F tv nv av ts vs S N A) (hx : Nums w x l) (hxo : Off (fun k => D k ∨ F k) x) (hxu : Off (fun k => k < w0.heap.size) x) {g cap : Nat}
    (ho : w2.ownsRow w0.heap.size 23 1 (.slice (some ⟨g, 0, none⟩) (vs.length + 1) cap) (vs.length + 1) (vs ++ [x])) (hg : w.grownBy w2 nv.ownBlock) (hat : nv.ownBlock = some g ∨ g = w.heap.size) :
    ∃ D2, RbS db w0 (w2.setCell ⟨db, 0, none⟩ (.slice (some ⟨g, 0, none⟩) (vs.length + 1) cap)) D2 F tv (.slice (some ⟨g, 0, none⟩) (vs.length + 1) cap) av ts (vs ++ [x]) S (N ++ [l]) A := by
  have hat' : ∀ k, (Value.slice (some ⟨g, 0, none⟩) (vs.length + 1) cap).ownBlock = some k → nv.ownBlock = some k ∨ w.heap.size ≤ k := fun k e => by
    have e1 : g = k := by injection e
    subst e1
    rcases hat with h1 | h1
    · exact Or.inl h1
    · exact Or.inr (by omega)
  obtain ⟨h1, h2⟩ := h.df.addRow h.fL hx hxo ho hg hat'
  have hbl : Below w0.heap.size w (w2.setCell ⟨db, 0, none⟩ (.slice (some ⟨g, 0, none⟩) (vs.length + 1) cap)) := h2.below h.dF h.low.size
  refine ⟨_, ⟨h1, own_kept h.st h2 (fun k e hd => h.df.apart k hd (h.sF k e)), h.sF, (h.sn.kept (h2.mono fun k _ e => Or.inl e)).off (fun k hk => ?_) h.sn, h.fF, fun k hk => Nat.lt_of_lt_of_le (h.fL k hk) h2.size, fun k hk => ?_, h.low.trans hbl, fun j => ?_⟩⟩
  · rcases hk with (h3 | h3) | h3
    · exact Or.inl (Or.inl h3)
    · rcases hat' k h3 with h4 | h4
      · exact Or.inl (Or.inl (h.df.nF k h4).1)
      · exact Or.inr h4
    · exact Or.inl (Or.inr h3)
  · rcases hk with h3 | h3
    · exact h.dF k h3
    · rcases hat' k h3 with h4 | h4
      · exact h.dF k (h.df.nF k h4).1
      · exact Nat.le_trans h.low.size h4
  · rw [getD_snoc]
    split
    · exact hxu
    · exact h.up j
theorem RbS.acc2 {db : Nat} {w0 w w2 : World} {D F : Nat → Prop} {tv nv av : Value} {ts vs : List Value} {S : List (List Int)} {N : List (List Int)} {A A' : List Int} (h : RbS db w0 w D F tv nv av ts vs S N A) {g n cap : Nat}
    (ho : Own w2 w0.heap.size (.slice (some ⟨g, 0, none⟩) n cap) A') (hg : w.grownBy w2 av.ownBlock) (hat : av.ownBlock = some g ∨ g = w.heap.size) :
    ∃ D2, RbS db w0 (w2.setCell ⟨db, 1, none⟩ (.slice (some ⟨g, 0, none⟩) n cap)) D2 F tv nv (.slice (some ⟨g, 0, none⟩) n cap) ts vs S N A' := by
  have hat' : ∀ k, (Value.slice (some ⟨g, 0, none⟩) n cap).ownBlock = some k → av.ownBlock = some k ∨ w.heap.size ≤ k := fun k e => by
    have e1 : g = k := by injection e
    subst e1
    rcases hat with h1 | h1
    · exact Or.inl h1
    · exact Or.inr (by omega)
  obtain ⟨h1, h2⟩ := h.df.addAcc h.fL ho hg hat'
  have hbl : Below w0.heap.size w (w2.setCell ⟨db, 1, none⟩ (.slice (some ⟨g, 0, none⟩) n cap)) := h2.below h.dF h.low.size
  refine ⟨_, ⟨h1, own_kept h.st h2 (fun k e hd => h.df.apart k hd (h.sF k e)), h.sF, (h.sn.kept (h2.mono fun k _ e => Or.inl e)).off (fun k hk => ?_) h.sn, h.fF, fun k hk => Nat.lt_of_lt_of_le (h.fL k hk) h2.size, fun k hk => ?_, h.low.trans hbl, h.up⟩⟩
  · rcases hk with (h3 | h3) | h3
    · exact Or.inl (Or.inl h3)
    · rcases hat' k h3 with h4 | h4
      · exact Or.inl (Or.inl (h.df.aF k h4).1)
      · exact Or.inr h4
    · exact Or.inl (Or.inr h3)
  · rcases hk with h3 | h3
    · exact h.dF k h3
    · rcases hat' k h3 with h4 | h4
      · exact h.dF k (h.df.aF k h4).1
      · exact Nat.le_trans h.low.size h4
theorem RbS.start {w0 w : World} (hb : Below w0.heap.size w0 w) : RbS w.heap.size w0 (w.alloc (.cells #[.slice none 0 0, .slice none 0 0] 25)) (fun k => k = w.heap.size) (fun _ => False) (.slice none 0 0) (.slice none 0 0) (.slice none 0 0) [] [] [] [] [] :=
  ⟨DfO.start hb.size (fun _ h => h.elim), World.ownsRow_nil _ _ _ _, fun k e => (by cases e), NumsF.nil _ _, fun _ h => h.elim, fun _ h => h.elim, fun k e => by rw [e]; exact hb.size, bl_step hb (al' w _), fun j => Off.nil _⟩

end Go.Proofs.YtlpbeieljjgbaaaGreatDoor
namespace Go.Proofs.YtlpbeieljjgbaaaGreatDoor
open Go.RowKit

def sqS (x : Int) : Int := (x / 1000) * 61 + (if x % 1000 = 999 then 60 else x % 1000)
theorem sqS_enc {r k : Nat} (hk : k < 1000) : sqS (enc r k) = (r : Int) * 61 + (if k = 999 then 60 else (k : Int)) := by
  unfold sqS
  rw [enc_mod hk, show enc r k / 1000 = (r : Int) by unfold enc; omega]
  by_cases h : k = 999
  · subst h; simp
  · rw [if_neg h, if_neg (by omega)]
theorem st_len {ts : List Rx} {all : List Sp} (R : RuS ts all) (hn : ts.length ≤ 16) {st : St} (hf : ∀ x ∈ st, FrmS ts x) (hu : Up st) : st.length ≤ 976 := by
  have h0 : ∀ x ∈ st, ∃ r k : Nat, x = enc r k ∧ r < 16 ∧ (k = 999 ∨ k < 60) := fun x hx => by
    obtain ⟨r, hr, k, e, hk⟩ := hf x hx
    refine ⟨r, k, e, by omega, ?_⟩
    rcases hk with h | h
    · exact Or.inl h
    · exact Or.inr (Nat.lt_of_lt_of_le h (R.few r hr))
  have h1 : Up (st.map sqS) := List.pairwise_map.2 (List.Pairwise.imp_of_mem (fun {a b} ha hb hlt => by
    obtain ⟨r, k, rfl, hr, hk⟩ := h0 a ha
    obtain ⟨r', k', rfl, hr', hk'⟩ := h0 b hb
    rw [sqS_enc (by omega), sqS_enc (by omega)]
    unfold enc at hlt
    split <;> split <;> omega) hu)
  have h2 : InN (st.map sqS) 976 := fun x hx => by
    obtain ⟨y, hy, rfl⟩ := List.mem_map.1 hx
    obtain ⟨r, k, rfl, hr, hk⟩ := h0 y hy
    rw [sqS_enc (by omega)]
    split <;> omega
  have := inN_len h1 h2
  rwa [List.length_map] at this
theorem st_ok {ts : List Rx} {all : List Sp} (R : RuS ts all) {st : St} (hf : ∀ x ∈ st, FrmS ts x) : StOk all st := fun x hx => by
  obtain ⟨r, hr, k, e, hk⟩ := hf x hx
  refine ⟨r, k, e, by rw [R.len]; exact hr, ?_⟩
  rcases hk with h | h
  · exact Or.inl h
  · refine Or.inr ?_
    rw [(R.is r hr).sets, setsL_len]
    exact h
theorem rowK_good {ts : List Rx} {all : List Sp} (R : RuS ts all) {st : St} (hs : ∀ x ∈ st, FrmS ts x) {S : List St} (hnd : S.Nodup) (hS : ∀ x ∈ S, (∀ y ∈ x, FrmS ts y) ∧ Up x) (b : Nat) : ∀ x ∈ (rowK all st S b).1, (∀ y ∈ x, FrmS ts y) ∧ Up x := by
  obtain ⟨U, hU, hU'⟩ := (rowK_is all st S hnd b).pre
  intro x hx
  rw [hU] at hx
  rcases List.mem_append.1 hx with h | h
  · exact hS x h
  · obtain ⟨c, _, rfl, _⟩ := hU' x h
    exact ⟨by_frm R hs _, byS_up _ _ _⟩
/-- a row, filled up with noughts -/
def rowN0 (q : List Int) : List Int := q ++ List.replicate (256 - q.length) 0
theorem rowN0_len {q : List Int} (h : q.length ≤ 256) : (rowN0 q).length = 256 := by unfold rowN0; rw [List.length_append, List.length_replicate]; omega
theorem rowN0_set {q : List Int} (h : q.length < 256) (x : Int) : (rowN0 q).set q.length x = rowN0 (q ++ [x]) := by
  unfold rowN0
  rw [List.set_append_right _ _ (Nat.le_refl _), Nat.sub_self, show 256 - q.length = (256 - (q ++ [x]).length) + 1 by rw [List.length_append, List.length_singleton]; omega, List.replicate_succ, List.set_cons_zero, List.append_assoc]
  rfl
theorem rowN0_full {q : List Int} (h : q.length = 256) : rowN0 q = q := by unfold rowN0; rw [h]; simp
theorem rowN0_put1 {q : List Int} {b : Nat} (hq : q.length = b) (hb : b < 256) (y : Int) : (rowN0 q).set b y = rowN0 (q ++ [y]) := by subst hq; exact rowN0_set hb y
theorem rowN0_put2 {q : List Int} {b : Nat} (hq : q.length = b) (hb : b < 256) (f y : Int) : ((rowN0 q).set b f).set b y = rowN0 (q ++ [y]) := by rw [List.set_set]; exact rowN0_put1 hq hb y
theorem rowN0_nil : rowN0 [] = List.replicate 256 0 := rfl
/-- one rule that is right -/
theorem tree_of {l : List Cel} (h : rightB l = true) : ∃ t : Rx, l = post t ∧ t.ok ∧ (post t).length ≤ 60 := by
  obtain ⟨ts, e, hok⟩ := trees_of (L := [l]) (by simp [h])
  cases ts with
  | nil => cases e
  | cons t r =>
    rw [List.map_cons] at e
    injection e with e1 e2
    exact ⟨t, e1, hok t (by simp)⟩
/-- what the first k rules are -/
structure RbK (B : Nat) (L : List (List Cel)) (k : Nat) (w : World) (v : Value) (ts : List Rx) (es : List SpE) : Prop where
  take : L.take k = ts.map post
  ok : ∀ t ∈ ts, t.ok ∧ (post t).length ≤ 60
  all : AllO B w v es
  sp : SpAll ts (es.map SpE.p)
theorem RbK.len {B : Nat} {L : List (List Cel)} {k : Nat} {w : World} {v : Value} {ts : List Rx} {es : List SpE} (h : RbK B L k w v ts es) (hk : k ≤ L.length) : es.length = k ∧ ts.length = k := by
  have h1 := congrArg List.length h.take
  rw [List.length_take, List.length_map] at h1
  have h2 := h.sp.len
  rw [List.length_map] at h2
  omega
theorem spAll_snoc {ts : List Rx} {all : List Sp} (h : SpAll ts all) {t : Rx} {p : Sp} (hp : SpAt t p) : SpAll (ts ++ [t]) (all ++ [p]) := by
  refine ⟨by rw [List.length_append, List.length_append, h.len]; rfl, fun r hr => ?_⟩
  rw [List.length_append, List.length_singleton] at hr
  rcases Nat.lt_or_ge r ts.length with hl | hl
  · rw [List.getElem_append_left hl, getD_snoc_left (by rw [h.len]; exact hl)]
    exact h.is r hl
  · rw [List.getElem_append_right hl, getD_snoc_at (by rw [h.len]; omega)]
    simpa using hp
theorem RbK.next {B : Nat} {L : List (List Cel)} {k : Nat} {u w' : World} {v : Value} {ts : List Rx} {es : List SpE} (h : RbK B L k u v ts es) (hk : k < L.length) {t : Rx} (ht : L[k] = post t) (hok : t.ok ∧ (post t).length ≤ 60) {sv fv lv gv : Value} {fl : List (List Int)} (hfl : FolOK (FolS [t]) (nS [t]) fl)
    (hx : SpVF (fun k => v.ownBlock = some k) u sv fv lv gv (spOf t fl)) {g cap : Nat}
    (ho : w'.ownsRow B 64 5 (.slice (some ⟨g, 0, none⟩) (es.length + 1) cap) (es.length + 1) (es.flatMap SpE.cells ++ [sv, .bool t.null, fv, lv, gv])) (hg : u.grownBy w' v.ownBlock) (hat : v.ownBlock = some g ∨ g = u.heap.size) :
    RbK B L (k + 1) w' (.slice (some ⟨g, 0, none⟩) (es.length + 1) cap) (ts ++ [t]) (es ++ [⟨sv, fv, lv, gv, spOf t fl⟩]) := by
  refine ⟨?_, fun t' ht' => ?_, h.all.snoc ⟨sv, fv, lv, gv, spOf t fl⟩ hx ho hg hat, ?_⟩
  · rw [List.take_succ_eq_append_getElem hk, h.take, ht, List.map_append]
    rfl
  · rcases List.mem_append.1 ht' with h1 | h1
    · exact h.ok t' h1
    · have : t' = t := by simpa using h1
      subst this
      exact hok
  · rw [List.map_append]
    exact spAll_snoc h.sp ⟨fl, rfl, hfl⟩
set_option maxRecDepth 20000 in
theorem RbK.keep {B : Nat} {L : List (List Cel)} {k : Nat} {w u : World} {v : Value} {ts : List Rx} {es : List SpE} (h : RbK B L k w v ts es) (hu : Below w.heap.size w u) : RbK B L k u v ts es := ⟨h.take, h.ok, h.all.keep hu, h.sp⟩
/-- what topiaryref08.Build answers -/
def RefR (L : List (List Cel)) (w : World) (nv av : Value) (er : Int) : Prop := (L.all rightB = false ∧ nv = nilV ∧ av = nilV ∧ er = 1) ∨ ∃ ts, L = ts.map post ∧ (∀ t ∈ ts, t.ok ∧ (post t).length ≤ 60) ∧ BldR ts w nv av er
/-- the calls of the two loops behind the first -/
structure RbC (ts : List Rx) (w1 : World) (v : Value) (all : List Sp) : Prop where
  sp : SpAll ts all
  first : ∀ u, Below w1.heap.size w1 u → Calls Tryz.prog 31 #[v] u fun e w' => ∃ v', e = .returned v' ∧ Own w' u.heap.size v' (firstS all all.length) ∧ Below u.heap.size u w'
  byB : ∀ (n b : Nat) (x : Value) (u : World), b < 256 → n < (stsK all n).length → Below w1.heap.size w1 u → Nums u x ((stsK all n).getD n []) → Calls Tryz.prog 32 #[v, x, .int .i64 (b : Int)] u fun e w' => ∃ v', e = .returned v' ∧ Own w' u.heap.size v' (byS all ((stsK all n).getD n []) b) ∧ Below u.heap.size u w'
  find : ∀ (n b : Nat) (tv x : Value) (u : World), b < 256 → n < (stsK all n).length → (stsK all n).length ≤ 240 → Numss u tv (rowK all ((stsK all n).getD n []) (stsK all n) b).1 → Nums u x (byS all ((stsK all n).getD n []) b) → Calls Tryz.prog 33 #[tv, x] u fun e w' => e = .returned (.int .i64 (findS (rowK all ((stsK all n).getD n []) (stsK all n) b).1 (byS all ((stsK all n).getD n []) b) 0)) ∧ Below u.heap.size u w'
  acc : ∀ (n : Nat) (x : Value) (u : World), n < (stsK all n).length → Nums u x ((stsK all n).getD n []) → Calls Tryz.prog 34 #[x] u fun e w' => e = .returned (.int .i64 (accS ((stsK all n).getD n []))) ∧ Below u.heap.size u w'
theorem rbC_of {ts : List Rx} {w1 : World} {v : Value} {all : List Sp} (hsp : SpAll ts all) (hok : ∀ t ∈ ts, t.ok ∧ (post t).length ≤ 60) (hn : ts.length ≤ 16) (hS : Spss w1 v all) : RbC ts w1 v all := by
  have R := hsp.ru (fun t ht => (hok t ht).2)
  have hp := hsp.sml (fun t ht => (hok t ht).2)
  have hl : all.length ≤ 16 := by rw [hsp.len]; exact hn
  have hst : ∀ n, ∀ x ∈ stsK all n, (∀ y ∈ x, FrmS ts y) ∧ Up x := fun n x hx => ⟨stsK_frm R n x hx, stsK_up R n x hx⟩
  have hat : ∀ n, n < (stsK all n).length → (∀ y ∈ (stsK all n).getD n [], FrmS ts y) ∧ Up ((stsK all n).getD n []) := fun n h => hst n _ (List.mem_of_getElem? (sts_at h))
  refine ⟨hsp, fun u hu => firstC v all u hl hp (hS.keep hu), fun n b x u hb h hu hx => ?_, fun n b tv x u hb h h240 ht hx => ?_, fun n x u h hx => ?_⟩
  · exact byC v x all _ b u hb hl hp (hS.keep hu) (by have := st_len R hn (hat n h).1 (hat n h).2; omega) (st_ok R (hat n h).1) hx
  · have hg := rowK_good R (hat n h).1 (stsK_nd all n) (hst n) b
    exact refFindS tv x _ _ u (by have := row_more all ((stsK all n).getD n []) (stsK all n) b; omega) (fun l hl => by have := st_len R hn (hg l hl).1 (hg l hl).2; omega) (by have := st_len R hn (by_frm R (hat n h).1 b) (byS_up all _ b); omega) ht hx
  · refine (acceptC x _ u (by have := st_len R hn (hat n h).1 (hat n h).2; omega) (fun y hy => ?_) hx).mono ?_
    · obtain ⟨r, hr, k, rfl, hk⟩ := (hat n h).1 y hy
      have := R.few r hr
      unfold enc
      omega
    · rintro e w' ⟨rfl, rfl⟩
      exact ⟨rfl, Below.refl _ _⟩

/-- a row that is filled beside them, in the block rk -/
structure RbL (W1 : World) (rk : Nat) (w : World) (D F : Nat → Prop) (tv nv av : Value) (ss vs : List Value) (S N : List (List Int)) (A r : List Int) : Prop where
  s : RbS W1.heap.size W1 w D F tv nv av ss vs S N A
  rF : F rk
  rt : tv.ownBlock ≠ some rk
  row : Own w W1.heap.size (.slice (some ⟨rk, 0, none⟩) 256 256) r
theorem RbL.len {W1 w : World} {rk : Nat} {D F : Nat → Prop} {tv nv av : Value} {ss vs : List Value} {S N : List (List Int)} {A r : List Int} (h : RbL W1 rk w D F tv nv av ss vs S N A r) : r.length = 256 := by
  have h1 := own_shape h.row
  obtain ⟨a, c, e⟩ := h1
  injection e with _ e _
  exact e.symm
theorem RbL.keep {W1 w u : World} {rk : Nat} {D F : Nat → Prop} {tv nv av : Value} {ss vs : List Value} {S N : List (List Int)} {A r : List Int} (h : RbL W1 rk w D F tv nv av ss vs S N A r) (hu : Below w.heap.size w u) : RbL W1 rk u D F tv nv av ss vs S N A r := ⟨h.s.keep hu, h.rF, h.rt, own_below h.row hu⟩
theorem RbL.put {W1 w : World} {rk : Nat} {D F : Nat → Prop} {tv nv av : Value} {ss vs : List Value} {S N : List (List Int)} {A r : List Int} (h : RbL W1 rk w D F tv nv av ss vs S N A r) (b : Nat) (y : Int) : RbL W1 rk (w.setCell ⟨rk, b, none⟩ (.int .i64 y)) D F tv nv av ss vs S N A (r.set b y) :=
  ⟨h.s.put h.rF h.rt b _, h.rF, h.rt, own_num_put y h.row h.len.symm⟩
theorem RbL.cell {W1 w : World} {rk : Nat} {D F : Nat → Prop} {tv nv av : Value} {ss vs : List Value} {S N : List (List Int)} {A r : List Int} (h : RbL W1 rk w D F tv nv av ss vs S N A r) {b : Nat} (hb : b < 256) : w.cell? ⟨rk, b, none⟩ = some (.int .i64 (r.getD b 0)) ∧ w.frozen? ⟨rk, b, none⟩ = false :=
  ⟨own_num_at h.row (by rw [h.len]; exact hb), own_num_free h.row h.len.symm b⟩
theorem RbL.put_cell {W1 w : World} {rk : Nat} {D F : Nat → Prop} {tv nv av : Value} {ss vs : List Value} {S N : List (List Int)} {A r : List Int} (h : RbL W1 rk w D F tv nv av ss vs S N A r) {b : Nat} (hb : b < 256) (y : Int) : (w.setCell ⟨rk, b, none⟩ (.int .i64 y)).cell? ⟨rk, b, none⟩ = some (.int .i64 y) ∧ (w.setCell ⟨rk, b, none⟩ (.int .i64 y)).frozen? ⟨rk, b, none⟩ = false := by
  have h1 := (h.put b y).cell hb
  have e : (r.set b y).getD b 0 = y := by
    rw [List.getD_eq_getElem?_getD, List.getElem?_set_self (by rw [h.len]; exact hb)]
    rfl
  rw [e] at h1
  exact h1
theorem RbL.push {W1 w u : World} {rk : Nat} {D F : Nat → Prop} {tv nv av x : Value} {ss vs : List Value} {S N : List (List Int)} {A r l : List Int} (h : RbL W1 rk w D F tv nv av ss vs S N A r) (hx : Nums w x l) (hxo : Off (fun k => D k ∨ F k) x) {g cap : Nat}
    (ho : u.ownsRow W1.heap.size 23 1 (.slice (some ⟨g, 0, none⟩) (ss.length + 1) cap) (ss.length + 1) (ss ++ [x])) (hg : w.grownBy u tv.ownBlock) (hat : tv.ownBlock = some g ∨ g = w.heap.size) :
    RbL W1 rk u D (fun k => F k ∨ k = g) (.slice (some ⟨g, 0, none⟩) (ss.length + 1) cap) nv av (ss ++ [x]) vs (S ++ [l]) N A r := by
  refine ⟨h.s.push hx hxo ho hg hat, Or.inl h.rF, fun e => ?_, own_kept h.row (Kept.of_grown hg) (fun k e e' => ?_)⟩
  · have e1 : g = rk := by injection e
    rcases hat with h1 | h1
    · exact h.rt (by rw [h1, e1])
    · have := h.s.fL _ h.rF
      omega
  · have e1 : rk = k := by injection e
    subst e1
    exact h.rt e'
theorem RbL.at {W1 w : World} {rk : Nat} {D F : Nat → Prop} {tv nv av : Value} {ss vs : List Value} {S N : List (List Int)} {A r : List Int} (h : RbL W1 rk w D F tv nv av ss vs S N A r) {n : Nat} {l : List Int} (hn : S[n]? = some l) : ∃ g c x, tv = .slice (some ⟨g, 0, none⟩) ss.length c ∧ n < ss.length ∧ w.cell? ⟨g, n, none⟩ = some x ∧ Nums w x l := by
  have hl := h.s.sn.1
  have hn' : n < S.length := by
    rcases Nat.lt_or_ge n S.length with h1 | h1
    · exact h1
    · rw [List.getElem?_eq_none h1] at hn; cases hn
  have hn2 : n < ss.length := by omega
  obtain ⟨g, c, e, _⟩ := own_form h.s.st (by omega)
  have hst := h.s.st
  rw [e] at hst
  have h1 := hst.cellAt n (by omega)
  rw [List.getElem?_eq_getElem hn2] at h1
  refine ⟨g, c, ss[n], e, hn2, h1, ?_⟩
  have h2 := (h.s.sn.2 n).1
  rw [List.getD_eq_getElem?_getD, List.getElem?_eq_getElem hn2, List.getD_eq_getElem?_getD, hn] at h2
  exact h2

end Go.Proofs.YtlpbeieljjgbaaaGreatDoor
