/- The second pass begins: levels are made, left sides told; a fault is kept. What is left to be done, one by one: each step by its contract. settle. settle. -/
import Derived.Test.YtcledgljbmepaaaGreatJ19
import Derived.Test.YtcledgljbmepaaaGreatJ20
namespace Go.Proofs.YtcledgljbmepaaaGreat
open Go.RowKit Go.Maps

theorem made_same (a : Value) (k : Nat) : (madeCells #[a, a] k).toList = List.replicate k a := by
  refine List.eq_replicate_iff.2 ⟨by rw [Array.length_toList, size_madeCells], fun b hb => ?_⟩
  unfold madeCells at hb
  rw [Array.toList_map, List.mem_map] at hb
  obtain ⟨i, -, rfl⟩ := hb
  have h2 : i % 2 = 0 ∨ i % 2 = 1 := by omega
  show (#[a, a] : Array Value)[i % 2]! = a
  rcases h2 with h | h <;> rw [h] <;> rfl
theorem flat_zero : ∀ n : Nat, (List.replicate n ((0 : Int), (0 : Int))).flatMap csL = List.replicate (n * 2) (.int .i64 0)
  | 0 => rfl
  | n + 1 => by
    rw [List.replicate_succ, List.flatMap_cons, flat_zero n, show (n + 1) * 2 = n * 2 + 1 + 1 by omega, List.replicate_succ, List.replicate_succ]
    rfl
def fs0 (st : RS) (N : Nat) : FS := ⟨List.replicate N (0, 0), st.prods.map fun (l : Nat) => ⟨(l : Int), [], 0⟩, 0, st.pl, st.err⟩
theorem prods0 : ∀ l : List Nat, l.flatMap pdV = ((l.map fun (x : Nat) => (⟨(x : Int), [], 0⟩ : Pd)).zip (List.replicate l.length (.slice none 0 0))).flatMap fun x => prV x.1 x.2
  | [] => rfl
  | a :: l => by
    rw [List.flatMap_cons, prods0 l, List.map_cons, List.length_cons, List.replicate_succ, List.zip_cons_cons, List.flatMap_cons]
    rfl
set_option maxRecDepth 20000 in
theorem RdV.toW {B rb N : Nat} {T : Nat → Nat} {w : World} {X : RX} {st : RS} (h : RdV B T w rb X st) (hN : N ≤ 1000000) :
    ∃ w1, (Instr.makeSlice 24 (.int .i64 (N : Int)) (.int .i64 (N : Int))).run Tryz.prog w = .ok (.slice (some ⟨w.heap.size, 0, none⟩) N N) w1 ∧ w1.cell? ⟨rb, 3, none⟩ = some (.slice none 0 0) ∧ w1.frozen? ⟨rb, 3, none⟩ = false ∧
      ∃ T', RdW B T' (w1.setCell ⟨rb, 3, none⟩ (.slice (some ⟨w.heap.size, 0, none⟩) N N)) rb X st (fs0 st N) (.slice (some ⟨w.heap.size, 0, none⟩) N N) (List.replicate st.prods.length (.slice none 0 0)) none ∧ Chg T T' w (w1.setCell ⟨rb, 3, none⟩ (.slice (some ⟨w.heap.size, 0, none⟩) N N)) := by
  obtain ⟨i0, hi0, za, zb, zc⟩ := info_parts Tryz.infLv
  obtain ⟨w1, hrun, hO, hg⟩ := run_make_full (P := Tryz.prog) w B 24 105 i0 _ 2 Tryz.underlying24 hi0 za zb .i64 .i64 N (by rw [zc]; omega) (by unfold maxLen; omega) h.base
  have hrb := blk_lt h.blk
  have hb1 : Below w.heap.size w w1 := ((Kept.of_grown hg).mono (G := noBlk) (fun k _ e => by cases e)).none
  have hbk := hs_keep h.blk hb1
  have hwl : w.heap.size < w1.heap.size := (hO.lt w.heap.size rfl).2
  have ht : ∀ b, b < w.heap.size → tagT T w.heap.size 3 b = T b := fun b hb9 => if_neg (by omega)
  have hk : Kept (oneBlk rb) w (w1.setCell ⟨rb, 3, none⟩ (.slice (some ⟨w.heap.size, 0, none⟩) N N)) := (Kept.of_below hb1).setCell (a := ⟨rb, 3, none⟩) (fun _ => rfl)
  have hc : Chg T (tagT T w.heap.size 3) w (w1.setCell ⟨rb, 3, none⟩ (.slice (some ⟨w.heap.size, 0, none⟩) N N)) := ⟨hk.mono (fun k _ e => by rw [show k = rb from e, h.rt]; decide), ht⟩
  have hF : ∀ i, i ≠ 99 → ∀ b, oneBlk rb b → T b ≠ i := fun i hi b e => by rw [show b = rb from e, h.rt]; exact hi.symm
  have hsz : (w1.setCell ⟨rb, 3, none⟩ (.slice (some ⟨w.heap.size, 0, none⟩) N N)).heap.size = w1.heap.size := by simp
  refine ⟨w1, hrun, blk_cell hbk rfl, blk_frozen hbk 3, tagT T w.heap.size 3, ⟨heap_setCell hbk, (ht rb hrb).trans h.rt, fun b hn => ?_, Nat.le_trans h.base hk.size, h.rules.kept hk (hF 1 (by decide)) ht, h.rlen, fun x hx => (h.rre x hx).keep hc, h.nonts.kept hk (hF 2 (by decide)) ht, h.skips.kept hk (hF 8 (by decide)) ht, h.terms.kept hk (hF 9 (by decide)) ht, h.nons.kept hk (hF 10 (by decide)) ht, h.later.kept hk (hF 15 (by decide)) ht, h.flen, fun x hx => (h.fst x hx).keep hc, ?_, ?_, ?_, fun j a b => ?_, fun m e => (by cases e)⟩, hc⟩
  · rw [hsz]
    unfold tagT at hn
    split at hn
    · rename_i e; subst e; exact ⟨h.base, hwl⟩
    · exact ⟨(h.own b hn).1, Nat.lt_of_lt_of_le (h.own b hn).2 hb1.size⟩
  · show OwnI _ _ _ _ _ _ _ (List.replicate N ((0 : Int), (0 : Int))).length ((List.replicate N ((0 : Int), (0 : Int))).flatMap csL)
    rw [List.length_replicate, flat_zero]
    have e1 : (madeCells (Value.agg #[.int .i64 0, .int .i64 0]).cells (N * 2)).toList = List.replicate (N * 2) (.int .i64 0) := made_same _ _
    rw [e1] at hO
    refine ⟨own_set hO (fun e => by injection e with e; have : w.heap.size = rb := e; omega), fun b e => ?_⟩
    have : w.heap.size = b := by injection e
    rw [← this]
    exact if_pos rfl
  · show OwnI _ _ _ _ _ _ _ (st.prods.map fun (l : Nat) => (⟨(l : Int), [], 0⟩ : Pd)).length (((st.prods.map fun (l : Nat) => (⟨(l : Int), [], 0⟩ : Pd)).zip (List.replicate st.prods.length (.slice none 0 0))).flatMap fun x => prV x.1 x.2)
    rw [List.length_map, ← prods0]
    exact h.prods.kept hk (hF 4 (by decide)) ht
  · show (List.replicate st.prods.length _).length = (st.prods.map _).length
    rw [List.length_replicate, List.length_map]
  · rw [List.getElem_replicate]
    have e9 : (fs0 st N).prods[j].right = [] := by
      have b' : j < (st.prods.map fun (l : Nat) => (⟨(l : Int), [], 0⟩ : Pd)).length := b
      show ((st.prods.map fun (l : Nat) => (⟨(l : Int), [], 0⟩ : Pd))[j]'b').right = []
      rw [List.getElem_map]
    rw [e9]
    exact ⟨World.ownsRow_nil _ _ _ _, fun b e => by cases e⟩
/-- a production's left side -/
theorem RdW.setLeft {B rb j g cap : Nat} {T : Nat → Nat} {w : World} {X : RX} {st : RS} {f : FS} {lv : Value} {rs : List Value} {mp : Option Nat} (h : RdW B T w rb X st f lv rs mp) (hj : j < f.prods.length) (hg : X.pv = .slice (some ⟨g, 0, none⟩) f.prods.length cap) (n : Int) :
    RdW B T (w.setCell ⟨g, j * 3, none⟩ (.int .i64 n)) rb X st { f with prods := modP f.prods j fun p => ⟨n, p.right, p.prec⟩ } lv rs mp ∧ Chg T T w (w.setCell ⟨g, j * 3, none⟩ (.int .i64 n)) := by
  have hl := h.rslen
  have hz : (f.prods.zip rs).length = f.prods.length := by rw [List.length_zip, hl, Nat.min_self]
  have hg4 : T g = 4 := h.prods.2 g (by rw [hg]; rfl)
  have hk : Kept (fun b => T b = 4 ∨ T b = 100 + j) w (w.setCell ⟨g, j * 3, none⟩ (.int .i64 n)) := (Kept.refl _ w).setCell (fun _ => .inl hg4)
  have hsz : (w.setCell ⟨g, j * 3, none⟩ (.int .i64 n)).heap.size = w.heap.size := by simp
  have hone : Kept (oneBlk g) w (w.setCell ⟨g, j * 3, none⟩ (.int .i64 n)) := (Kept.refl (oneBlk g) w).setCell (a := ⟨g, j * 3, none⟩) (fun _ => rfl)
  have hm := modP_at (g := fun p => ⟨n, p.right, p.prec⟩) hj
  refine h.chgP (j0 := j) hk (fun _ _ => rfl) (fun b hn => by rw [hsz]; exact h.own b hn) ?_ ?_ ?_ rfl rfl rfl rfl
  · show OwnI _ _ _ _ _ _ X.pv (modP f.prods j _).length (((modP f.prods j _).zip rs).flatMap _)
    rw [hm, List.length_set]
    have e1 : rs = rs.set j (rs[j]'(by rw [hl]; exact hj)) := by rw [List.set_getElem_self]
    have e2 : ((f.prods.set j ⟨n, f.prods[j].right, f.prods[j].prec⟩).zip rs).flatMap (fun x => prV x.1 x.2) = ((f.prods.zip rs).flatMap (fun x => prV x.1 x.2)).set (j * 3) (.int .i64 n) := by
      have h0 := flat_set (fun x : Pd × Value => prV x.1 x.2) (sz := 3) (fun _ => rfl) (f.prods.zip rs) j 0 (⟨n, f.prods[j].right, f.prods[j].prec⟩, rs[j]'(by rw [hl]; exact hj)) (.int .i64 n) (by rw [hz]; exact hj) (by decide) (by rw [List.getElem_zip]; rfl)
      rw [Nat.add_zero] at h0
      rw [h0, ← zip_set, ← e1]
    rw [e2, hg]
    have := h.prods
    rw [hg] at this
    exact this.setc _
  · show rs.length = (modP f.prods j _).length
    rw [hm, List.length_set]; exact hl
  · intro i a b
    have b' : i < f.prods.length := by rw [← hl]; exact a
    have e9 : ({ f with prods := modP f.prods j fun p => ⟨n, p.right, p.prec⟩ } : FS).prods[i].right = f.prods[i].right := by
      have e8 : (modP f.prods j fun p => ⟨n, p.right, p.prec⟩)[i]'b = (f.prods.set j ⟨n, f.prods[j].right, f.prods[j].prec⟩)[i]'(by rw [List.length_set]; exact b') := by congr 1
      show ((modP f.prods j fun p => ⟨n, p.right, p.prec⟩)[i]'b).right = _
      rw [e8, List.getElem_set]
      split
      · rename_i e7; subst e7; rfl
      · rfl
    rw [e9]
    exact (h.rights i a b').kept hone (fun b0 e0 => by rw [show b0 = g from e0, hg4]; omega) (fun _ _ => rfl)
set_option maxRecDepth 20000 in
set_option maxHeartbeats 4000000 in
theorem giveW {B rb : Nat} {T : Nat → Nat} {w : World} {X : RX} {st : RS} {f : FS} {lv : Value} {rs : List Value} {mp : Option Nat} (h : RdW B T w rb X st f lv rs mp) (p : Nat) (e : Int) (h0 : f.err = 0) :
    Calls Tryz.prog 27 #[ptr0 rb, .int .i64 (p : Int), .int .i64 e] w fun r w' => r = .returned (.tuple #[]) ∧ RdR B T w rb X st { f with pl := p, err := e } lv w' := by
  have hb0 := h.blk
  have hb1 := heap_setCell (o := 16) (v := .int .i64 (p : Int)) hb0
  have hb2 := heap_setCell (o := 17) (v := .int .i64 e) hb1
  have hk : Kept (oneBlk rb) w ((w.setCell ⟨rb, 16, none⟩ (.int .i64 (p : Int))).setCell ⟨rb, 17, none⟩ (.int .i64 e)) := ((Kept.refl (oneBlk rb) w).setCell (a := ⟨rb, 16, none⟩) (fun _ => rfl)).setCell (a := ⟨rb, 17, none⟩) (fun _ => rfl)
  obtain ⟨h2, c2⟩ := h.put (f' := { f with pl := p, err := e }) hk hb2 rfl rfl
  have hP : Hid (RdR B T w rb X st { f with pl := p, err := e } lv ((w.setCell ⟨rb, 16, none⟩ (.int .i64 (p : Int))).setCell ⟨rb, 17, none⟩ (.int .i64 e))) := hid ⟨T, rs, mp, h2, c2⟩
  have y17' : w.cell? ⟨rb, 17, none⟩ = some (.int .i64 f.err) := blk_cell hb0 rfl
  have y17 : (w.setCell ⟨rb, 16, none⟩ (.int .i64 (p : Int))).cell? ⟨rb, 17, none⟩ = some (.int .i64 f.err) := blk_cell hb1 rfl
  rw [h0] at y17 y17'
  have y16 : w.cell? ⟨rb, 16, none⟩ = some (.int .i64 (f.pl : Int)) := blk_cell hb0 rfl
  have f16 := blk_frozen hb0 16
  have f17 := blk_frozen hb1 17
  clear hb0 hb1 hb2 hk h0 h h2 c2
  go_enter Tryz.func27, Tryz.ntmps27
  go_wp2
  go_end0
  exact ⟨rfl, hP.out⟩

end Go.Proofs.YtcledgljbmepaaaGreat
namespace Go.Proofs.YtcledgljbmepaaaGreat
open Go.RowKit Go.Maps

set_option maxRecDepth 20000 in
theorem stepC {B rb : Nat} {T : Nat → Nat} {w : World} {X : RX} {st : RS} {f : FS} {lv : Value} {rs : List Value} {mp : Option Nat} {v : Value} {s : Stp} (h : RdW B T w rb X st f lv rs mp) (hb : BndS st) (hs : StpV T w rb v s) (hx : s.w.2.2.length ≤ 1000000) (hp : s.k = 5 ∨ s.k = 6 → s.a < f.prods.length) (ht : (st.fnd s.w.2.2).2.1 < f.levels.length) (hr : ∀ j (h : j < f.prods.length), f.prods[j].right.length ≤ 100000) (hl1 : f.levels.length ≤ 100000) (hl2 : f.prods.length ≤ 100000) :
    ∃ K caps, v = .func (.func K) #[] caps ∧ Calls Tryz.prog K caps w fun r w' => r = .returned (.int .i64 (stpF st.fnd s f).2) ∧ RdR B T w rb X st (stpF st.fnd s f).1 lv w' := by
  rcases hs with ⟨hk, p, q, e, h1, h2⟩ | ⟨hk, p, q, l, e, h1, h2, h3⟩ | ⟨hk, l, e, h3⟩ | ⟨hk, p, q, e, h1, h2⟩ | ⟨hk, p, l, q, e, h1, h2, h3⟩ | ⟨hk, p, q, l, e, h1, h2, h3⟩
  · refine ⟨_, _, e, ?_⟩
    have e9 : stpF st.fnd s f = (f, if (st.fnd s.w.2.2).1 < s.w.2.1 then 6 else 0) := by unfold stpF; rw [if_pos hk]
    rw [e9]
    exact onceK h hb hx h1 h2
  · refine ⟨_, _, e, ?_⟩
    have e9 : stpF st.fnd s f = (if (st.fnd s.w.2.2).2.1 = 0 then (f, 5) else if 0 < (f.levels.getD (st.fnd s.w.2.2).2.1 (0, 0)).1 then (f, 6) else ({ f with levels := f.levels.set (st.fnd s.w.2.2).2.1 ((s.a : Int), (s.b : Int)) }, 0)) := by unfold stpF; rw [if_neg (by omega), if_pos hk]
    have h9 := levK h hb hx ht h1 h2 h3 hl1
    rw [e9]
    by_cases c1 : (st.fnd s.w.2.2).2.1 = 0
    · rw [if_pos c1, if_pos c1] at h9
      rw [if_pos c1]
      exact h9
    · rw [if_neg c1, if_neg c1] at h9
      rw [if_neg c1]
      by_cases c2 : 0 < (f.levels.getD (st.fnd s.w.2.2).2.1 (0, 0)).1
      · rw [if_pos c2, if_pos c2] at h9
        rw [if_pos c2]
        exact h9
      · rw [if_neg c2, if_neg c2] at h9
        rw [if_neg c2]
        exact h9
  · refine ⟨_, _, e, ?_⟩
    have e9 : stpF st.fnd s f = (f, if s.a = 0 then 0 else 6) := by unfold stpF; rw [if_neg (by omega), if_neg (by omega), if_pos hk]
    rw [e9]
    exact secK h h3
  · refine ⟨_, _, e, ?_⟩
    have e9 : stpF st.fnd s f = ({ f with start := ((st.fnd s.w.2.2).2.2 : Int) }, if (st.fnd s.w.2.2).2.2 = 0 then 5 else 0) := by unfold stpF; rw [if_neg (by omega), if_neg (by omega), if_neg (by omega), if_pos hk]
    rw [e9]
    exact nameK h hb hx h1 h2
  · refine ⟨_, _, e, ?_⟩
    have e9 : stpF st.fnd s f = symR (st.fnd s.w.2.2) s.a f := by unfold stpF symR; rw [if_neg (by omega), if_neg (by omega), if_neg (by omega), if_neg (by omega), if_pos hk]
    rw [e9]
    exact symK h hb hx (hp (.inl hk)) h1 h2 h3 hl2 (hr _ _)
  · refine ⟨_, _, e, ?_⟩
    have e9 : stpF st.fnd s f = (if (st.fnd s.w.2.2).2.1 = 0 then (f, 5) else ({ f with prods := modP f.prods s.a fun p => ⟨p.left, p.right, ((st.fnd s.w.2.2).2.1 : Int)⟩ }, 0)) := by unfold stpF; rw [if_neg (by omega), if_neg (by omega), if_neg (by omega), if_neg (by omega), if_neg (by omega)]
    have h9 := precK h hb hx (hp (.inr hk)) h1 h2 h3 hl2
    rw [e9]
    by_cases c1 : (st.fnd s.w.2.2).2.1 = 0
    · rw [if_pos c1, if_pos c1] at h9
      rw [if_pos c1]
      exact h9
    · rw [if_neg c1, if_neg c1] at h9
      rw [if_neg c1]
      exact h9
/-- left sides told up to k -/
def lftK (t : Nat) (l : List Nat) (k : Nat) : List Pd := ((l.take k).map fun (x : Nat) => (⟨(x : Int) + (t : Int), [], 0⟩ : Pd)) ++ ((l.drop k).map fun (x : Nat) => (⟨(x : Int), [], 0⟩ : Pd))
theorem lftK_len (t : Nat) (l : List Nat) (k : Nat) : (lftK t l k).length = l.length := by
  unfold lftK
  rw [List.length_append, List.length_map, List.length_map, ← List.length_append, List.take_append_drop]
theorem lftK_at? (t : Nat) (l : List Nat) (k : Nat) (hk : k < l.length) : (lftK t l k)[k]? = some ⟨(l[k] : Int), [], 0⟩ := by
  have h1 : ((l.take k).map fun (x : Nat) => (⟨(x : Int) + (t : Int), [], 0⟩ : Pd)).length = k := by rw [List.length_map, List.length_take]; omega
  unfold lftK
  rw [List.getElem?_append_right (by omega), h1, Nat.sub_self, List.drop_eq_getElem_cons hk]
  rfl
theorem lftK_set (t : Nat) (l : List Nat) (k : Nat) (hk : k < l.length) : (lftK t l k).set k ⟨(l[k] : Int) + (t : Int), [], 0⟩ = lftK t l (k + 1) := by
  have h1 : ((l.take k).map fun (x : Nat) => (⟨(x : Int) + (t : Int), [], 0⟩ : Pd)).length = k := by rw [List.length_map, List.length_take]; omega
  unfold lftK
  rw [List.set_append_right _ _ (by omega), h1, Nat.sub_self, List.drop_eq_getElem_cons hk, List.map_cons, List.set_cons_zero, List.take_add_one, List.getElem?_eq_getElem hk, List.map_append, List.append_assoc]
  rfl
def fsK (st : RS) (N t k : Nat) : FS := { fs0 st N with prods := lftK t st.prods k }
theorem fsK_zero (st : RS) (N t : Nat) : fsK st N t 0 = fs0 st N := by unfold fsK fs0 lftK; simp
theorem fsK_len (st : RS) (N t k : Nat) : (fsK st N t k).prods.length = st.prods.length := lftK_len t st.prods k
theorem fsK_succ (st : RS) (N t k : Nat) (hk : k < st.prods.length) : ({ fsK st N t k with prods := modP (fsK st N t k).prods k fun p => ⟨(st.prods[k] : Int) + (t : Int), p.right, p.prec⟩ } : FS) = fsK st N t (k + 1) := by
  have e1 : modP (fsK st N t k).prods k (fun p => ⟨(st.prods[k] : Int) + (t : Int), p.right, p.prec⟩) = lftK t st.prods (k + 1) := by
    unfold modP
    have e2 : (fsK st N t k).prods[k]? = some ⟨(st.prods[k] : Int), [], 0⟩ := lftK_at? t st.prods k hk
    rw [e2]
    exact lftK_set t st.prods k hk
  rw [e1]
  rfl
theorem fsK_end (st : RS) (N t : Nat) : (fsK st N t st.prods.length).prods = st.prods.map fun (l : Nat) => (⟨(l : Int) + (t : Int), [], 0⟩ : Pd) := by
  unfold fsK lftK
  simp

end Go.Proofs.YtcledgljbmepaaaGreat
namespace Go.Proofs.YtcledgljbmepaaaGreat
open Go.RowKit Go.Maps

structure FOk (st : RS) (i : Nat) (f : FS) : Prop where
  l : f.levels.length = st.trm + 1
  p : f.prods.length = st.prods.length
  r : ∀ j (h : j < f.prods.length), f.prods[j].right.length ≤ i
theorem modP_len (l : List Pd) (k : Nat) (g : Pd → Pd) : (modP l k g).length = l.length := by
  unfold modP
  split
  · rw [List.length_set]
  · rfl
theorem modP_right {l : List Pd} {k : Nat} {g : Pd → Pd} {i : Nat} (h : ∀ j (h : j < l.length), l[j].right.length ≤ i) (hg : ∀ p : Pd, p.right.length ≤ i → (g p).right.length ≤ i + 1) (j : Nat) (hj : j < (modP l k g).length) : (modP l k g)[j].right.length ≤ i + 1 := by
  have hj' : j < l.length := by rw [modP_len] at hj; exact hj
  by_cases hk : k < l.length
  · have e8 : (modP l k g)[j]'hj = (l.set k (g l[k]))[j]'(by rw [List.length_set]; exact hj') := by congr 1; exact modP_at hk
    rw [e8, List.getElem_set]
    split
    · exact hg _ (h k hk)
    · exact Nat.le_succ_of_le (h j hj')
  · have e8 : (modP l k g)[j]'hj = l[j] := by congr 1; unfold modP; rw [List.getElem?_eq_none (by omega)]
    rw [e8]
    exact Nat.le_succ_of_le (h j hj')
theorem FOk.step {st : RS} {i : Nat} {f : FS} (h : FOk st i f) (F : Txt → Ow) (s : Stp) : FOk st (i + 1) (stpF F s f).1 := by
  have hup : FOk st (i + 1) f := ⟨h.l, h.p, fun j hj => Nat.le_succ_of_le (h.r j hj)⟩
  unfold stpF
  split
  · exact hup
  · split
    · split
      · exact hup
      · split
        · exact hup
        · exact ⟨by show (f.levels.set _ _).length = _; rw [List.length_set]; exact h.l, h.p, hup.r⟩
    · split
      · exact hup
      · split
        · exact ⟨h.l, h.p, hup.r⟩
        · split
          · split
            · exact ⟨h.l, by show (modP _ _ _).length = _; rw [modP_len]; exact h.p, fun j hj => modP_right h.r (fun p hp => by show (p.right ++ [_]).length ≤ _; rw [List.length_append]; exact Nat.add_le_add_right hp 1) j hj⟩
            · split
              · exact ⟨h.l, by show (modP _ _ _).length = _; rw [modP_len]; exact h.p, fun j hj => modP_right h.r (fun p hp => by show (p.right ++ [_]).length ≤ _; rw [List.length_append]; exact Nat.add_le_add_right hp 1) j hj⟩
              · exact hup
          · split
            · exact hup
            · exact ⟨h.l, by show (modP _ _ _).length = _; rw [modP_len]; exact h.p, fun j hj => modP_right (g := fun p => ⟨p.left, p.right, ((F s.w.2.2).2.1 : Int)⟩) h.r (fun p hp => Nat.le_succ_of_le hp) j hj⟩
theorem FOk.fail {st : RS} {i : Nat} {f : FS} (h : FOk st i f) (p : Nat) (e : Int) : FOk st i (f.fail p e) := by
  unfold FS.fail
  split
  · exact h
  · exact ⟨h.l, h.p, h.r⟩
theorem RdW.laterAt {B rb j : Nat} {T : Nat → Nat} {w : World} {X : RX} {st : RS} {f : FS} {lv : Value} {rs : List Value} {mp : Option Nat} (h : RdW B T w rb X st f lv rs mp) (hj : j < st.later.length) :
    ∃ g cap, X.la = .slice (some ⟨g, 0, none⟩) st.later.length cap ∧ ∃ hj' : j < X.fl.length, w.cell? ⟨g, j * 2, none⟩ = some (.int .i64 (st.later[j].w.2.1 : Int)) ∧ w.cell? ⟨g, j * 2 + 1, none⟩ = some X.fl[j] ∧ StpV T w rb X.fl[j] st.later[j] := by
  have hl := h.flen
  have hj' : j < X.fl.length := by rw [hl]; exact hj
  have hz : (st.later.zip X.fl).length = st.later.length := by rw [List.length_zip, hl, Nat.min_self]
  rcases h.later.1.2 with ⟨h1, h2⟩ | ⟨g, cap, cur, h1, h2, h3, h4, h5, h6, h7⟩
  · omega
  · have hcell : ∀ i, i < 2 → w.cell? ⟨g, j * 2 + i, none⟩ = (spV st.later[j] X.fl[j])[i]? := fun i hi => by
      have e1 := flat_at (fun x : Stp × Value => spV x.1 x.2) (sz := 2) (fun _ => rfl) (st.later.zip X.fl) j i (by rw [hz]; exact hj) hi
      rw [List.getElem_zip] at e1
      rw [← e1]
      have hown := h.later.1
      rw [h1] at hown
      exact hown.cellAt (j * 2 + i) (by omega)
    have hm : (st.later[j], X.fl[j]) ∈ st.later.zip X.fl := by
      have := List.getElem_mem (l := st.later.zip X.fl) (n := j) (by rw [hz]; exact hj)
      rw [List.getElem_zip] at this
      exact this
    exact ⟨g, cap, h1, hj', hcell 0 (by decide), hcell 1 (by decide), h.fst _ hm⟩
theorem RdW.ruls {B rb : Nat} {T : Nat → Nat} {w : World} {X : RX} {st : RS} (h : RdV B T w rb X st) : RulL w X.rv st.rules := by
  have hl := h.rlen
  have hz : (st.rules.zip X.rl).length = st.rules.length := by rw [List.length_zip, hl, Nat.min_self]
  have hO := h.rules.1
  rcases hO.2 with ⟨h1, h2⟩ | ⟨g, cap, cur, h1, h2, h3, h4, h5, h6, h7⟩
  · exact ⟨none, 0, by rw [h1, h2], fun j hj => by omega⟩
  · refine ⟨some ⟨g, 0, none⟩, cap, h1, fun j hj => ?_⟩
    have hcell : ∀ i, i < 3 → w.cell? ⟨g, 0 + j * 3 + i, none⟩ = (rlV st.rules[j] (X.rl[j]'(by rw [hl]; exact hj)))[i]? := fun i hi => by
      have e1 := flat_at (fun x : Rl × Value => rlV x.1 x.2) (sz := 3) (fun _ => rfl) (st.rules.zip X.rl) j i (by rw [hz]; exact hj) hi
      rw [List.getElem_zip] at e1
      rw [Nat.zero_add, ← e1]
      have hown := hO
      rw [h1] at hown
      exact hown.cellAt (j * 3 + i) (by omega)
    have hm : (st.rules[j], X.rl[j]'(by rw [hl]; exact hj)) ∈ st.rules.zip X.rl := by
      have := List.getElem_mem (l := st.rules.zip X.rl) (n := j) (by rw [hz]; exact hj)
      rw [List.getElem_zip] at this
      exact this
    obtain ⟨xa, xm, xc, hx⟩ := (h.rre _ hm).1
    have c1 := hcell 1 (by decide)
    have hx' : X.rl[j]'(by rw [hl]; exact hj) = .slice xa xm xc := hx
    refine ⟨g, 0, xa, xm, xc, rfl, blk_lt h3, hcell 0 (by decide), ?_, hcell 2 (by decide)⟩
    rw [c1, hx']
    rfl

end Go.Proofs.YtcledgljbmepaaaGreat
namespace Go.Proofs.YtcledgljbmepaaaGreat
open Go.RowKit Go.Maps

structure StOk (st : RS) : Prop where
  b : BndS st
  x : ∀ s ∈ st.later, s.w.2.2.length ≤ 1000000
  p : ∀ s ∈ st.later, s.k = 5 ∨ s.k = 6 → s.a < st.prods.length
  t : ∀ t, (st.fnd t).2.1 < st.trm + 1
  q : ∀ l ∈ st.prods, l ≤ 90000
  l1 : st.rules.length ≤ 90000
  l2 : st.prods.length ≤ 90000
  l3 : st.later.length ≤ 90000
theorem trm_le (st : RS) : st.trm ≤ st.rules.length := trmK_le _ _
set_option maxRecDepth 20000 in
/-- one step of settle -/
theorem setStep {B rb : Nat} {T T1 : Nat → Nat} {w wr : World} {X : RX} {st : RS} {f : FS} {lv : Value} {rs : List Value} {mp : Option Nat} {i : Nat} (h : RdW B T1 wr rb X st f lv rs mp) (hc : Chg T T1 w wr) (ho : StOk st) (hf : FOk st i f) (hi : i < st.later.length) (h0 : f.err = 0) :
    ∃ hj' : i < X.fl.length, ∃ K caps, X.fl[i] = .func (.func K) #[] caps ∧ Calls Tryz.prog K caps (wr.alloc (.cells #[.int .i64 (st.later[i].w.2.1 : Int), X.fl[i]] 84)) fun r u => r = .returned (.int .i64 (stpF st.fnd st.later[i] f).2) ∧ u.cell? ⟨wr.heap.size, 0, none⟩ = some (.int .i64 (st.later[i].w.2.1 : Int)) ∧
      ((stpF st.fnd st.later[i] f).2 = 0 → RdR B T w rb X st ((stpF st.fnd st.later[i] f).1.fail st.later[i].w.2.1 (stpF st.fnd st.later[i] f).2) lv u) ∧
      ((stpF st.fnd st.later[i] f).2 ≠ 0 → Calls Tryz.prog 27 #[ptr0 rb, .int .i64 (st.later[i].w.2.1 : Int), .int .i64 (stpF st.fnd st.later[i] f).2] u fun r w' => r = .returned (.tuple #[]) ∧ RdR B T w rb X st ((stpF st.fnd st.later[i] f).1.fail st.later[i].w.2.1 (stpF st.fnd st.later[i] f).2) lv w') := by
  obtain ⟨g, cap, hg, hj', c0, c1, hs⟩ := h.laterAt hi
  have hal := al' wr (.cells #[.int .i64 (st.later[i].w.2.1 : Int), X.fl[i]] 84)
  have cal := Chg.of_below (T := T1) hal
  have hm := List.getElem_mem hi
  have hle := trm_le st
  have hl1 := ho.l1
  have hl2 := ho.l2
  have hl3 := ho.l3
  have hfl := hf.l
  have hfp := hf.p
  obtain ⟨K, caps, hv, G⟩ := stepC (h.keep hal) ho.b (hs.keep cal) (ho.x _ hm) (fun e => by rw [hfp]; exact ho.p _ hm e) (by rw [hfl]; exact ho.t _) (fun j hj => Nat.le_trans (hf.r j hj) (by omega)) (by omega) (by omega)
  have herr : (stpF st.fnd st.later[i] f).1.err = f.err := by
    unfold stpF
    repeat (first | rfl | split)
  refine ⟨hj', K, caps, hv, G.mono ?_⟩
  rintro r u ⟨e, T2, rs2, mp2, hr2, hc2⟩
  have ib : Im T1 (wr.alloc (.cells #[.int .i64 (st.later[i].w.2.1 : Int), X.fl[i]] 84)) wr.heap.size (.cells #[.int .i64 (st.later[i].w.2.1 : Int), X.fl[i]] 84) := ⟨h.fresh (Nat.le_refl _), heap_new wr _⟩
  have cT := (hc.trans cal).trans hc2
  refine ⟨e, (ib.keep hc2).cell rfl, fun e0 => ?_, fun e0 => (giveW hr2 st.later[i].w.2.1 _ (by rw [herr]; exact h0)).mono ?_⟩
  · have e9 : (stpF st.fnd st.later[i] f).1.fail st.later[i].w.2.1 (stpF st.fnd st.later[i] f).2 = (stpF st.fnd st.later[i] f).1 := if_pos e0
    rw [e9]
    exact ⟨T2, rs2, mp2, hr2, cT⟩
  · rintro r w' ⟨e8, T3, rs3, mp3, hr3, hc3⟩
    have e9 : (stpF st.fnd st.later[i] f).1.fail st.later[i].w.2.1 (stpF st.fnd st.later[i] f).2 = { (stpF st.fnd st.later[i] f).1 with pl := st.later[i].w.2.1, err := (stpF st.fnd st.later[i] f).2 } := if_neg e0
    rw [e9]
    exact ⟨e8, T3, rs3, mp3, hr3, cT.trans hc3⟩

end Go.Proofs.YtcledgljbmepaaaGreat
