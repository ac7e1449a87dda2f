/- settle. The reader: then, addRule, addNont. The reader: once, levelled, symbol, prec: what is left to be done, as functions. The reader: start. -/
import Derived.Test.YtcledgljbmepaaaGreatJ21
import Derived.Test.YtcledgljbmepaaaGreatJ17
namespace Go.Proofs.YtcledgljbmepaaaGreat
open Go.RowKit Go.Maps

theorem stp_shape {T : Nat → Nat} {w : World} {rb : Nat} {v : Value} {s : Stp} (h : StpV T w rb v s) : ∃ fn cp, v = .func fn #[] cp := by
  rcases h with ⟨_, p, q, rfl, _⟩ | ⟨_, p, q, l, rfl, _⟩ | ⟨_, l, rfl, _⟩ | ⟨_, p, q, rfl, _⟩ | ⟨_, p, l, q, rfl, _⟩ | ⟨_, p, q, l, rfl, _⟩ <;> exact ⟨_, _, rfl⟩
theorem stp_K {T : Nat → Nat} {w : World} {rb K : Nat} {caps : Array Value} {s : Stp} (h : StpV T w rb (.func (.func K) #[] caps) s) : (K = 58 ∧ ∃ p q, caps = #[ptr0 p, ptr0 q]) ∨ (K = 61 ∧ ∃ p q l, caps = #[ptr0 p, ptr0 q, ptr0 l]) ∨ (K = 45 ∧ ∃ l, caps = #[ptr0 l]) ∨ (K = 46 ∧ ∃ p q, caps = #[ptr0 p, ptr0 q]) ∨ (K = 71 ∧ ∃ p l q, caps = #[ptr0 p, ptr0 l, ptr0 q]) ∨ (K = 72 ∧ ∃ p q l, caps = #[ptr0 p, ptr0 q, ptr0 l]) := by
  rcases h with ⟨_, p, q, e, _⟩ | ⟨_, p, q, l, e, _⟩ | ⟨_, l, e, _⟩ | ⟨_, p, q, e, _⟩ | ⟨_, p, l, q, e, _⟩ | ⟨_, p, q, l, e, _⟩
  all_goals
    injection e with e _ ec
    injection e with e
  · exact .inl ⟨e, p, q, ec⟩
  · exact .inr (.inl ⟨e, p, q, l, ec⟩)
  · exact .inr (.inr (.inl ⟨e, l, ec⟩))
  · exact .inr (.inr (.inr (.inl ⟨e, p, q, ec⟩)))
  · exact .inr (.inr (.inr (.inr (.inl ⟨e, p, l, q, ec⟩))))
  · exact .inr (.inr (.inr (.inr (.inr ⟨e, p, q, l, ec⟩))))
theorem setL_end {F : Txt → Ow} {l : List Stp} {f : FS} (h : f.err ≠ 0) : setL F l f = f := by
  cases l with
  | nil => rfl
  | cons s l => rw [setL, if_pos h]
theorem setL_step {F : Txt → Ow} {l : List Stp} {i : Nat} {f : FS} (hi : i < l.length) (h : f.err = 0) : setL F (l.drop i) f = setL F (l.drop (i + 1)) ((stpF F l[i] f).1.fail l[i].w.2.1 (stpF F l[i] f).2) := by
  rw [List.drop_eq_getElem_cons hi, setL, if_neg (fun e => e h)]
theorem fs_ok (st : RS) : FOk st 0 st.fs := by
  refine ⟨List.length_replicate, by show (st.prods.map _).length = _; rw [List.length_map], fun j hj => ?_⟩
  have hj' : j < (st.prods.map fun (l : Nat) => (⟨(l : Int) + (st.trm : Int), [], 0⟩ : Pd)).length := hj
  show ((st.prods.map fun (l : Nat) => (⟨(l : Int) + (st.trm : Int), [], 0⟩ : Pd))[j]'hj').right.length ≤ 0
  rw [List.getElem_map]
  exact Nat.le_refl _
/-- the world ahead of the loop over what is left -/
theorem startW {B rb N : Nat} {T T1 : Nat → Nat} {w wr : World} {X : RX} {st : RS} {lv : Value} {rs : List Value} (h : RdW B T1 wr rb X st (fsK st N st.trm st.prods.length) lv rs none) (hc : Chg T T1 w wr) (hN : N = st.trm + 1) :
    (st.nonts.length = 0 → RdR B T w rb X st st.fs lv wr) ∧ (0 < st.nonts.length → wr.cell? ⟨rb, 5, none⟩ = some (.int .i64 0) ∧ wr.frozen? ⟨rb, 5, none⟩ = false ∧ RdR B T w rb X st st.fs lv (wr.setCell ⟨rb, 5, none⟩ (.int .i64 ((st.trm : Int) + 1)))) := by
  subst hN
  have e1 : (fsK st (st.trm + 1) st.trm st.prods.length).levels = st.fs.levels := rfl
  have e2 : (fsK st (st.trm + 1) st.trm st.prods.length).prods = st.fs.prods := fsK_end st _ _
  refine ⟨fun h0 => ?_, fun h0 => ⟨blk_cell h.blk rfl, blk_frozen h.blk 5, ?_⟩⟩
  · have e9 : fsK st (st.trm + 1) st.trm st.prods.length = st.fs := by
      have e3 : st.fs = ⟨List.replicate (st.trm + 1) (0, 0), st.prods.map fun (l : Nat) => ⟨(l : Int) + (st.trm : Int), [], 0⟩, 0, st.pl, st.err⟩ := by unfold RS.fs; rw [if_neg (by omega)]
      rw [e3]
      have e4 := fsK_end st (st.trm + 1) st.trm
      unfold fsK at e4 ⊢
      unfold fs0
      dsimp only at e4 ⊢
      rw [e4]
    rw [e9] at h
    exact ⟨T1, rs, none, h, hc⟩
  · have hk : Kept (oneBlk rb) wr (wr.setCell ⟨rb, 5, none⟩ (.int .i64 ((st.trm : Int) + 1))) := (Kept.refl (oneBlk rb) wr).setCell (a := ⟨rb, 5, none⟩) (fun _ => rfl)
    have es : st.fs.start = (st.trm : Int) + 1 := by unfold RS.fs; exact if_pos h0
    have hb2 : (wr.setCell ⟨rb, 5, none⟩ (.int .i64 ((st.trm : Int) + 1))).heap[rb]? = some (rdK (rdC X lv st.levels st.starts st.fs) (.int .u32 (if (none : Option Nat) = none then 0 else 1)) (.int .i32 0) (.map none)) := by
      have h9 := heap_setCell (o := 5) (v := .int .i64 ((st.trm : Int) + 1)) h.blk
      rw [← es] at h9 ⊢
      exact h9
    obtain ⟨h2, c2⟩ := h.put (f' := st.fs) hk hb2 e1.symm e2.symm
    exact ⟨T1, rs, none, h2, hc.trans c2⟩

end Go.Proofs.YtcledgljbmepaaaGreat
namespace Go.Proofs.YtcledgljbmepaaaGreat
open Go.RowKit Go.Maps Go.Sort

theorem StpV.shape {T : Nat → Nat} {w : World} {rb : Nat} {v : Value} {s : Stp} (h : StpV T w rb v s) : ∃ fn cp, v = .func fn #[] cp := by
  rcases h with ⟨_, p, q, rfl, _⟩ | ⟨_, p, q, l, rfl, _⟩ | ⟨_, l, rfl, _⟩ | ⟨_, p, q, rfl, _⟩ | ⟨_, p, l, q, rfl, _⟩ | ⟨_, p, q, l, rfl, _⟩ <;> exact ⟨_, _, rfl⟩
set_option maxRecDepth 20000 in
set_option maxHeartbeats 4000000 in
theorem thnC {B rb : Nat} {T : Nat → Nat} {w : World} {X : RX} {st : RS} (h : RdV B T w rb X st) (s : Stp) (fv : Value) (hs : StpV T w rb fv s) (hn : st.later.length ≤ 100000) :
    Calls Tryz.prog 44 #[ptr0 rb, wdA s.w, fv] w fun r w' => r = .returned (.tuple #[]) ∧ RdP B T w rb (st.thn s) w' := by
  obtain ⟨fn, cp, rfl⟩ := hs.shape
  have hB1 := al' w (boxW s.w)
  have hv1 : (w.alloc (boxW s.w)).heap[w.heap.size]? = some (boxW s.w) := heap_new w _
  obtain ⟨W, hW⟩ : ∃ x, w.alloc (boxW s.w) = x := ⟨_, rfl⟩
  rw [hW] at hB1 hv1
  have h1 := h.keep hB1
  have hs1 := hs.keep (Chg.of_below hB1)
  have hbd : Below W.heap.size W W.drew := (Below.refl _ W).drew
  obtain ⟨a, c, w5, hrun, hbk, T', X', hR, hC⟩ := (h1.keep hbd).app_later s (.func fn #[] cp) (hs1.keep (Chg.of_below hbd)) hn
  have hP : Hid (RdP B T w rb (st.thn s) (w5.setCell ⟨rb, 15, none⟩ (.slice a (st.later.length + 1) c))) := hid ⟨T', X', hR, (Chg.of_below (bl_step hB1 hbd)).trans hC⟩
  have hbl : W.drew.heap[rb]? = some (rdO X st.levels st.starts st.pl st.err) := hs_keep h1.blk hbd
  have hb5 := hbk.trans hbl
  have c5 : w5.cell? ⟨rb, 15, none⟩ = some X.la := blk_cell hb5 rfl
  have f5 : w5.frozen? ⟨rb, 15, none⟩ = false := blk_frozen hb5 15
  have cd : W.drew.cell? ⟨rb, 15, none⟩ = some X.la := blk_cell hbl rfl
  have vd := (rd3 (hs_keep hv1 hbd)).2.1
  have hsd : W.drew.heap.size = W.heap.size := rfl
  rw [hsd] at hrun
  have hwa : W.drew.alloc (.cells #[.int .i64 (s.w.2.1 : Int), .func fn #[] cp] 84) = (W.alloc (.cells #[.int .i64 (s.w.2.1 : Int), .func fn #[] cp] 84)).drew := rfl
  rw [hwa] at hrun
  have hba : Below W.drew.heap.size W.drew (W.alloc (.cells #[.int .i64 (s.w.2.1 : Int), .func fn #[] cp] 84)).drew := al' W.drew _
  have ca := keep_cell hba cd
  have va := keep_cell hba vd
  clear hba hwa hsd hb5 hbl hR hC hbk hbd hs1 h1 hB1 hs h hv1
  generalize st.later.length = n at *
  generalize st.thn s = st2 at *
  generalize X.la = la at *
  generalize s.w = H at *
  obtain ⟨hk, hp, ht⟩ := H
  dsimp only at *
  go_enter Tryz.func44, Tryz.ntmps44
  go_wp2_with fail
  apply collapse
  case h =>
    intro rest
    go_region_law ((first
      | (refine step_run (by rfl) (.tmp 10) (.tmp 15) 68 (by rfl) _ _ (by rfl) (by rfl) hrun ?_)
      | fail))
    all_goals exact rest.out
  case pf =>
    go_wp2
    go_end0
    exact ⟨rfl, hP.out⟩
set_option maxRecDepth 20000 in
set_option maxHeartbeats 4000000 in
theorem addRT {B rb : Nat} {T : Nat → Nat} {w : World} {X : RX} {st : RS} (h : RdV B T w rb X st) (x : Wd) (hn : st.skips.length ≤ 100000) :
    Calls Tryz.prog 42 #[.pointer (some ⟨rb, 8, none⟩), wdA x, .bool true] w fun r w' => r = .returned (.tuple #[]) ∧ RdP B T w rb (st.addW x true) w' := by
  have hB1 := al' w (boxW x)
  have hv1 : (w.alloc (boxW x)).heap[w.heap.size]? = some (boxW x) := heap_new w _
  obtain ⟨W, hW⟩ : ∃ y, w.alloc (boxW x) = y := ⟨_, rfl⟩
  rw [hW] at hB1 hv1
  have h1 := h.keep hB1
  have hbd : Below W.heap.size W W.drew := (Below.refl _ W).drew
  obtain ⟨a, c, w5, hrun, hbk, T', X', hR, hC⟩ := (h1.keep hbd).app_skips x hn
  have hP : Hid (RdP B T w rb (st.addW x true) (w5.setCell ⟨rb, 8, none⟩ (.slice a (st.skips.length + 1) c))) := hid ⟨T', X', hR, (Chg.of_below (bl_step hB1 hbd)).trans hC⟩
  have hbl : W.drew.heap[rb]? = some (rdO X st.levels st.starts st.pl st.err) := hs_keep h1.blk hbd
  have hb5 := hbk.trans hbl
  have c5 : w5.cell? ⟨rb, 8, none⟩ = some X.sk := blk_cell hb5 rfl
  have f5 : w5.frozen? ⟨rb, 8, none⟩ = false := blk_frozen hb5 8
  have cd : W.drew.cell? ⟨rb, 8, none⟩ = some X.sk := blk_cell hbl rfl
  obtain ⟨v0, v1, v2, -, -⟩ := rd3 (hs_keep hv1 hbd)
  have hsd : W.drew.heap.size = W.heap.size := rfl
  rw [hsd] at hrun
  have hwa : W.drew.alloc (boxW x) = (W.alloc (boxW x)).drew := rfl
  rw [hwa] at hrun
  have hba : Below W.drew.heap.size W.drew (W.alloc (boxW x)).drew := al' W.drew _
  have ca := keep_cell hba cd
  have a0 := keep_cell hba v0
  have a1 := keep_cell hba v1
  have a2 := keep_cell hba v2
  clear hba hwa hsd hb5 hbl hR hC hbk hbd h1 hB1 h hv1
  generalize st.skips.length = n at *
  generalize st.addW x true = st2 at *
  generalize X.sk = la at *
  obtain ⟨hk, hp, ht⟩ := x
  dsimp only at *
  go_enter Tryz.func42, Tryz.ntmps42
  go_wp2_with fail
  apply collapse
  case h =>
    intro rest
    go_region_law ((first
      | (refine step_run (by rfl) (.tmp 11) (.tmp 13) 48 (by rfl) _ _ (by rfl) (by rfl) hrun ?_)
      | fail))
    all_goals exact rest.out
  case pf =>
    go_wp2
    go_end0
    exact ⟨rfl, hP.out⟩
set_option maxRecDepth 20000 in
set_option maxHeartbeats 4000000 in
theorem addRF {B rb : Nat} {T : Nat → Nat} {w : World} {X : RX} {st : RS} (h : RdV B T w rb X st) (x : Wd) (hn : st.terms.length ≤ 100000) :
    Calls Tryz.prog 42 #[.pointer (some ⟨rb, 8, none⟩), wdA x, .bool false] w fun r w' => r = .returned (.tuple #[]) ∧ RdP B T w rb (st.addW x false) w' := by
  have hB1 := al' w (boxW x)
  have hv1 : (w.alloc (boxW x)).heap[w.heap.size]? = some (boxW x) := heap_new w _
  obtain ⟨W, hW⟩ : ∃ y, w.alloc (boxW x) = y := ⟨_, rfl⟩
  rw [hW] at hB1 hv1
  have h1 := h.keep hB1
  have hbd : Below W.heap.size W W.drew := (Below.refl _ W).drew
  obtain ⟨a, c, w5, hrun, hbk, T', X', hR, hC⟩ := (h1.keep hbd).app_terms x hn
  have hP : Hid (RdP B T w rb (st.addW x false) (w5.setCell ⟨rb, 9, none⟩ (.slice a (st.terms.length + 1) c))) := hid ⟨T', X', hR, (Chg.of_below (bl_step hB1 hbd)).trans hC⟩
  have hbl : W.drew.heap[rb]? = some (rdO X st.levels st.starts st.pl st.err) := hs_keep h1.blk hbd
  have hb5 := hbk.trans hbl
  have c5 : w5.cell? ⟨rb, 9, none⟩ = some X.te := blk_cell hb5 rfl
  have f5 : w5.frozen? ⟨rb, 9, none⟩ = false := blk_frozen hb5 9
  have cd : W.drew.cell? ⟨rb, 9, none⟩ = some X.te := blk_cell hbl rfl
  obtain ⟨v0, v1, v2, -, -⟩ := rd3 (hs_keep hv1 hbd)
  have hsd : W.drew.heap.size = W.heap.size := rfl
  rw [hsd] at hrun
  have hwa : W.drew.alloc (boxW x) = (W.alloc (boxW x)).drew := rfl
  rw [hwa] at hrun
  have hba : Below W.drew.heap.size W.drew (W.alloc (boxW x)).drew := al' W.drew _
  have ca := keep_cell hba cd
  have a0 := keep_cell hba v0
  have a1 := keep_cell hba v1
  have a2 := keep_cell hba v2
  clear hba hwa hsd hb5 hbl hR hC hbk hbd h1 hB1 h hv1
  generalize st.terms.length = n at *
  generalize st.addW x false = st2 at *
  generalize X.te = la at *
  obtain ⟨hk, hp, ht⟩ := x
  dsimp only at *
  go_enter Tryz.func42, Tryz.ntmps42
  go_wp2_with fail
  apply collapse
  case h =>
    intro rest
    go_region_law ((first
      | (refine step_run (by rfl) (.tmp 21) (.tmp 23) 48 (by rfl) _ _ (by rfl) (by rfl) hrun ?_)
      | fail))
    all_goals exact rest.out
  case pf =>
    go_wp2
    go_end0
    exact ⟨rfl, hP.out⟩
set_option maxRecDepth 20000 in
set_option maxHeartbeats 4000000 in
theorem addNC {B rb : Nat} {T : Nat → Nat} {w : World} {X : RX} {st : RS} (h : RdV B T w rb X st) (x : Wd) (hn : st.nons.length ≤ 100000) :
    Calls Tryz.prog 51 #[.pointer (some ⟨rb, 8, none⟩), wdA x] w fun r w' => r = .returned (.tuple #[]) ∧ RdP B T w rb (st.addO x) w' := by
  have hB1 := al' w (boxW x)
  have hv1 : (w.alloc (boxW x)).heap[w.heap.size]? = some (boxW x) := heap_new w _
  obtain ⟨W, hW⟩ : ∃ y, w.alloc (boxW x) = y := ⟨_, rfl⟩
  rw [hW] at hB1 hv1
  have h1 := h.keep hB1
  have hbd : Below W.heap.size W W.drew := (Below.refl _ W).drew
  obtain ⟨a, c, w5, hrun, hbk, T', X', hR, hC⟩ := (h1.keep hbd).app_nons x hn
  have hP : Hid (RdP B T w rb (st.addO x) (w5.setCell ⟨rb, 10, none⟩ (.slice a (st.nons.length + 1) c))) := hid ⟨T', X', hR, (Chg.of_below (bl_step hB1 hbd)).trans hC⟩
  have hbl : W.drew.heap[rb]? = some (rdO X st.levels st.starts st.pl st.err) := hs_keep h1.blk hbd
  have hb5 := hbk.trans hbl
  have c5 : w5.cell? ⟨rb, 10, none⟩ = some X.no := blk_cell hb5 rfl
  have f5 : w5.frozen? ⟨rb, 10, none⟩ = false := blk_frozen hb5 10
  have cd : W.drew.cell? ⟨rb, 10, none⟩ = some X.no := blk_cell hbl rfl
  obtain ⟨v0, v1, v2, -, -⟩ := rd3 (hs_keep hv1 hbd)
  have hsd : W.drew.heap.size = W.heap.size := rfl
  rw [hsd] at hrun
  have hwa : W.drew.alloc (boxW x) = (W.alloc (boxW x)).drew := rfl
  rw [hwa] at hrun
  have hba : Below W.drew.heap.size W.drew (W.alloc (boxW x)).drew := al' W.drew _
  have ca := keep_cell hba cd
  have a0 := keep_cell hba v0
  have a1 := keep_cell hba v1
  have a2 := keep_cell hba v2
  clear hba hwa hsd hb5 hbl hR hC hbk hbd h1 hB1 h hv1
  generalize st.nons.length = n at *
  generalize st.addO x = st2 at *
  generalize X.no = la at *
  obtain ⟨hk, hp, ht⟩ := x
  dsimp only at *
  go_enter Tryz.func51, Tryz.ntmps51
  go_wp2_with fail
  apply collapse
  case h =>
    intro rest
    go_region_law ((first
      | (refine step_run (by rfl) (.tmp 8) (.tmp 10) 48 (by rfl) _ _ (by rfl) (by rfl) hrun ?_)
      | fail))
    all_goals exact rest.out
  case pf =>
    go_wp2
    go_end0
    exact ⟨rfl, hP.out⟩
set_option maxRecDepth 20000 in
theorem addRC {B rb : Nat} {T : Nat → Nat} {w : World} {X : RX} {st : RS} (h : RdV B T w rb X st) (x : Wd) (sk : Bool) (h1 : st.skips.length ≤ 100000) (h2 : st.terms.length ≤ 100000) :
    Calls Tryz.prog 42 #[.pointer (some ⟨rb, 8, none⟩), wdA x, .bool sk] w fun r w' => r = .returned (.tuple #[]) ∧ RdP B T w rb (st.addW x sk) w' := by
  cases sk
  · exact addRF h x h2
  · exact addRT h x h1

end Go.Proofs.YtcledgljbmepaaaGreat
namespace Go.Proofs.YtcledgljbmepaaaGreat
open Go.RowKit Go.Maps Go.Sort

theorem RdV.im {B rb b : Nat} {T : Nat → Nat} {w u : World} {X : RX} {st : RS} {o : Obj} (h : RdV B T w rb X st) (hb : w.heap.size ≤ b) (hu : u.heap[b]? = some o) : Im T u b o := ⟨h.fresh hb, hu⟩
set_option maxRecDepth 20000 in
set_option maxHeartbeats 4000000 in
theorem onceC {B rb : Nat} {T : Nat → Nat} {w : World} {X : RX} {st : RS} (h : RdV B T w rb X st) (x : Wd) (hn : st.later.length ≤ 100000) :
    Calls Tryz.prog 43 #[ptr0 rb, wdA x] w fun r w' => r = .returned (.tuple #[]) ∧ RdP B T w rb (st.once x) w' := by
  have hmf : ∀ (fn : Fn) (first cap : Array Value) (w : World), (Instr.makeFunc fn first cap).run Tryz.prog w = .ok (.func fn first cap) w := fun _ _ _ _ => rfl
  obtain ⟨W1, hW1⟩ : ∃ y, w.alloc (boxR rb) = y := ⟨_, rfl⟩
  have hz1 : W1.heap.size = w.heap.size + 1 := by rw [← hW1]; exact World.size_alloc ..
  have hB1 : Below w.heap.size w W1 := by rw [← hW1]; exact al' w _
  have hp1 : W1.heap[w.heap.size]? = some (boxR rb) := by rw [← hW1]; exact heap_new w _
  obtain ⟨W2, hW2⟩ : ∃ y, W1.alloc (boxW x) = y := ⟨_, rfl⟩
  have hB2 : Below W1.heap.size W1 W2 := by rw [← hW2]; exact al' W1 _
  have hq2 : W2.heap[w.heap.size + 1]? = some (boxW x) := by rw [← hW2, ← hz1]; exact heap_new W1 _
  have hB := bl_step hB1 hB2
  have hp2 := hs_keep hp1 hB2
  have h2 := h.keep hB
  have G := thnC h2 ⟨1, x, 0, 0⟩ (.func (.func 58) #[] #[ptr0 w.heap.size, ptr0 (w.heap.size + 1)]) (.inl ⟨rfl, _, _, rfl, h.im (Nat.le_refl _) hp2, h.im (by omega) hq2⟩) hn
  have G := hid (G.mono (R' := fun r w' => r = .returned (.tuple #[]) ∧ RdP B T w rb (st.once x) w') (fun r w' ⟨e, T', X', hr, hc⟩ => ⟨e, T', X', hr, (Chg.of_below hB).trans hc⟩))
  have y0 : W2.cell? ⟨w.heap.size, 0, none⟩ = some (ptr0 rb) := blk_cell hp2 rfl
  obtain ⟨v0, v1, v2, -, -⟩ := rd3 hq2
  clear h2 hB hB1 hB2 hp1 hp2 hq2 h
  generalize st.once x = st2 at *
  obtain ⟨hk, hp, ht⟩ := x
  try dsimp only at *
  go_enter Tryz.func43, Tryz.ntmps43
  go_wp2_with (go_at_call 44; refine G.out.mono ?_; clear G; rintro e w3 ⟨rfl, hP⟩; have hP := hid hP)
  go_end0
  exact ⟨rfl, hP.out⟩
set_option maxRecDepth 20000 in
set_option maxHeartbeats 4000000 in
theorem lvdC {B rb : Nat} {T : Nat → Nat} {w : World} {X : RX} {st : RS} (h : RdV B T w rb X st) (p s : Nat) (hn : st.later.length ≤ 100000) :
    Calls Tryz.prog 49 #[ptr0 rb, .agg #[.int .i64 (p : Int), .int .i64 (s : Int)]] w fun r w' => r = .returned (.tuple #[]) ∧ RdP B T w rb (st.lvd p s) w' := by
  have hmf : ∀ (fn : Fn) (first cap : Array Value) (w : World), (Instr.makeFunc fn first cap).run Tryz.prog w = .ok (.func fn first cap) w := fun _ _ _ _ => rfl
  obtain ⟨W1, hW1⟩ : ∃ y, w.alloc (boxR rb) = y := ⟨_, rfl⟩
  have hz1 : W1.heap.size = w.heap.size + 1 := by rw [← hW1]; exact World.size_alloc ..
  have hB1 : Below w.heap.size w W1 := by rw [← hW1]; exact al' w _
  have hp1 : W1.heap[w.heap.size]? = some (boxR rb) := by rw [← hW1]; exact heap_new w _
  obtain ⟨W2, hW2⟩ : ∃ y, W1.alloc (boxL p s) = y := ⟨_, rfl⟩
  have hB2 : Below W1.heap.size W1 W2 := by rw [← hW2]; exact al' W1 _
  have hq2 : W2.heap[w.heap.size + 1]? = some (boxL p s) := by rw [← hW2, ← hz1]; exact heap_new W1 _
  have hB := bl_step hB1 hB2
  have hp2 := hs_keep hp1 hB2
  have h2 := h.keep hB
  have G1 := hid (tkNC h2)
  have G2 : Hid (∀ u, (∃ wv, Mov B T W2 rb X st.tkN u wv) → u.cell? ⟨w.heap.size, 0, none⟩ = some (ptr0 rb) ∧ (u.alloc (boxW st.hd)).cell? ⟨w.heap.size, 0, none⟩ = some (ptr0 rb) ∧ Calls Tryz.prog 44 #[ptr0 rb, wdA st.hd, .func (.func 61) #[] #[ptr0 w.heap.size, ptr0 u.heap.size, ptr0 (w.heap.size + 1)]] (u.alloc (boxW st.hd)) fun r w' => r = .returned (.tuple #[]) ∧ RdP B T w rb (st.lvd p s) w') := hid (fun u hu => by
    obtain ⟨wv, hu⟩ := hu
    have hal := al' u (boxW st.hd)
    have hc := hu.chg.trans (Chg.of_below (T := T) hal)
    have iR0 := (h.im (Nat.le_refl _) hp2).keep hu.chg
    have iR := (h.im (Nat.le_refl _) hp2).keep hc
    have iL := (h.im (by omega) hq2).keep hc
    have iW : Im T (u.alloc (boxW st.hd)) u.heap.size (boxW st.hd) := hu.rd.im (Nat.le_refl _) (heap_new u _)
    have hl : st.tkN.later.length ≤ 100000 := by
      have : st.tkN.later = st.later := by unfold RS.tkN RS.take RS.give; split <;> (try split) <;> rfl
      rw [this]; exact hn
    refine ⟨iR0.cell rfl, iR.cell rfl, (thnC (hu.rd.keep hal) ⟨2, st.hd, p, s⟩ _ (.inr (.inl ⟨rfl, _, _, _, rfl, iR, iW, iL⟩)) hl).mono ?_⟩
    rintro r w' ⟨e, T', X', hr, hc'⟩
    exact ⟨e, T', X', hr, ((Chg.of_below hB).trans hc).trans hc'⟩)
  have y0 : W2.cell? ⟨w.heap.size, 0, none⟩ = some (ptr0 rb) := blk_cell hp2 rfl
  clear h2 hB hB1 hB2 hp1 hp2 hq2 h
  generalize st.tkN = st1 at *
  generalize st.lvd p s = st2 at *
  generalize st.hd = H at *
  obtain ⟨hk, hp, ht⟩ := H
  try dsimp only at *
  go_enter Tryz.func49, Tryz.ntmps49
  go_wp2_with (first
    | (go_at_call 39; refine G1.out.mono ?_; clear G1; rintro e u ⟨rfl, hu⟩; obtain ⟨z0, z1, G3⟩ := G2.out u hu; clear G2 hu; have G3 := hid G3; have z2 := heap_new u (boxW (hk, hp, ht)); obtain ⟨v0, v1, v2, -, -⟩ := rd3 z2; clear z2; obtain ⟨W4, hW4⟩ : ∃ y, u.alloc (boxW (hk, hp, ht)) = y := ⟨_, rfl⟩; rw [hW4] at z1 G3 v0 v1 v2; try dsimp only at hW4 v0 v1 v2)
    | (go_at_call 44; refine G3.out.mono ?_; clear G3; rintro e w3 ⟨rfl, hP⟩; have hP := hid hP))
  go_end0
  exact ⟨rfl, hP.out⟩
set_option maxRecDepth 20000 in
set_option maxHeartbeats 4000000 in
theorem symbC {B rb : Nat} {T : Nat → Nat} {w : World} {X : RX} {st : RS} (h : RdV B T w rb X st) (pr : Nat) (hn : st.later.length ≤ 100000) :
    Calls Tryz.prog 64 #[ptr0 rb, .int .i64 (pr : Int)] w fun r w' => r = .returned (.tuple #[]) ∧ RdP B T w rb (st.symb pr) w' := by
  have hmf : ∀ (fn : Fn) (first cap : Array Value) (w : World), (Instr.makeFunc fn first cap).run Tryz.prog w = .ok (.func fn first cap) w := fun _ _ _ _ => rfl
  obtain ⟨W1, hW1⟩ : ∃ y, w.alloc (boxR rb) = y := ⟨_, rfl⟩
  have hz1 : W1.heap.size = w.heap.size + 1 := by rw [← hW1]; exact World.size_alloc ..
  have hB1 : Below w.heap.size w W1 := by rw [← hW1]; exact al' w _
  have hp1 : W1.heap[w.heap.size]? = some (boxR rb) := by rw [← hW1]; exact heap_new w _
  obtain ⟨W2, hW2⟩ : ∃ y, W1.alloc (boxN pr) = y := ⟨_, rfl⟩
  have hB2 : Below W1.heap.size W1 W2 := by rw [← hW2]; exact al' W1 _
  have hq2 : W2.heap[w.heap.size + 1]? = some (boxN pr) := by rw [← hW2, ← hz1]; exact heap_new W1 _
  have hB := bl_step hB1 hB2
  have hp2 := hs_keep hp1 hB2
  have h2 := h.keep hB
  have G1 := hid (tkNC h2)
  have G2 : Hid (∀ u, (∃ wv, Mov B T W2 rb X st.tkN u wv) → u.cell? ⟨w.heap.size, 0, none⟩ = some (ptr0 rb) ∧ (u.alloc (boxW st.hd)).cell? ⟨w.heap.size, 0, none⟩ = some (ptr0 rb) ∧ Calls Tryz.prog 44 #[ptr0 rb, wdA st.hd, .func (.func 71) #[] #[ptr0 w.heap.size, ptr0 (w.heap.size + 1), ptr0 u.heap.size]] (u.alloc (boxW st.hd)) fun r w' => r = .returned (.tuple #[]) ∧ RdP B T w rb (st.symb pr) w') := hid (fun u hu => by
    obtain ⟨wv, hu⟩ := hu
    have hal := al' u (boxW st.hd)
    have hc := hu.chg.trans (Chg.of_below (T := T) hal)
    have iR0 := (h.im (Nat.le_refl _) hp2).keep hu.chg
    have iR := (h.im (Nat.le_refl _) hp2).keep hc
    have iL := (h.im (by omega) hq2).keep hc
    have iW : Im T (u.alloc (boxW st.hd)) u.heap.size (boxW st.hd) := hu.rd.im (Nat.le_refl _) (heap_new u _)
    have hl : st.tkN.later.length ≤ 100000 := by
      have : st.tkN.later = st.later := by unfold RS.tkN RS.take RS.give; split <;> (try split) <;> rfl
      rw [this]; exact hn
    refine ⟨iR0.cell rfl, iR.cell rfl, (thnC (hu.rd.keep hal) ⟨5, st.hd, pr, 0⟩ _ (.inr (.inr (.inr (.inr (.inl ⟨rfl, _, _, _, rfl, iR, iW, iL⟩))))) hl).mono ?_⟩
    rintro r w' ⟨e, T', X', hr, hc'⟩
    exact ⟨e, T', X', hr, ((Chg.of_below hB).trans hc).trans hc'⟩)
  have y0 : W2.cell? ⟨w.heap.size, 0, none⟩ = some (ptr0 rb) := blk_cell hp2 rfl
  clear h2 hB hB1 hB2 hp1 hp2 hq2 h
  generalize st.tkN = st1 at *
  generalize st.symb pr = st2 at *
  generalize st.hd = H at *
  obtain ⟨hk, hp, ht⟩ := H
  try dsimp only at *
  go_enter Tryz.func64, Tryz.ntmps64
  go_wp2_with (first
    | (go_at_call 39; refine G1.out.mono ?_; clear G1; rintro e u ⟨rfl, hu⟩; obtain ⟨z0, z1, G3⟩ := G2.out u hu; clear G2 hu; have G3 := hid G3; have z2 := heap_new u (boxW (hk, hp, ht)); obtain ⟨v0, v1, v2, -, -⟩ := rd3 z2; clear z2; obtain ⟨W4, hW4⟩ : ∃ y, u.alloc (boxW (hk, hp, ht)) = y := ⟨_, rfl⟩; rw [hW4] at z1 G3 v0 v1 v2; try dsimp only at hW4 v0 v1 v2)
    | (go_at_call 44; refine G3.out.mono ?_; clear G3; rintro e w3 ⟨rfl, hP⟩; have hP := hid hP))
  go_end0
  exact ⟨rfl, hP.out⟩
set_option maxRecDepth 20000 in
set_option maxHeartbeats 4000000 in
theorem precC {B rb : Nat} {T : Nat → Nat} {w : World} {X : RX} {st : RS} (h : RdV B T w rb X st) (pr : Nat) (hn : st.later.length ≤ 100000) :
    Calls Tryz.prog 65 #[ptr0 rb, .int .i64 (pr : Int)] w fun r w' => r = .returned (.tuple #[]) ∧ RdP B T w rb (st.prec pr) w' := by
  have hmf : ∀ (fn : Fn) (first cap : Array Value) (w : World), (Instr.makeFunc fn first cap).run Tryz.prog w = .ok (.func fn first cap) w := fun _ _ _ _ => rfl
  obtain ⟨W1, hW1⟩ : ∃ y, w.alloc (boxR rb) = y := ⟨_, rfl⟩
  have hz1 : W1.heap.size = w.heap.size + 1 := by rw [← hW1]; exact World.size_alloc ..
  have hB1 : Below w.heap.size w W1 := by rw [← hW1]; exact al' w _
  have hp1 : W1.heap[w.heap.size]? = some (boxR rb) := by rw [← hW1]; exact heap_new w _
  obtain ⟨W2, hW2⟩ : ∃ y, W1.alloc (boxN pr) = y := ⟨_, rfl⟩
  have hB2 : Below W1.heap.size W1 W2 := by rw [← hW2]; exact al' W1 _
  have hq2 : W2.heap[w.heap.size + 1]? = some (boxN pr) := by rw [← hW2, ← hz1]; exact heap_new W1 _
  have hB := bl_step hB1 hB2
  have hp2 := hs_keep hp1 hB2
  have h2 := h.keep hB
  have G1 := hid (tkNC h2)
  have G2 : Hid (∀ u, (∃ wv, Mov B T W2 rb X st.tkN u wv) → u.cell? ⟨w.heap.size, 0, none⟩ = some (ptr0 rb) ∧ (u.alloc (boxW st.hd)).cell? ⟨w.heap.size, 0, none⟩ = some (ptr0 rb) ∧ Calls Tryz.prog 44 #[ptr0 rb, wdA st.hd, .func (.func 72) #[] #[ptr0 w.heap.size, ptr0 u.heap.size, ptr0 (w.heap.size + 1)]] (u.alloc (boxW st.hd)) fun r w' => r = .returned (.tuple #[]) ∧ RdP B T w rb (st.prec pr) w') := hid (fun u hu => by
    obtain ⟨wv, hu⟩ := hu
    have hal := al' u (boxW st.hd)
    have hc := hu.chg.trans (Chg.of_below (T := T) hal)
    have iR0 := (h.im (Nat.le_refl _) hp2).keep hu.chg
    have iR := (h.im (Nat.le_refl _) hp2).keep hc
    have iL := (h.im (by omega) hq2).keep hc
    have iW : Im T (u.alloc (boxW st.hd)) u.heap.size (boxW st.hd) := hu.rd.im (Nat.le_refl _) (heap_new u _)
    have hl : st.tkN.later.length ≤ 100000 := by
      have : st.tkN.later = st.later := by unfold RS.tkN RS.take RS.give; split <;> (try split) <;> rfl
      rw [this]; exact hn
    refine ⟨iR0.cell rfl, iR.cell rfl, (thnC (hu.rd.keep hal) ⟨6, st.hd, pr, 0⟩ _ (.inr (.inr (.inr (.inr (.inr ⟨rfl, _, _, _, rfl, iR, iW, iL⟩))))) hl).mono ?_⟩
    rintro r w' ⟨e, T', X', hr, hc'⟩
    exact ⟨e, T', X', hr, ((Chg.of_below hB).trans hc).trans hc'⟩)
  have y0 : W2.cell? ⟨w.heap.size, 0, none⟩ = some (ptr0 rb) := blk_cell hp2 rfl
  clear h2 hB hB1 hB2 hp1 hp2 hq2 h
  generalize st.tkN = st1 at *
  generalize st.prec pr = st2 at *
  generalize st.hd = H at *
  obtain ⟨hk, hp, ht⟩ := H
  try dsimp only at *
  go_enter Tryz.func65, Tryz.ntmps65
  go_wp2_with (first
    | (go_at_call 39; refine G1.out.mono ?_; clear G1; rintro e u ⟨rfl, hu⟩; obtain ⟨z0, z1, G3⟩ := G2.out u hu; clear G2 hu; have G3 := hid G3; have z2 := heap_new u (boxW (hk, hp, ht)); obtain ⟨v0, v1, v2, -, -⟩ := rd3 z2; clear z2; obtain ⟨W4, hW4⟩ : ∃ y, u.alloc (boxW (hk, hp, ht)) = y := ⟨_, rfl⟩; rw [hW4] at z1 G3 v0 v1 v2; try dsimp only at hW4 v0 v1 v2)
    | (go_at_call 44; refine G3.out.mono ?_; clear G3; rintro e w3 ⟨rfl, hP⟩; have hP := hid hP))
  go_end0
  exact ⟨rfl, hP.out⟩

end Go.Proofs.YtcledgljbmepaaaGreat
namespace Go.Proofs.YtcledgljbmepaaaGreat
open Go.RowKit Go.Maps Go.Sort

theorem RS.tkN_later (st : RS) : st.tkN.later = st.later := by unfold RS.tkN RS.take RS.give; split <;> (try split) <;> rfl
theorem RS.tkS_later (st : RS) (t : Txt) : (st.tkS t).later = st.later := by unfold RS.tkS RS.take RS.give; split <;> (try split) <;> rfl
set_option maxRecDepth 20000 in
set_option maxHeartbeats 8000000 in
theorem startC {B rb : Nat} {T : Nat → Nat} {w : World} {X : RX} {st : RS} (h : RdV B T w rb X st) (hm : st.hd.1 ≠ 0) (hn : st.later.length ≤ 99990) (hs : st.starts ≤ 100000) :
    Calls Tryz.prog 30 #[ptr0 rb] w fun r w' => r = .returned (.tuple #[]) ∧ RdP B T w rb st.start w' := by
  have hmf : ∀ (fn : Fn) (first cap : Array Value) (w : World), (Instr.makeFunc fn first cap).run Tryz.prog w = .ok (.func fn first cap) w := fun _ _ _ _ => rfl
  obtain ⟨W1, hW1⟩ : ∃ y, w.alloc (boxR rb) = y := ⟨_, rfl⟩
  have hz1 : W1.heap.size = w.heap.size + 1 := by rw [← hW1]; exact World.size_alloc ..
  have hB1 : Below w.heap.size w W1 := by rw [← hW1]; exact al' w _
  have hp1 : W1.heap[w.heap.size]? = some (boxR rb) := by rw [← hW1]; exact heap_new w _
  have h1 := h.keep hB1
  obtain ⟨W2, hW2⟩ : ∃ y, W1.setCell ⟨rb, 7, none⟩ (.int .i64 ((st.starts : Int) + 1)) = y := ⟨_, rfl⟩
  have hk2 : Kept (oneBlk rb) W1 W2 := by rw [← hW2]; exact (Kept.refl (oneBlk rb) W1).setCell (a := ⟨rb, 7, none⟩) (fun _ => rfl)
  have hb2 : W2.heap[rb]? = some (rdO X st.levels (st.starts + 1) st.pl st.err) := by rw [← hW2]; exact heap_setCell h1.blk
  have h2 : RdV B T W2 rb X st.st1 := h1.put (hk2.mono (fun _ _ e => .inl e)) hb2 (h1.ws1 hk2) h1.wf rfl rfl rfl rfl rfl rfl rfl id rfl rfl rfl rfl rfl rfl rfl rfl rfl
  have c2 := (Chg.of_below (T := T) hB1).trans (h1.chg1 hk2)
  have hz2 : W2.heap.size = w.heap.size + 1 := by rw [← hW2]; simpa using hz1
  have i1 : Im T W1 w.heap.size (boxR rb) := h.im (Nat.le_refl _) hp1
  have i2 := i1.keep (h1.chg1 hk2)
  obtain ⟨bb, hbb⟩ : ∃ b : Bool, decide (1 < st.starts + 1) = b := ⟨_, rfl⟩
  obtain ⟨W3, hW3⟩ : ∃ y, W2.alloc (boxB bb) = y := ⟨_, rfl⟩
  have hB3 : Below W2.heap.size W2 W3 := by rw [← hW3]; exact al' W2 _
  have hq3 : W3.heap[W2.heap.size]? = some (boxB bb) := by rw [← hW3]; exact heap_new W2 _
  have h3 := (h2.keep hB3).keep ((Below.refl _ W3).drew)
  have c3 := c2.trans (Chg.of_below (T := T) (bl_step hB3 ((Below.refl _ W3).drew)))
  have i3 := i2.keep (Chg.of_below (T := T) hB3)
  have i3d := i3.keep (Chg.of_below (T := T) ((Below.refl _ W3).drew))
  have j3 : Im T W3.drew W2.heap.size (boxB bb) := ⟨h.fresh (by omega), hs_keep hq3 ((Below.refl _ W3).drew)⟩
  have hsa : (decide ((if 1 < st.starts + 1 then 1 else 0 : Nat) ≠ 0)) = bb := by
    rw [← hbb]
    split
    · rename_i h9; rw [decide_eq_true h9]; rfl
    · rename_i h9; rw [decide_eq_false h9]; rfl
  have GT : Hid (Calls Tryz.prog 38 #[ptr0 rb, .bool true] W3.drew fun r w' => r = .returned (wdA st.hd) ∧ ∃ wv, Mov B T W3.drew rb X (st.st1.take true) w' wv) := hid (takeC h3 true (fun _ => hm))
  have GA : Hid (∀ u, (∃ wv, Mov B T W3.drew rb X (st.st1.take true) u wv) → u.cell? ⟨w.heap.size, 0, none⟩ = some (ptr0 rb) ∧ Calls Tryz.prog 44 #[ptr0 rb, wdA st.hd, .func (.func 45) #[] #[ptr0 W2.heap.size]] u fun r w' => r = .returned (.tuple #[]) ∧ ∃ T' X', RdV B T' w' rb X' ((st.st1.take true).thn ⟨3, st.hd, if 1 < st.starts + 1 then 1 else 0, 0⟩) ∧ Chg T T' w w' ∧ w'.cell? ⟨w.heap.size, 0, none⟩ = some (ptr0 rb) ∧ Im T' w' w.heap.size (boxR rb)) := hid (fun u hu => by
    obtain ⟨wv, hu⟩ := hu
    have iu := i3d.keep hu.chg
    have ju := j3.keep hu.chg
    refine ⟨iu.cell rfl, (thnC hu.rd ⟨3, st.hd, if 1 < st.starts + 1 then 1 else 0, 0⟩ _ (.inr (.inr (.inl ⟨rfl, _, rfl, by rw [hsa]; exact ju⟩))) (by show st.later.length ≤ _; omega)).mono ?_⟩
    rintro r w' ⟨e, T', X', hr, hc'⟩
    have i9 := iu.keep hc'
    exact ⟨e, T', X', hr, (c3.trans hu.chg).trans hc', i9.cell rfl, i9⟩)
  have y1 : W1.cell? ⟨w.heap.size, 0, none⟩ = some (ptr0 rb) := i1.cell rfl
  have y2 : W2.cell? ⟨w.heap.size, 0, none⟩ = some (ptr0 rb) := i2.cell rfl
  have y3 : W3.cell? ⟨w.heap.size, 0, none⟩ = some (ptr0 rb) := i3.cell rfl
  have y3d : W3.drew.cell? ⟨w.heap.size, 0, none⟩ = some (ptr0 rb) := i3d.cell rfl
  have x7 : W1.cell? ⟨rb, 7, none⟩ = some (.int .i64 (st.starts : Int)) := blk_cell h1.blk rfl
  have f7 : W1.frozen? ⟨rb, 7, none⟩ = false := blk_frozen h1.blk 7
  have x7b : W2.cell? ⟨rb, 7, none⟩ = some (.int .i64 ((st.starts : Int) + 1)) := blk_cell hb2 rfl
  have hfin : Hid (st.start = ((((st.st1.take true).thn ⟨3, st.hd, if 1 < st.starts + 1 then 1 else 0, 0⟩).tkN.tkS [59]).thn ⟨4, ((st.st1.take true).thn ⟨3, st.hd, if 1 < st.starts + 1 then 1 else 0, 0⟩).hd, 0, 0⟩)) := hid rfl
  have hln : ((st.st1.take true).thn ⟨3, st.hd, if 1 < st.starts + 1 then 1 else 0, 0⟩).later.length ≤ 99999 := by
    show (st.later ++ [_]).length ≤ _
    rw [List.length_append, List.length_singleton]; omega
  have hstz : (st.starts : Int) ≤ 100000 := by omega
  have hbz : decide ((1 : Int) < (st.starts : Int) + 1) = bb := by
    rw [← hbb, Bool.eq_iff_iff, decide_eq_true_iff, decide_eq_true_iff]; omega
  clear hsa hbb i1 i2 i3 i3d j3 h3 h2 h1 hB3 hq3 hb2 hk2 hp1 hB1 hz1 hz2 c2 c3 h hn hs
  rw [hfin.out]
  clear hfin
  generalize (st.st1.take true).thn ⟨3, st.hd, if 1 < st.starts + 1 then 1 else 0, 0⟩ = sA at *
  generalize st.st1.take true = sB at *
  generalize st.starts = ns at *
  generalize hH : st.hd = H at *
  obtain ⟨hk, hp, ht⟩ := H
  try dsimp only at *
  clear hH hm
  have HL : Hid (∀ T1 X1 v, RdV B T1 v rb X1 sA → Chg T T1 w v → Im T1 v w.heap.size (boxR rb) → Calls Tryz.prog 39 #[ptr0 rb] v fun r u => r = .returned (wdA sA.hd) ∧ u.cell? ⟨w.heap.size, 0, none⟩ = some (ptr0 rb) ∧ ∃ wv, RdV B T1 u rb { X1 with wv := wv } sA.tkN ∧ Chg T T1 w u ∧ Im T1 u w.heap.size (boxR rb)) := hid (fun T1 X1 v hr hc iv => (tkNC hr).mono (fun r u ⟨e, wv, hM⟩ => ⟨e, (iv.keep hM.chg).cell rfl, wv, hM.rd, hc.trans hM.chg, iv.keep hM.chg⟩))
  have HS : Hid (∀ T1 X1 v, RdV B T1 v rb X1 sA.tkN → Chg T T1 w v → Im T1 v w.heap.size (boxR rb) → (v.alloc (boxW sA.hd)).cell? ⟨w.heap.size, 0, none⟩ = some (ptr0 rb) ∧ Calls Tryz.prog 41 #[ptr0 rb, .string ⟨#[59]⟩] (v.alloc (boxW sA.hd)) fun r u => r = .returned (.tuple #[]) ∧ (u.cell? ⟨w.heap.size, 0, none⟩ = some (ptr0 rb) ∧ u.heap[v.heap.size]? = some (boxW sA.hd)) ∧ Calls Tryz.prog 44 #[ptr0 rb, wdA sA.hd, .func (.func 46) #[] #[ptr0 w.heap.size, ptr0 v.heap.size]] u fun r w' => r = .returned (.tuple #[]) ∧ RdP B T w rb ((sA.tkN.tkS [59]).thn ⟨4, sA.hd, 0, 0⟩) w') := hid (fun T1 X1 v hr hc iv => by
    have hal := al' v (boxW sA.hd)
    have i5 := iv.keep (Chg.of_below (T := T1) hal)
    refine ⟨i5.cell rfl, (tkSC (hr.keep hal) [59]).mono ?_⟩
    rintro r u ⟨e, wv, hM⟩
    have i6 := i5.keep hM.chg
    have j6 : Im T1 u v.heap.size (boxW sA.hd) := (Im.keep (T := T1) ⟨hr.fresh (Nat.le_refl _), heap_new v _⟩ hM.chg)
    refine ⟨e, ⟨i6.cell rfl, j6.2⟩, (thnC hM.rd ⟨4, sA.hd, 0, 0⟩ _ (.inr (.inr (.inr (.inl ⟨rfl, _, _, rfl, i6, j6⟩)))) (by rw [RS.tkS_later, RS.tkN_later]; omega)).mono ?_⟩
    rintro r w' ⟨e', T', X', hr', hc'⟩
    exact ⟨e', T', X', hr', ((hc.trans (Chg.of_below hal)).trans hM.chg).trans hc'⟩)
  clear hln
  generalize (sA.tkN.tkS [59]).thn ⟨4, sA.hd, 0, 0⟩ = sF at *
  generalize sA.tkN = sC at *
  generalize hH : sA.hd = H at *
  obtain ⟨jk, jp, jt⟩ := H
  clear hH
  cases bb
  all_goals
    first
      | (have hlt : (1 : Int) < (ns : Int) + 1 := of_decide_eq_true hbz)
      | (have hlt : ¬ (1 : Int) < (ns : Int) + 1 := of_decide_eq_false hbz)
    clear hbz
    subst hW3
    go_enter Tryz.func30, Tryz.ntmps30
    go_wp2_with fail
    clear hW1 hW2
    generalize W2.alloc _ = W3 at *
    go_region_held3 (fun w' => w'.cell? ⟨w.heap.size, 0, none⟩ = some (ptr0 rb)) (go_keep) ((first
      | (go_at_call 38; refine GT.out.mono ?_; rintro e u ⟨rfl, hu⟩; obtain ⟨z0, G2⟩ := GA.out u hu; have G2 := hid G2; clear hu)
      | (go_at_call 44; refine G2.out.mono ?_; clear G2; rintro e v ⟨rfl, T1, X1, hr, hc, z1, iv⟩; have hr := hid hr; have hc := hid hc; have iv := hid iv)))
    all_goals
      go_wp2_with (first
        | (go_at_call 39; refine (HL.out _ _ _ hr.out hc.out iv.out).mono ?_; clear HL; rintro e u2 ⟨rfl, z2, wv, hr2, hc2, iv2⟩; obtain ⟨z3, G3⟩ := HS.out _ _ _ hr2 hc2 iv2; clear HS hr2 hc2 iv2; have G3 := hid G3; obtain ⟨W5, hW5⟩ : ∃ y, u2.alloc (boxW (jk, jp, jt)) = y := ⟨_, rfl⟩; rw [hW5] at z3 G3)
        | (go_at_call 41; refine G3.out.mono ?_; clear G3; rintro e u3 ⟨rfl, ⟨z4, z5⟩, G4⟩; have G4 := hid G4; obtain ⟨v0, v1, v2, -, -⟩ := rd3 z5; clear z5)
        | (go_at_call 44; refine G4.out.mono ?_; clear G4; rintro e u4 ⟨rfl, hP⟩; have hP := hid hP))
      go_end0
      exact ⟨rfl, hP.out⟩

end Go.Proofs.YtcledgljbmepaaaGreat
