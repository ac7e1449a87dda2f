/- The contract of (*sets.index).fill. -/
import Derived.Test.YtklfcjgambdncaaDoorMem
import Derived.Test.YtklfcjgambdncaaDoorKey
import Derived.Test.YtklfcjgambdncaaDoorFindMath
import Derived.Maps.OwnSet
import Derived.Deep.RegionLaw
import Derived.Deep.DrawnRows
namespace Go.Proofs.YtklfcjgambdncaaDoor
open Go.RowKit Go.Maps

theorem law9 : Keyed Tryd.prog 9 := string_keyed Tryd.underlying9
theorem zero3 (w : World) : (zeroValue 3).run Tryd.prog w = .ok (.int .i64 0) w := by kernel_rfl

/-- a call at a step of a region that draws its order -/
theorem step_call {P : Program} {ops : Array Oper} {o : Oper} {a : Act} {w : World} {K : Act → World → Prop} {Q : Exit → Act → World → Prop} {E : Prop} (hgd : o.guard = none) (f : FuncId) (args : Array Value)
    (hrun : (execOp a.eval o).run P w = .ok (.enter f args) w) {R : Ending → World → Prop} (hc : Calls P f args w R) (h : ∀ e w', R e w' → ∃ v, e = .returned v ∧ K (a.put o.dst v) w') :
    if Region.wanted o (yielded ops a.tmps) = true then Oper.wp P o a w K Q else E := by
  have hw : Region.wanted o (yielded ops a.tmps) = true := by simp [Region.wanted, hgd]
  rw [if_pos hw]
  unfold Oper.wp
  rw [hrun, Oper.upon_enter]
  refine hc.mono fun e w' hr => ?_
  obtain ⟨v, rfl, hk⟩ := h e w' hr
  exact hk

theorem run_makeMap_hint (n : Int) (w : World) : (Instr.makeMap 43 (some (.int .i64 n))).run Tryd.prog w = .ok (.map (some w.heap.size)) (w.alloc (.map #[] 0)) := by
  simp [Instr.makeMap, run_underlying Tryd.underlying43, Result.andThen]
  rfl

theorem own_map_below {H : Type} {P : Program} {k : TypeId} {R : Value → Option (DataW H × List MemPlace)} {w w' : World} {b n : Nat} {D : DataW H} (h : w.ownsMap P k R b n D) (hb : Below w.heap.size w w') : w'.ownsMap P k R b n D := by
  have hlt := h.lt
  obtain ⟨es, clock, h1, F, hs, hD⟩ := h
  exact ⟨es, clock, (hb.block b hlt).trans h1, F, hs, hD⟩

attribute [local go_sem ↓] Go.wp_at_zero Go.wp_at_succ

set_option maxHeartbeats 4000000 in
theorem fillC {H : Type} (b : Nat) (av d s sm mp : Value) (ls : List (List Int)) (w0 w : World) (hn : ls.length ≤ 100) (hl : ∀ l ∈ ls, l.length ≤ 1000 ∧ Fit l) (hT : Tab w0) (hA : Lists w0 av ls) (h0 : Below w0.heap.size w0 w) (hb0 : w0.heap.size ≤ b)
    (hblk : w.heap[b]? = some (.cells #[av, d, s, sm, mp] 45 (0, 0))) :
    Calls Tryd.prog 17 #[.pointer (some ⟨b, 0, none⟩)] w fun e w' => e = .returned (.tuple #[]) ∧
      w'.heap[b]? = some (.cells #[av, d, s, sm, .map (some w.heap.size)] 45 (0, 0)) ∧ w'.ownsMap Tryd.prog 9 (plainElem (H := H) Tryd.prog 3) w.heap.size ls.length (dOf ls 0) ∧ Below b w w' := by
  have hmm := run_makeMap_hint
  have GK : Hid (∀ v l u, l.length ≤ 1000 → Fit l → Nums u v l → Tab u → Calls Tryd.prog 18 #[v] u fun e w' => e = .returned (.string ⟨(keyB l).toArray⟩) ∧ Below u.heap.size u w') := keyC
  obtain ⟨aa, ca, rfl, hA⟩ := hA
  have hA0 := hid hA
  have hT0 := hid hT
  clear hA hT
  go_enter Tryd.func17, Tryd.ntmps17
  have hb := blk_lt hblk
  have hblkA : (w.alloc (.map #[] 0)).heap[b]? = some (.cells #[.slice aa ls.length ca, d, s, sm, mp] 45 (0, 0)) := (Below.heap_alloc w _ b hb).trans hblk
  have c0 : w.cell? ⟨b, 0, none⟩ = some (.slice aa ls.length ca) := blk_cell hblk rfl
  have A0 : (w.alloc (.map #[] 0)).cell? ⟨b, 0, none⟩ = some (.slice aa ls.length ca) := blk_cell hblkA rfl
  have A4 : (w.alloc (.map #[] 0)).cell? ⟨b, 4, none⟩ = some mp := blk_cell hblkA rfl
  have F4 := blk_frozen hblkA 4
  have hblkS := heap_setCell (o := 4) (v := .map (some w.heap.size)) hblk
  have hblkB : Hid (((w.setCell ⟨b, 4, none⟩ (.map (some w.heap.size))).alloc (.map #[] 0)).heap[b]? = some (.cells #[.slice aa ls.length ca, d, s, sm, .map (some w.heap.size)] 45 (0, 0))) := hid ((Below.heap_alloc _ _ b (blk_lt hblkS)).trans hblkS)
  have hmapB : Hid (((w.setCell ⟨b, 4, none⟩ (.map (some w.heap.size))).alloc (.map #[] 0)).ownsMap Tryd.prog 9 (plainElem (H := H) Tryd.prog 3) w.heap.size 0 (.map [])) := hid (by
    have := World.ownsMap_made (H := H) (w.setCell ⟨b, 4, none⟩ (.map (some w.heap.size))) Tryd.prog 9 (plainElem (H := H) Tryd.prog 3)
    simpa using this)
  have hbelB : Below b w ((w.setCell ⟨b, 4, none⟩ (.map (some w.heap.size))).alloc (.map #[] 0)) := (((Below.refl _ w).mono (Nat.le_of_lt hb)).setCell (p := ⟨b, 4, none⟩) (Nat.le_refl _) _).alloc (by simp; omega) _
  clear hblkS
  clear hblk hblkA
  go_wp2
  clear c0 A0 A4 F4
  generalize (w.setCell ⟨b, 4, none⟩ (.map (some w.heap.size))).alloc (.map #[] 0) = W1 at hblkB hmapB hbelB ⊢
  go_loopw [2] (fun i wr => ∃ (k : Nat) (z : Int), k ≤ ls.length ∧ z = (k : Int) - 1 ∧ i = .int .i64 z ∧ Hid (wr.heap[b]? = some (.cells #[.slice aa ls.length ca, d, s, sm, .map (some w.heap.size)] 45 (0, 0))) ∧
      Hid (wr.ownsMap Tryd.prog 9 (plainElem (H := H) Tryd.prog 3) w.heap.size (ls.length - k) (dOf (ls.drop k) k)) ∧ Below b w wr) (fun i _ => (intOf i + 1).toNat)
  case atStart => exact ⟨ls.length, _, Nat.le_refl _, rfl, rfl, hblkB, by rw [List.drop_length, Nat.sub_self]; exact hmapB, hbelB⟩
  case round =>
    obtain ⟨k, z, hk, hz, rfl, hblk, hmap, hbl⟩ := hrel
    cases k with
    | zero =>
      have hz' : ¬ (0 : Int) ≤ z := by omega
      clear hz
      go_wp2
      go_end0
      exact ⟨rfl, hblk.out, hmap.out, hbl⟩
    | succ j =>
      have hj : j < ls.length := hk
      obtain rfl : z = (j : Int) := by omega
      clear hz
      have hz' : (0 : Int) ≤ (j : Int) := by omega
      have hjz : (j : Int) < (ls.length : Int) := by omega
      obtain ⟨b1, o1, vj, rfl, hb1, hc1, hN1⟩ := hA0.out j hj
      have h0r : Below w0.heap.size w0 wr := h0.trans (hbl.mono hb0)
      have hNr := hid (hN1.keep h0r)
      have hTr := hid (hT0.out.keep h0r)
      have cl := (h0r.cell hb1).trans hc1
      have c0 : wr.cell? ⟨b, 0, none⟩ = some (.slice (some ⟨b1, o1, none⟩) ls.length ca) := blk_cell hblk.out rfl
      have c4 : wr.cell? ⟨b, 4, none⟩ = some (.map (some w.heap.size)) := blk_cell hblk.out rfl
      have hlj := hl ls[j] (List.getElem_mem hj)
      have hstep := hid (dOf_step (H := H) hj)
      have hks := keyB_len ls[j] hlj.2
      have hkey : keyOf Tryd.prog 9 (.string ⟨(keyB ls[j]).toArray⟩) = some (.string (keyB ls[j])) := WideMaps.keyOf_string_mk Tryd.underlying9 (by show (keyB ls[j]).toArray.size ≤ maxLen; rw [List.size_toArray]; unfold maxLen; omega)
      have hkey := hid hkey
      have hval : plainElem (H := H) Tryd.prog 3 (.int .i64 (j : Int)) = some (.lit (.int .i64 j), []) := plainElem_int Tryd.underlying3 (WalkArith.wf_i64 (by omega))
      have hval := hid hval
      have hfit := hid hlj
      clear hc1 hN1 hlj hks
      generalize ls[j] = lj at hNr hstep hkey hfit
      go_wp2_with fail
      go_region_law ((first
        | (refine step_call (by rfl) 18 #[vj] (by go_simp) (GK.out vj lj _ hfit.out.1 hfit.out.2 (hNr.out.keep (Below.refl _ _).drew) (hTr.out.keep (Below.refl _ _).drew)) ?_; rintro e w1 ⟨rfl, hb1'⟩; refine ⟨_, rfl, ?_⟩; have hbw : Below wr.heap.size wr w1 := ((Below.refl wr.heap.size wr).drew.trans (show Below wr.heap.size wr.drew w1 from hb1')); have cl1 := (hbw.cell (Nat.lt_of_lt_of_le hb1 h0r.size)).trans cl; have hblk1 := (hbw.block b (blk_lt hblk.out)).trans hblk.out; have d0 : w1.cell? ⟨b, 0, none⟩ = some (.slice (some ⟨b1, o1, none⟩) ls.length ca) := blk_cell hblk1 rfl; have d4 : w1.cell? ⟨b, 4, none⟩ = some (.map (some w.heap.size)) := blk_cell hblk1 rfl; obtain ⟨w2, hrun, hown2, hg2⟩ := World.ownsMap.update (own_map_below hmap.out hbw) law9 Tryd.underlying43 (by unfold maxLen; omega) hkey.out hval.out)))
      all_goals
        go_wp2
        go_roundw
        case rel =>
          have s1 := hbl.size
          have s2 := hbw.size
          refine ⟨j, _, by omega, rfl, by go_num, hid ((hg2.block b (blk_lt hblk1) (by simp; omega)).trans hblk1), hid ?_, (hbl.trans (hbw.mono (by omega))).grown hg2 (by omega) (fun k hk => by cases hk; omega)⟩
          rw [hstep.out]
          exact hown2.mono (by omega)
        case measure => simp [intOf]

end Go.Proofs.YtklfcjgambdncaaDoor
