/- topiarylaw09.wakes; Right of automata of any size. The arguments of layer 6's laws, opened: cells, and how many bytes they take. The arguments of layer 8's laws, opened: automata, rules. The arguments of layer 9's laws, opened: automata, and that what they accept is a number of the machine. -/
import Derived.Test.YtjelgphhlcecoaaGreatDoorJ35
import Derived.Test.YtjelgphhlcecoaaGreatDoorJ6
import Derived.Test.YtjelgphhlcecoaaGreatDoorJ25
import Derived.Test.YtjelgphhlcecoaaGreatDoorJ30
import Derived.ChangeSlices
import Derived.Deep.Slices
import Derived.WideKeyArr2
import Derived.SizedLaws
namespace Go.Proofs.YtjelgphhlcecoaaGreatDoor
open Go.RowKit Go.Maps

theorem rgtB_long {N : List (List Int)} {A : List Int} (h : 240 < N.length) : rgtB N A = false := by
  unfold rgtB
  rw [decide_eq_false (show ¬ N.length ≤ 240 by omega)]
  simp
set_option maxRecDepth 20000 in
theorem refRightA (nv av : Value) (N : List (List Int)) (A : List Int) (w : World) (hD : Dfa w nv av N A) (hl : N.length ≤ 9223372036854775807) :
    Calls Tryz.prog 13 #[.agg #[nv, av]] w fun e w' => e = .returned (.bool (rgtB N A)) ∧ Below w.heap.size w w' := by
  rcases Nat.lt_or_ge 1000 N.length with h | h
  · rw [rgtB_long (by omega)]
    obtain ⟨⟨na, nc, rfl⟩, ⟨aa, ac, rfl⟩⟩ := hD.shape
    have hal := hid (al' w (.cells #[.slice na N.length nc, .slice aa A.length ac] 25))
    obtain ⟨x0, x1, -⟩ := cells2m (heap_new w (.cells #[.slice na N.length nc, .slice aa A.length ac] 25))
    have h1 : ¬ (N.length : Int) < 1 := by omega
    have h2 : (240 : Int) < (N.length : Int) := by omega
    clear hD
    go_enter Tryz.func13, Tryz.ntmps13
    go_wp2
    go_ret
    exact ⟨rfl, hal.out⟩
  · exact refRight nv av N A w hD.nxt hD.acc h
set_option maxRecDepth 20000 in
theorem rightA (nv av : Value) (N : List (List Int)) (A : List Int) (w : World) (hD : Dfa w nv av N A) (hl : N.length ≤ 9223372036854775807) :
    Calls Tryz.prog 20 #[.agg #[nv, av]] w fun e w' => e = .returned (.bool (rgtB N A)) ∧ Below w.heap.size w w' := by
  rcases Nat.lt_or_ge 1000 N.length with h | h
  · rw [rgtB_long (by omega)]
    obtain ⟨⟨na, nc, rfl⟩, ⟨aa, ac, rfl⟩⟩ := hD.shape
    have hal := hid (al' w (.cells #[.slice na N.length nc, .slice aa A.length ac] 25))
    obtain ⟨x0, x1, -⟩ := cells2m (heap_new w (.cells #[.slice na N.length nc, .slice aa A.length ac] 25))
    have h1 : ¬ (N.length : Int) < 1 := by omega
    have h2 : (240 : Int) < (N.length : Int) := by omega
    clear hD
    go_enter Tryz.func20, Tryz.ntmps20
    go_wp2
    go_ret
    exact ⟨rfl, hal.out⟩
  · exact rightD nv av N A w hD.nxt hD.acc h
theorem wkAcc : AccW (accK wkL 3) := fun j => by
  rcases Nat.lt_or_ge j 3 with h | h
  · have e : acA (nxtK wkL 3) (accK wkL 3) j = (accK wkL 3).getD j 0 := by unfold acA; rw [wkN_len, if_neg (by omega)]
    rw [← e]
    match j, h with
    | 0, _ => rw [wkA_0]; omega
    | 1, _ => rw [wkA_1]; omega
    | 2, _ => rw [wkA_2]; omega
  · rw [List.getD_eq_getElem?_getD, List.getElem?_eq_none (by rw [accK_len]; exact h)]
    simp
theorem MkR.right {N : List (List Int)} {A : List Int} (hr : RgtA N A) {M : List (List Int)} {B : List Int} (h : MkR N A M B) : RgtA M B := by
  obtain ⟨al, m, h1, h2, rfl, rfl⟩ := h
  exact mk_right h1 hr h2
set_option maxRecDepth 20000 in
set_option maxHeartbeats 4000000 in
theorem wakes9 (w : World) (hT : Tab w) : Calls Tryz.prog 8 #[] w fun e w' => e = .returned (.bool true) ∧ Below w.heap.size w w' := by
  obtain ⟨W0, hW0⟩ : ∃ W0, w.alloc (.cells #[.string ⟨#[97, 124, 98]⟩, .string ⟨#[99]⟩] 9) = W0 := ⟨_, rfl⟩
  have hb0 : Hid (Below w.heap.size w W0) := by rw [← hW0]; exact hid (al' w _)
  have hg0 : Hid (W0.heap[w.heap.size]? = some (.cells #[.string ⟨#[97, 124, 98]⟩, .string ⟨#[99]⟩] 9 (0, 0))) := by rw [← hW0]; exact hid (heap_new w _)
  have GB := hid (builtEx w.heap.size W0 (hT.keep hb0.out) hg0.out)
  have GM : Hid (∀ nv av u, Numss u nv (nxtK wkL 3) → Nums u av (accK wkL 3) → Calls Tryz.prog 10 #[.agg #[nv, av]] u fun z w' => ∃ nv' av' M B, z = .returned (.tuple #[.agg #[nv', av'], .int .i64 0]) ∧ (M.length = 3 ∧ (M.getD 0 []).length = 256 ∧ (M.getD 0 []).getD 97 0 = 1 ∧ (M.getD 0 []).getD 98 0 = 1 ∧ (M.getD 0 []).getD 99 0 = 2 ∧ rgtB M B = true ∧ B.length = 3) ∧ Dfa w' nv' av' M B ∧ Below u.heap.size u w') := hid (fun nv av u h1 h2 => by
    refine (makeGood nv av _ _ u ⟨h1, h2⟩ wkL_right wkAcc).mono ?_
    rintro z w' ⟨nv', av', M, B, rfl, hR, hD, hb⟩
    obtain ⟨s1, s2, s3, s4, s5⟩ := wk_small hR
    exact ⟨_, _, M, B, rfl, ⟨s1, s2, s3, s4, s5, rgtB_of (hR.right wkL_right), by rw [← (hR.right wkL_right).len]; exact s1⟩, hD, hb⟩)
  generalize nxtK wkL 3 = N at *
  generalize accK wkL 3 = A at *
  clear hT
  go_enter Tryz.func8, Tryz.ntmps8
  go_wp2_with (first
    | (go_at_call 19; refine GB.out.mono ?_; rintro z w1 ⟨nv, av, rfl, hN, hA, hb1⟩; obtain ⟨na, nn, nc, rfl⟩ : (∃ a n c, nv = .slice a n c) := (by obtain ⟨a, c, e0, _⟩ := hN; exact ⟨a, _, c, e0⟩); obtain ⟨aa, an, ac, rfl⟩ : (∃ a n c, av = .slice a n c) := (by obtain ⟨a, c, e0, _⟩ := hA; exact ⟨a, _, c, e0⟩); have G1 := hid (GM.out _ _ w1 hN hA); have hb1 := hid hb1)
    | (go_at_call 10; refine G1.out.mono ?_; rintro z w2 ⟨nv', av', M, B, rfl, ⟨m1, m2, m3, m4, m5, m6, m7⟩, hD, hb2⟩; obtain ⟨⟨ma, mc, rfl⟩, ⟨ba, bc, rfl⟩⟩ := hD.shape; rw [m1] at hD; rw [m7] at hD; rw [m1, m7]; have hal2 := hid (al' w2 (.cells #[.slice ma 3 mc, .slice ba 3 bc] 25)); have hbk := hid (heap_new w2 (.cells #[.slice ma 3 mc, .slice ba 3 bc] 25)); have GR := hid (refRightA _ _ M B _ (hD.keep hal2.out) (by rw [m1]; omega)); rw [m6] at GR; obtain ⟨b1, o1, x, e1, hb1x, hc1, hN1⟩ := numss_get hD.nxt (j := 0) (by rw [m1]; omega); subst e1; obtain ⟨b2, o2, c2, e2, hb2x, hc2⟩ := nums_get hN1 (c := 97) (by rw [m2]; omega); obtain ⟨b3, o3, c3, e3, hb3x, hc3⟩ := nums_get hN1 (c := 98) (by rw [m2]; omega); obtain ⟨b4, o4, c4, e4, hb4x, hc4⟩ := nums_get hN1 (c := 99) (by rw [m2]; omega); rw [m3] at hc2; rw [m4] at hc3; rw [m5] at hc4; subst e2; cases e3; cases e4; rw [m2] at hc1; have hcs : Hid (∀ u, Below w2.heap.size w2 u → u.cell? ⟨b1, o1 + 0, none⟩ = some (.slice (some ⟨b2, o2, none⟩) 256 c2) ∧ u.cell? ⟨b2, o2 + 97, none⟩ = some (.int .i64 1) ∧ u.cell? ⟨b2, o2 + 98, none⟩ = some (.int .i64 1) ∧ u.cell? ⟨b2, o2 + 99, none⟩ = some (.int .i64 2)) := hid (fun u hu => ⟨keep_cell hu hc1, keep_cell hu hc2, keep_cell hu hc3, keep_cell hu hc4⟩); clear hN1 hc1 hc2 hc3 hc4 m1 m2 m3 m4 m5 m6 m7; obtain ⟨q0, q1, -⟩ := cells2m hbk.out; have hb2 := hid hb2)
    | (go_at_call 13; refine GR.out.mono ?_; rintro z w3 ⟨rfl, hb3⟩; have hb23 := hid (bl_step hal2.out hb3); obtain ⟨t1, t2, t3, t4⟩ := hcs.out w3 hb23.out; rw [Nat.add_zero] at t1; obtain ⟨p0, p1, -⟩ := cells2m (hs_keep hbk.out hb3)))
  go_ret
  exact ⟨rfl, bl_step (bl_step (bl_step hb0.out hb1.out) hb2.out) hb23.out⟩

end Go.Proofs.YtjelgphhlcecoaaGreatDoor
namespace Go.Proofs.YtjelgphhlcecoaaGreatDoor
open Go.ChangeShapes Go.WideShapes Go.ChangeAt Go.RowKit

instance : Inhabited W4 := ⟨⟨0, 0, 0, 0⟩⟩
instance : Inhabited Cel := ⟨⟨0, ⟨0, 0, 0, 0⟩⟩⟩

end Go.Proofs.YtjelgphhlcecoaaGreatDoor
namespace Go.Proofs.YtjelgphhlcecoaaGreatDoor
open Go.ChangeShapes Go.WideShapes Go.ChangeAt Go.RowKit

set_option maxRecDepth 20000 in
theorem Tryz.cellsOf23 : Tryz.prog.cellsOf 23 = 1 := by kernel_rfl
set_option maxRecDepth 20000 in
theorem Tryz.cellsOf22 : Tryz.prog.cellsOf 22 = 1 := by kernel_rfl
set_option maxRecDepth 20000 in
theorem nums_of_trod {H : Type} {enc : TypeId × Value → H} {W : World} {fuel : Nat} {cs : List Value} {x : DataW H × List MemPlace} (hf : DataW.trod enc Tryz.prog W 0 (fun _ => true) true fuel 23 cs = some x) :
    ∃ (l : List Int) (v : Value), cs = [v] ∧ Nums W v l ∧ l.length ≤ 9223372036854775807 := by
  rcases open_ints Tryz.underlying23 Tryz.underlying3 Tryz.cells3 hf with ⟨hcs, _⟩ | ⟨a, len, cap, zs, hcs, _, hl, hm, hz, _, hcells, hwf⟩
  · exact ⟨[], _, hcs, Nums.nil _, by simp⟩
  · have hz' : zs.length = cap := by simpa using hz
    have hlen : (zs.take len).length = len := by rw [List.length_take]; omega
    unfold maxLen at hm
    refine ⟨zs.take len, _, hcs, ⟨some a, cap, by rw [hlen], by omega, fun h => (by cases h), fun j hj => ?_⟩, by omega⟩
    have hj' : j < zs.length := by omega
    obtain ⟨b, off, rfl⟩ : ∃ b o, a = ⟨b, o, none⟩ := by
      have h0 := hcells 0 (by omega)
      obtain ⟨b, off, spot⟩ := a
      have hspot : spot = none := by simpa [Addr.add] using World.cell?_spot h0
      exact ⟨b, off, by rw [hspot]⟩
    have hc := hcells j hj'
    rw [Go.WideShapes.add_plain] at hc
    refine ⟨b, off, rfl, World.block_lt_of_cell? _ _ hc, ?_⟩
    rw [hc, List.getD_eq_getElem?_getD, List.getElem?_eq_getElem hj', List.getElem_take]; rfl
set_option maxRecDepth 20000 in
theorem lists_of_trod {H : Type} {enc : TypeId × Value → H} {W : World} {fuel : Nat} {cs : List Value} {x : DataW H × List MemPlace} (hf : DataW.trod enc Tryz.prog W 0 (fun _ => true) true fuel 22 cs = some x) :
    ∃ (ls : List (List Int)) (v : Value), cs = [v] ∧ Numss W v ls ∧ ls.length ≤ 9223372036854775807 ∧ ∀ l ∈ ls, l.length ≤ 9223372036854775807 := by
  rcases Deep.open_slice Tryz.underlying22 hf with ⟨hcs, _⟩ | ⟨a, len, cap, m, n, D, Pl, hcs, _, hl, hm, hmm, _, hx⟩
  · exact ⟨[], _, hcs, ⟨none, 0, rfl, Nat.le_refl _, fun _ => rfl, fun j hj => absurd hj (Nat.not_lt_zero _)⟩, by simp, fun l hl => absurd hl (List.not_mem_nil)⟩
  · have hm' : m = cap := by simpa using hmm
    have hone : ∀ i, i < len → ∃ e : Value × List Int, W.cell? (a.add i) = some e.1 ∧ Nums W e.1 e.2 ∧ e.2.length ≤ 9223372036854775807 := by
      intro i hi
      obtain ⟨cs', hc, ht⟩ := hx i (by omega)
      rw [Tryz.cellsOf23, Nat.mul_one] at hc
      obtain ⟨l, v, rfl, h1, h2⟩ := nums_of_trod ht
      refine ⟨(v, l), ?_, h1, h2⟩
      have hh := (World.cells?_some hc).2.2 0 (by omega)
      simpa [Addr.add] using hh
    obtain ⟨E, hE⟩ := Deep.choose_lt hone
    unfold maxLen at hm
    refine ⟨(List.range len).map (fun i => (E i).2), _, by rw [hcs], ⟨some a, cap, by simp, by simp; omega, fun h => (by cases h), fun j hj => ?_⟩, by simp; omega, fun l hl => ?_⟩
    · have hj' : j < len := by simpa using hj
      obtain ⟨b, off, rfl⟩ : ∃ b o, a = ⟨b, o, none⟩ := by
        have h0 := (hE 0 (by omega)).1
        obtain ⟨b, off, spot⟩ := a
        have hspot : spot = none := by simpa [Addr.add] using World.cell?_spot h0
        exact ⟨b, off, by rw [hspot]⟩
      have hc := (hE j hj').1
      rw [Go.WideShapes.add_plain] at hc
      refine ⟨b, off, (E j).1, rfl, World.block_lt_of_cell? _ _ hc, hc, ?_⟩
      simp only [List.getElem_map, List.getElem_range]
      exact (hE j hj').2.1
    · rw [List.mem_map] at hl
      obtain ⟨i, hi, rfl⟩ := hl
      rw [List.mem_range] at hi
      exact (hE i hi).2.2

set_option maxRecDepth 20000 in
theorem Tryz.cellsOf25 : Tryz.prog.cellsOf 25 = 2 := by kernel_rfl
end Go.Proofs.YtjelgphhlcecoaaGreatDoor
namespace Go.Proofs.YtjelgphhlcecoaaGreatDoor
open Go.ChangeShapes Go.WideShapes Go.ChangeAt Go.RowKit

set_option maxRecDepth 20000 in
theorem nums_of_trodW {H : Type} {enc : TypeId × Value → H} {W : World} {fuel : Nat} {cs : List Value} {x : DataW H × List MemPlace} (hf : DataW.trod enc Tryz.prog W 0 (fun _ => true) true fuel 23 cs = some x) :
    ∃ (l : List Int) (v : Value), cs = [v] ∧ Nums W v l ∧ l.length ≤ 9223372036854775807 ∧ AccW l := by
  rcases open_ints Tryz.underlying23 Tryz.underlying3 Tryz.cells3 hf with ⟨hcs, _⟩ | ⟨a, len, cap, zs, hcs, _, hl, hm, hz, _, hcells, hwf⟩
  · exact ⟨[], _, hcs, Nums.nil _, by simp, fun j => by simp⟩
  · have hz' : zs.length = cap := by simpa using hz
    have hlen : (zs.take len).length = len := by rw [List.length_take]; omega
    unfold maxLen at hm
    refine ⟨zs.take len, _, hcs, ⟨some a, cap, by rw [hlen], by omega, fun h => (by cases h), fun j hj => ?_⟩, by omega, fun j => ?_⟩
    · have hj' : j < zs.length := by omega
      obtain ⟨b, off, rfl⟩ : ∃ b o, a = ⟨b, o, none⟩ := by
        have h0 := hcells 0 (by omega)
        obtain ⟨b, off, spot⟩ := a
        have hspot : spot = none := by simpa [Addr.add] using World.cell?_spot h0
        exact ⟨b, off, by rw [hspot]⟩
      have hc := hcells j hj'
      rw [Go.WideShapes.add_plain] at hc
      refine ⟨b, off, rfl, World.block_lt_of_cell? _ _ hc, ?_⟩
      rw [hc, List.getD_eq_getElem?_getD, List.getElem?_eq_getElem hj', List.getElem_take]; rfl
    · rcases Nat.lt_or_ge j (zs.take len).length with hj | hj
      · have hj' : j < zs.length := by omega
        have e : (zs.take len).getD j 0 = zs.getD j 0 := by
          rw [List.getD_eq_getElem?_getD, List.getD_eq_getElem?_getD, List.getElem?_eq_getElem hj, List.getElem?_eq_getElem hj', List.getElem_take]
        rw [e]
        have hm' : zs.getD j 0 ∈ zs := by
          rw [List.getD_eq_getElem?_getD, List.getElem?_eq_getElem hj']
          exact List.getElem_mem hj'
        exact (bounds_i64 (hwf _ hm')).2
      · rw [List.getD_eq_getElem?_getD, List.getElem?_eq_none hj]
        simp
set_option maxRecDepth 20000 in
theorem open_dfaW {H : Type} {enc : TypeId × Value → H} {W : World} {v : Value} {d : DataW H} {q : List MemPlace} {base : Nat} (hv : Value.okWide Tryz.prog W .any base 25 v)
    (h : DataW.Trod enc Tryz.prog W 0 (fun _ => true) true 25 v d q) :
    ∃ (N : List (List Int)) (A : List Int) (nv av : Value), v = .agg #[nv, av] ∧ Dfa W nv av N A ∧ N.length ≤ 9223372036854775807 ∧ A.length ≤ 9223372036854775807 ∧ AccW A := by
  obtain ⟨cs, rfl, hcs⟩ := okWide_struct Tryz.underlying25 hv
  obtain ⟨fuel, hf⟩ := h
  rw [Tryz.cellsOf25] at hcs
  obtain ⟨y0, y1, m, _, _, t0, t1⟩ := trod_struct2 Tryz.underlying25 hf
  have hce : Value.cells (.agg cs) = cs := rfl
  rw [hce] at t0 t1
  obtain ⟨cl⟩ := cs
  match cl, hcs with
  | [c0, c1], _ =>
    have t0' : DataW.trod enc Tryz.prog W 0 (fun _ => true) true m 22 [c0] = some y0 := by simpa [Tryz.cellsOf22] using t0
    have t1' : DataW.trod enc Tryz.prog W 0 (fun _ => true) true m 23 [c1] = some y1 := by simpa [Tryz.cellsOf23, Tryz.cellsOf22] using t1
    obtain ⟨N, v0, e0, hN, l0, _⟩ := lists_of_trod t0'
    obtain ⟨A, v1, e1, hA, l1, hw⟩ := nums_of_trodW t1'
    simp only [List.cons.injEq, and_true] at e0 e1
    subst e0 e1
    exact ⟨N, A, c0, c1, rfl, ⟨hN, hA⟩, l0, l1, hw⟩

end Go.Proofs.YtjelgphhlcecoaaGreatDoor
