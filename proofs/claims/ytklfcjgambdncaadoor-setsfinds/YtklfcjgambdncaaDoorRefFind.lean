/- The contract of topiaryref04.Find; the arguments of SetsFinds, opened. -/
import Derived.Test.YtklfcjgambdncaaDoorMem
import Derived.Test.YtklfcjgambdncaaDoorFindMath
import Derived.Test.YtklfcjgambdncaaDoorOrder
import Derived.Deep.Slices
namespace Go.Proofs.YtklfcjgambdncaaDoor
open Go.RowKit Go.ChangeShapes Go.WideShapes Go.ChangeAt

set_option maxHeartbeats 1000000 in
theorem refFind (av vs : Value) (ls : List (List Int)) (s : List Int) (w : World) (hn : ls.length ≤ 100) (hl : ∀ l ∈ ls, l.length ≤ 1000) (hsl : s.length ≤ 1000) (hA : Lists w av ls) (hS : Nums w vs s) :
    Calls Tryd.prog 7 #[av, vs] w fun e w' => e = .returned (.int .i64 (findL ls s 0)) ∧ Below w.heap.size w w' := by
  have GS : Hid (∀ va l u, l.length ≤ 1000 → Nums u va l → Nums u vs s → Calls Tryd.prog 8 #[va, vs] u fun e w' => e = .returned (.bool (decide (l = s))) ∧ Below u.heap.size u w') := fun va l u h1 h2 h3 => refSame va vs l s u (by omega) (by omega) h2 h3
  obtain ⟨aa, ca, rfl, hA⟩ := hA
  have hA0 := hid hA
  have hS0 := hid hS
  clear hA hS
  obtain ⟨r, hr⟩ : ∃ r, Hid (findL ls s 0 = r) := ⟨_, hid rfl⟩
  rw [show findL ls s 0 = r from hr.out]
  go_enter Tryd.func7, Tryd.ntmps7
  go_wp2
  go_loopw [5] (fun i wr => ∃ k : Nat, k ≤ ls.length ∧ i = .int .i64 k ∧ Hid (r = findL (ls.drop k) s k) ∧ Below w.heap.size w wr) (fun i _ => ls.length - (intOf i).toNat)
  case atStart => exact ⟨0, Nat.zero_le _, rfl, hid (by rw [← hr.out]; rfl), Below.refl _ w⟩
  case round =>
    obtain ⟨k, hk, rfl, hf, hbl⟩ := hrel
    by_cases hlt : k < ls.length
    · have hltz : (k : Int) < (ls.length : Int) := by omega
      obtain ⟨b1, o1, vj, rfl, hb1, hc1, hN1⟩ := hA0.out k hlt
      have hd1 := (hbl.cell hb1).trans hc1
      have G := hid (GS.out vj ls[k] wr (hl _ (List.getElem_mem hlt)) (hN1.keep hbl) (hS0.out.keep hbl))
      have hat := hid (find_at (s := s) hlt)
      clear hc1 hN1
      by_cases he : ls[k] = s
      · rw [decide_eq_true he] at G
        have hres : r = (k : Int) := by rw [hf.out, hat.out, if_pos he]
        clear he hat hf
        go_wp2_with (go_at_call 8; refine (G.out).mono ?_; rintro e w1 ⟨rfl, hb1'⟩)
        go_ret
        exact ⟨by first | rfl | (rw [hres]; rfl), bl_step hbl hb1'⟩
      · rw [decide_eq_false he] at G
        have hf' : Hid (r = findL (ls.drop (k + 1)) s (k + 1)) := hid (by rw [hf.out, hat.out, if_neg he])
        clear he hat hf
        go_wp2_with (go_at_call 8; refine (G.out).mono ?_; rintro e w1 ⟨rfl, hb1'⟩)
        go_roundw
        case rel => exact ⟨k + 1, by omega, by go_num, hf', bl_step hbl hb1'⟩
        case measure => simp [intOf]; omega
    · have hltz : ¬ (k : Int) < (ls.length : Int) := by omega
      have hres : r = -1 := by rw [hf.out, find_end hlt]
      clear hf
      go_wp2
      go_ret
      exact ⟨by first | rfl | (rw [hres]; rfl), hbl⟩

theorem Tryd.cells23 : Tryd.prog.cellsOf 23 = 1 := by kernel_rfl

set_option maxRecDepth 100000 in
theorem nums_of_trod {H : Type} {enc : TypeId × Value → H} {W : World} {fuel : Nat} {cs : List Value} {x : DataW H × List MemPlace} (hf : DataW.trod enc Tryd.prog W 0 (fun _ => true) true fuel 23 cs = some x) :
    ∃ (l : List Int) (v : Value), cs = [v] ∧ Nums W v l ∧ l.length ≤ 9223372036854775807 ∧ Fit l := by
  rcases open_ints Tryd.underlying23 Tryd.underlying3 Tryd.cells3 hf with ⟨hcs, _⟩ | ⟨a, len, cap, zs, hcs, _, hl, hm, hz, _, hcells, hwf⟩
  · exact ⟨[], _, hcs, Nums.nil _, by simp, fun x hx => absurd hx (List.not_mem_nil)⟩
  · have hz' : zs.length = cap := by simpa using hz
    have hlen : (zs.take len).length = len := by rw [List.length_take]; omega
    unfold maxLen at hm
    refine ⟨zs.take len, _, hcs, ⟨some a, cap, by rw [hlen], by omega, fun h => (by cases h), fun j hj => ?_⟩, by omega, fun x hx => ?_⟩
    · have hj' : j < zs.length := by omega
      have hc := hcells j hj'
      obtain ⟨b, off, spot⟩ := a
      have hspot : spot = none := by simpa [Addr.add] using World.cell?_spot (hcells 0 (by omega))
      subst hspot
      rw [Go.WideShapes.add_plain] at hc
      refine ⟨b, off, rfl, World.block_lt_of_cell? _ _ hc, ?_⟩
      rw [hc, List.getD_eq_getElem?_getD, List.getElem?_eq_getElem hj', List.getElem_take]; rfl
    · exact bounds_i64 (hwf x (List.mem_of_mem_take hx))

set_option maxRecDepth 100000 in
theorem open_lists {H : Type} {enc : TypeId × Value → H} {W : World} {v : Value} {d : DataW H} {p : List MemPlace} {base : Nat} (hv : Value.okWide Tryd.prog W .any base 22 v)
    (h : DataW.Trod enc Tryd.prog W 0 (fun _ => true) true 22 v d p) :
    ∃ (ls : List (List Int)), Lists W v ls ∧ ls.length ≤ 9223372036854775807 ∧ ∀ l ∈ ls, l.length ≤ 9223372036854775807 ∧ Fit l := by
  obtain ⟨ao, len, cap, rfl⟩ := okWide_slice Tryd.underlying22 hv
  obtain ⟨fuel, hf⟩ := h
  rcases Deep.open_slice Tryd.underlying22 hf with ⟨hcs, _⟩ | ⟨a, len', cap', m, n, D, Pl, hcs, _, hl, hm, hmm, _, hx⟩
  · simp [Value.cells] at hcs
    obtain ⟨rfl, rfl, rfl⟩ := hcs
    exact ⟨[], ⟨none, 0, rfl, fun j hj => absurd hj (Nat.not_lt_zero _)⟩, by simp, fun l hl => absurd hl (List.not_mem_nil)⟩
  · simp [Value.cells] at hcs
    obtain ⟨rfl, rfl, rfl⟩ := hcs
    have hm' : m = cap := by simpa using hmm
    have hone : ∀ i, i < len → ∃ e : Value × List Int, W.cell? (a.add i) = some e.1 ∧ Nums W e.1 e.2 ∧ e.2.length ≤ 9223372036854775807 ∧ Fit e.2 := by
      intro i hi
      obtain ⟨cs', hc, ht⟩ := hx i (by omega)
      rw [Tryd.cells23, Nat.mul_one] at hc
      obtain ⟨l, v, rfl, h1, h2, h3⟩ := nums_of_trod ht
      exact ⟨(v, l), cell_of_cells?_one hc, h1, h2, h3⟩
    obtain ⟨E, hE⟩ := Deep.choose_lt hone
    unfold maxLen at hm
    refine ⟨(List.range len).map (fun i => (E i).2), ⟨some a, cap, by simp, fun j hj => ?_⟩, by simp; omega, fun l hl => ?_⟩
    · have hj' : j < len := by simpa using hj
      have hc := (hE j hj').1
      obtain ⟨b, off, spot⟩ := a
      have hspot : spot = none := by simpa [Addr.add] using World.cell?_spot (hE 0 (by omega)).1
      subst hspot
      rw [Go.WideShapes.add_plain] at hc
      refine ⟨b, off, (E j).1, rfl, World.block_lt_of_cell? _ _ hc, hc, ?_⟩
      simp only [List.getElem_map, List.getElem_range]
      exact (hE j hj').2.1
    · rw [List.mem_map] at hl
      obtain ⟨i, hi, rfl⟩ := hl
      rw [List.mem_range] at hi
      exact (hE i hi).2.2

end Go.Proofs.YtklfcjgambdncaaDoor
