/- The arguments of layer 9's laws, opened: automata, and that what they accept is a number of the machine. -/
import Derived.Test.YtonlcnmlklaicaaGreatDoorJ34
import Derived.Test.YtonlcnmlklaicaaGreatDoorJ32
namespace Go.Proofs.YtonlcnmlklaicaaGreatDoor
open Go.ChangeShapes Go.WideShapes Go.ChangeAt Go.RowKit

set_option maxRecDepth 20000 in
theorem nums_of_trodW {H : Type} {enc : TypeId × Value → H} {W : World} {fuel : Nat} {cs : List Value} {x : DataW H × List MemPlace} (hf : DataW.trod enc Tryz.prog W 0 (fun _ => true) true fuel 23 cs = some x) :
    ∃ (l : List Int) (v : Value), cs = [v] ∧ Nums W v l ∧ l.length ≤ 9223372036854775807 ∧ AccW l := by
  rcases open_ints Tryz.underlying23 Tryz.underlying3 Tryz.cells3 hf with ⟨hcs, _⟩ | ⟨a, len, cap, zs, hcs, _, hl, hm, hz, _, hcells, hwf⟩
  · exact ⟨[], _, hcs, Nums.nil _, by simp, fun j => by simp⟩
  · have hz' : zs.length = cap := by simpa using hz
    have hlen : (zs.take len).length = len := by rw [List.length_take]; omega
    unfold maxLen at hm
    refine ⟨zs.take len, _, hcs, ⟨some a, cap, by rw [hlen], by omega, fun h => (by cases h), fun j hj => ?_⟩, by omega, fun j => ?_⟩
    · have hj' : j < zs.length := by omega
      obtain ⟨b, off, rfl⟩ : ∃ b o, a = ⟨b, o, none⟩ := by
        have h0 := hcells 0 (by omega)
        obtain ⟨b, off, spot⟩ := a
        have hspot : spot = none := by simpa [Addr.add] using World.cell?_spot h0
        exact ⟨b, off, by rw [hspot]⟩
      have hc := hcells j hj'
      rw [Go.WideShapes.add_plain] at hc
      refine ⟨b, off, rfl, World.block_lt_of_cell? _ _ hc, ?_⟩
      rw [hc, List.getD_eq_getElem?_getD, List.getElem?_eq_getElem hj', List.getElem_take]; rfl
    · rcases Nat.lt_or_ge j (zs.take len).length with hj | hj
      · have hj' : j < zs.length := by omega
        have e : (zs.take len).getD j 0 = zs.getD j 0 := by
          rw [List.getD_eq_getElem?_getD, List.getD_eq_getElem?_getD, List.getElem?_eq_getElem hj, List.getElem?_eq_getElem hj', List.getElem_take]
        rw [e]
        have hm' : zs.getD j 0 ∈ zs := by
          rw [List.getD_eq_getElem?_getD, List.getElem?_eq_getElem hj']
          exact List.getElem_mem hj'
        exact (bounds_i64 (hwf _ hm')).2
      · rw [List.getD_eq_getElem?_getD, List.getElem?_eq_none hj]
        simp
set_option maxRecDepth 20000 in
theorem open_dfaW {H : Type} {enc : TypeId × Value → H} {W : World} {v : Value} {d : DataW H} {q : List MemPlace} {base : Nat} (hv : Value.okWide Tryz.prog W .any base 25 v)
    (h : DataW.Trod enc Tryz.prog W 0 (fun _ => true) true 25 v d q) :
    ∃ (N : List (List Int)) (A : List Int) (nv av : Value), v = .agg #[nv, av] ∧ Dfa W nv av N A ∧ N.length ≤ 9223372036854775807 ∧ A.length ≤ 9223372036854775807 ∧ AccW A := by
  obtain ⟨cs, rfl, hcs⟩ := okWide_struct Tryz.underlying25 hv
  obtain ⟨fuel, hf⟩ := h
  rw [Tryz.cellsOf25] at hcs
  obtain ⟨y0, y1, m, _, _, t0, t1⟩ := trod_struct2 Tryz.underlying25 hf
  have hce : Value.cells (.agg cs) = cs := rfl
  rw [hce] at t0 t1
  obtain ⟨cl⟩ := cs
  match cl, hcs with
  | [c0, c1], _ =>
    have t0' : DataW.trod enc Tryz.prog W 0 (fun _ => true) true m 22 [c0] = some y0 := by simpa [Tryz.cellsOf22] using t0
    have t1' : DataW.trod enc Tryz.prog W 0 (fun _ => true) true m 23 [c1] = some y1 := by simpa [Tryz.cellsOf23, Tryz.cellsOf22] using t1
    obtain ⟨N, v0, e0, hN, l0, _⟩ := lists_of_trod t0'
    obtain ⟨A, v1, e1, hA, l1, hw⟩ := nums_of_trodW t1'
    simp only [List.cons.injEq, and_true] at e0 e1
    subst e0 e1
    exact ⟨N, A, c0, c1, rfl, ⟨hN, hA⟩, l0, l1, hw⟩

end Go.Proofs.YtonlcnmlklaicaaGreatDoor
