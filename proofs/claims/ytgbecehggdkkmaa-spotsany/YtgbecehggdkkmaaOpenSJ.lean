/- The arguments of SpotsAny, opened: spots. -/
import Derived.Test.YtgbecehggdkkmaaOpenJ
import Derived.Test.YtgbecehggdkkmaaJ21
namespace Go.Proofs.Ytgbecehggdkkmaa
open Go.ChangeShapes Go.WideShapes Go.ChangeAt Go.RowKit

set_option maxRecDepth 20000 in
theorem Try.cellsOf24 : Try.prog.cellsOf 24 = 1 := by kernel_rfl
set_option maxRecDepth 20000 in
theorem Try.cellsOf23 : Try.prog.cellsOf 23 = 1 := by kernel_rfl
set_option maxRecDepth 20000 in
theorem Try.cellsOf25 : Try.prog.cellsOf 25 = 1 := by kernel_rfl
set_option maxRecDepth 20000 in
theorem Try.cellsOf4 : Try.prog.cellsOf 4 = 1 := by kernel_rfl
set_option maxRecDepth 20000 in
theorem Try.cellsOf27 : Try.prog.cellsOf 27 = 5 := by kernel_rfl
theorem plain_of {W : World} {a : Addr} {x : Value} (h : W.cell? a = some x) : ∃ b o, a = ⟨b, o, none⟩ := by
  obtain ⟨b, off, spot⟩ := a
  have hs : spot = none := World.cell?_spot h
  exact ⟨b, off, by rw [hs]⟩

set_option maxRecDepth 20000 in
theorem nums_of_trod {H : Type} {enc : TypeId × Value → H} {W : World} {fuel : Nat} {cs : List Value} {x : DataW H × List MemPlace} (hf : DataW.trod enc Try.prog W 0 (fun _ => true) true fuel 24 cs = some x) :
    ∃ (l : List Int) (v : Value), cs = [v] ∧ Nums W v l ∧ l.length ≤ 9223372036854775807 := by
  rcases open_ints Try.underlying24 Try.underlying3 Try.cells3 hf with ⟨hcs, _⟩ | ⟨a, len, cap, zs, hcs, _, hl, hm, hz, _, hcells, hwf⟩
  · exact ⟨[], _, hcs, Nums.nil _, by simp⟩
  · have hz' : zs.length = cap := by simpa using hz
    have hlen : (zs.take len).length = len := by rw [List.length_take]; omega
    unfold maxLen at hm
    refine ⟨zs.take len, _, hcs, ⟨some a, cap, by rw [hlen], by omega, fun h => (by cases h), fun j hj => ?_⟩, by omega⟩
    have hj' : j < zs.length := by omega
    obtain ⟨b, off, rfl⟩ : ∃ b o, a = ⟨b, o, none⟩ := by
      have h0 := hcells 0 (by omega)
      obtain ⟨b, off, spot⟩ := a
      have hspot : spot = none := by simpa [Addr.add] using World.cell?_spot h0
      exact ⟨b, off, by rw [hspot]⟩
    have hc := hcells j hj'
    rw [Go.WideShapes.add_plain] at hc
    refine ⟨b, off, rfl, World.block_lt_of_cell? _ _ hc, ?_⟩
    rw [hc, List.getD_eq_getElem?_getD, List.getElem?_eq_getElem hj', List.getElem_take]; rfl
set_option maxRecDepth 20000 in
theorem sets_of_trod {H : Type} {enc : TypeId × Value → H} {W : World} {fuel : Nat} {cs : List Value} {x : DataW H × List MemPlace} (hf : DataW.trod enc Try.prog W 0 (fun _ => true) true fuel 23 cs = some x) :
    ∃ (l : List W4) (v : Value), cs = [v] ∧ Sets W v l ∧ l.length ≤ 9223372036854775807 := by
  rcases Deep.open_slice Try.underlying23 hf with ⟨hcs, _⟩ | ⟨a, len, cap, m, n, D, Pl, hcs, _, hl, hm, hmm, _, hx⟩
  · exact ⟨[], _, hcs, ⟨none, 0, rfl, Nat.le_refl _, fun _ => rfl, fun S hS => absurd hS (List.not_mem_nil), fun j hj => absurd hj (Nat.not_lt_zero _)⟩, by simp⟩
  · have hm' : m = cap := by simpa using hmm
    have hone : ∀ i, i < len → ∃ S : W4, Fit4 S ∧ (W.cell? ((a.add (i * 4)).add 0) = some (.int .u64 (S.a : Int)) ∧ W.cell? ((a.add (i * 4)).add 1) = some (.int .u64 (S.b : Int)) ∧ W.cell? ((a.add (i * 4)).add 2) = some (.int .u64 (S.c : Int)) ∧ W.cell? ((a.add (i * 4)).add 3) = some (.int .u64 (S.d : Int))) := by
      intro i hi
      obtain ⟨cs', hc, ht⟩ := hx i (by omega)
      rw [Try.cellsOf40] at hc
      obtain ⟨S, hF, rfl⟩ := set_of_trod ht
      have hh := (World.cells?_some hc).2.2
      exact ⟨S, hF, hh 0 (by omega), hh 1 (by omega), hh 2 (by omega), hh 3 (by omega)⟩
    obtain ⟨E, hE⟩ := Deep.choose_lt hone
    unfold maxLen at hm
    refine ⟨(List.range len).map E, _, by rw [hcs], ⟨some a, cap, by simp, by simp; omega, fun h => (by cases h), fun S hS => ?_, fun j hj => ?_⟩, by simp; omega⟩
    · rw [List.mem_map] at hS
      obtain ⟨i, hi, rfl⟩ := hS
      rw [List.mem_range] at hi
      exact (hE i hi).1
    · have hj' : j < len := by simpa using hj
      obtain ⟨b, off, rfl⟩ : ∃ b o, a = ⟨b, o, none⟩ := by
        have h0 := (hE 0 (by omega)).2.1
        obtain ⟨b, off, spot⟩ := a
        have hspot : spot = none := by simpa [Addr.add] using World.cell?_spot h0
        exact ⟨b, off, by rw [hspot]⟩
      have hc := (hE j hj').2
      simp only [Go.WideShapes.add_plain] at hc
      refine ⟨b, off, rfl, World.block_lt_of_cell? _ _ hc.1, ?_⟩
      simp only [List.getElem_map, List.getElem_range]
      exact hc
set_option maxRecDepth 20000 in
theorem lists_of_trod {H : Type} {enc : TypeId × Value → H} {W : World} {fuel : Nat} {cs : List Value} {x : DataW H × List MemPlace} (hf : DataW.trod enc Try.prog W 0 (fun _ => true) true fuel 25 cs = some x) :
    ∃ (ls : List (List Int)) (v : Value), cs = [v] ∧ Numss W v ls ∧ ls.length ≤ 9223372036854775807 ∧ ∀ l ∈ ls, l.length ≤ 9223372036854775807 := by
  rcases Deep.open_slice Try.underlying25 hf with ⟨hcs, _⟩ | ⟨a, len, cap, m, n, D, Pl, hcs, _, hl, hm, hmm, _, hx⟩
  · exact ⟨[], _, hcs, ⟨none, 0, rfl, Nat.le_refl _, fun _ => rfl, fun j hj => absurd hj (Nat.not_lt_zero _)⟩, by simp, fun l hl => absurd hl (List.not_mem_nil)⟩
  · have hm' : m = cap := by simpa using hmm
    have hone : ∀ i, i < len → ∃ e : Value × List Int, W.cell? (a.add i) = some e.1 ∧ Nums W e.1 e.2 ∧ e.2.length ≤ 9223372036854775807 := by
      intro i hi
      obtain ⟨cs', hc, ht⟩ := hx i (by omega)
      rw [Try.cellsOf24, Nat.mul_one] at hc
      obtain ⟨l, v, rfl, h1, h2⟩ := nums_of_trod ht
      refine ⟨(v, l), ?_, h1, h2⟩
      have hh := (World.cells?_some hc).2.2 0 (by omega)
      simpa [Addr.add] using hh
    obtain ⟨E, hE⟩ := Deep.choose_lt hone
    unfold maxLen at hm
    refine ⟨(List.range len).map (fun i => (E i).2), _, by rw [hcs], ⟨some a, cap, by simp, by simp; omega, fun h => (by cases h), fun j hj => ?_⟩, by simp; omega, fun l hl => ?_⟩
    · have hj' : j < len := by simpa using hj
      obtain ⟨b, off, rfl⟩ : ∃ b o, a = ⟨b, o, none⟩ := by
        have h0 := (hE 0 (by omega)).1
        obtain ⟨b, off, spot⟩ := a
        have hspot : spot = none := by simpa [Addr.add] using World.cell?_spot h0
        exact ⟨b, off, by rw [hspot]⟩
      have hc := (hE j hj').1
      rw [Go.WideShapes.add_plain] at hc
      refine ⟨b, off, (E j).1, rfl, World.block_lt_of_cell? _ _ hc, hc, ?_⟩
      simp only [List.getElem_map, List.getElem_range]
      exact (hE j hj').2.1
    · rw [List.mem_map] at hl
      obtain ⟨i, hi, rfl⟩ := hl
      rw [List.mem_range] at hi
      exact (hE i hi).2.2
set_option maxRecDepth 20000 in
theorem open_spots {H : Type} {enc : TypeId × Value → H} {W : World} {v : Value} {d : DataW H} {q : List MemPlace} {base : Nat} (hv : Value.okWide Try.prog W .any base 27 v)
    (h : DataW.Trod enc Try.prog W 0 (fun _ => true) true 27 v d q) :
    ∃ (p : Sp) (sv fv lv gv : Value), v = .agg #[sv, .bool p.null, fv, lv, gv] ∧ SpV W sv fv lv gv p ∧ p.sets.length ≤ 9223372036854775807 ∧ p.first.length ≤ 9223372036854775807 ∧ p.last.length ≤ 9223372036854775807 ∧ p.follow.length ≤ 9223372036854775807 ∧ ∀ l ∈ p.follow, l.length ≤ 9223372036854775807 := by
  obtain ⟨cs, rfl, hcs⟩ := okWide_struct Try.underlying27 hv
  obtain ⟨fuel, hf⟩ := h
  rw [Try.cellsOf27] at hcs
  obtain ⟨xs, n, _, _, hl, hlen, hfs⟩ := DataW.trod_struct Try.underlying27 hf
  have hce : Value.cells (.agg cs) = cs := rfl
  rw [hce] at hfs
  obtain ⟨cl⟩ := cs
  match cl, hcs with
  | [c0, c1, c2, c3, c4], _ =>
    match xs, hlen with
    | [y0, y1, y2, y3, y4], _ =>
      have t0 : DataW.trod enc Try.prog W 0 (fun _ => true) true n 23 [c0] = some y0 := by
        have h := hfs 0 _ rfl
        simpa [Try.cellsOf23] using h
      have t1 : DataW.trod enc Try.prog W 0 (fun _ => true) true n 4 [c1] = some y1 := by
        have h := hfs 1 _ rfl
        simpa [Try.cellsOf4] using h
      have t2 : DataW.trod enc Try.prog W 0 (fun _ => true) true n 24 [c2] = some y2 := by
        have h := hfs 2 _ rfl
        simpa [Try.cellsOf24] using h
      have t3 : DataW.trod enc Try.prog W 0 (fun _ => true) true n 24 [c3] = some y3 := by
        have h := hfs 3 _ rfl
        simpa [Try.cellsOf24] using h
      have t4 : DataW.trod enc Try.prog W 0 (fun _ => true) true n 25 [c4] = some y4 := by
        have h := hfs 4 _ rfl
        simpa [Try.cellsOf25] using h
      obtain ⟨S, v0, e0, hS, l0⟩ := sets_of_trod t0
      obtain ⟨b, e1, _⟩ := DataW.trod_bool Try.underlying4 t1
      obtain ⟨f, v2, e2, hf2, l2⟩ := nums_of_trod t2
      obtain ⟨l, v3, e3, hf3, l3⟩ := nums_of_trod t3
      obtain ⟨g, v4, e4, hg, l4, l5⟩ := lists_of_trod t4
      simp only [List.cons.injEq, and_true] at e0 e1 e2 e3 e4
      subst e0 e1 e2 e3 e4
      exact ⟨⟨S, b, f, l, g⟩, c0, c2, c3, c4, rfl, ⟨hS, hf2, hf3, hg⟩, l0, l2, l3, l4, l5⟩

end Go.Proofs.Ytgbecehggdkkmaa
