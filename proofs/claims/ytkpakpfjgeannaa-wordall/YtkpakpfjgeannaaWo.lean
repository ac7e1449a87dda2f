/- The arguments of layer 11's laws, opened: words. -/
import Derived.Test.YtkpakpfjgeannaaWy
import Derived.Deep.Strs
namespace Go.Proofs.Ytkpakpfjgeannaa
open Go.ChangeShapes Go.WideShapes Go.ChangeAt Go.RowKit

set_option maxRecDepth 20000 in
theorem Try.cellsOfWd : Try.prog.cellsOf 32 = 3 := by kernel_rfl
set_option maxRecDepth 20000 in
theorem Try.cellsOfIn : Try.prog.cellsOf 3 = 1 := by kernel_rfl
set_option maxRecDepth 20000 in
theorem Try.cellsOfSt : Try.prog.cellsOf 9 = 1 := by kernel_rfl
instance : Inhabited Wz := ⟨(0, 0, [])⟩
theorem strT_of (s : ByteArray) : s = strT s.data.toList := by obtain ⟨⟨l⟩⟩ := s; rfl
set_option maxRecDepth 20000 in
theorem wz_of_trod {H : Type} {enc : TypeId × Value → H} {W : World} {fuel : Nat} {cs : List Value} {x : DataW H × List MemPlace} (hl : cs.length = 3) (hf : DataW.trod enc Try.prog W 0 (fun _ => true) true fuel 32 cs = some x) :
    ∃ z : Wz, z.2.2.length ≤ 9223372036854775807 ∧ cs = wzV z := by
  obtain ⟨y0, y1, y2, m, rfl, _, t0, t1, t2⟩ := Deep.trod_struct3 Try.underlying32 hf
  obtain ⟨z0, e0, _, _⟩ := DataW.trod_int Try.underlying3 t0
  obtain ⟨z1, e1, _, _⟩ := DataW.trod_int Try.underlying3 t1
  obtain ⟨s, e2, _, hs⟩ := DataW.trod_string Try.underlying9 t2
  match cs, hl with
  | [c0, c1, c2], _ =>
    simp [Try.cellsOfIn, Try.cellsOfSt] at e0 e1 e2
    subst e0 e1 e2
    refine ⟨(z0, z1, s.data.toList), ?_, ?_⟩
    · unfold maxLen at hs
      have : s.data.toList.length = s.size := by simp
      show s.data.toList.length ≤ _
      omega
    · show _ = [Value.int .i64 z0, .int .i64 z1, .string (strT s.data.toList)]
      rw [← strT_of]
set_option maxRecDepth 20000 in
theorem open_words {H : Type} {enc : TypeId × Value → H} {W : World} {v : Value} {d : DataW H} {p : List MemPlace} {base : Nat} (hv : Value.okWide Try.prog W .any base 24 v)
    (h : DataW.Trod enc Try.prog W 0 (fun _ => true) true 24 v d p) :
    ∃ l : List Wz, Wds W v l ∧ (∀ c, v = .slice none 0 c → c = 0) ∧ l.length ≤ 9223372036854775807 ∧ ∀ j, j < l.length → (l.getD j (0, 0, [])).2.2.length ≤ 9223372036854775807 := by
  obtain ⟨ao, len, cap, rfl⟩ := okWide_slice Try.underlying24 hv
  obtain ⟨fuel, hf⟩ := h
  rcases Deep.open_slice Try.underlying24 hf with ⟨hcs, _⟩ | ⟨a, len', cap', m, n, D, Pl, hcs, _, hl, hm, hmm, hxd, hx⟩
  · simp [Value.cells] at hcs
    obtain ⟨rfl, rfl, rfl⟩ := hcs
    exact ⟨[], ⟨none, 0, rfl, fun j hj => absurd hj (Nat.not_lt_zero _)⟩, fun c e => by injection e with _ _ e; exact e.symm, Nat.zero_le _, fun j hj => absurd hj (Nat.not_lt_zero _)⟩
  · simp [Value.cells] at hcs
    obtain ⟨rfl, rfl, rfl⟩ := hcs
    have hm' : m = cap := by simpa using hmm
    have hone : ∀ i, i < len → ∃ z : Wz, z.2.2.length ≤ 9223372036854775807 ∧ ∀ j, j < 3 → W.cell? ((a.add (i * 3)).add j) = (wzV z)[j]? := by
      intro i hi
      obtain ⟨cs', hc, ht⟩ := hx i (by omega)
      rw [Try.cellsOfWd] at hc
      have hcl := (World.cells?_some hc).2.1
      obtain ⟨z, hF, hcc⟩ := wz_of_trod hcl ht
      refine ⟨z, hF, fun j hj => ?_⟩
      rw [(World.cells?_some hc).2.2 j hj, hcc]
    obtain ⟨E, hE⟩ := Deep.choose_lt hone
    have hg : ∀ j, j < len → ((List.range len).map E).getD j (0, 0, []) = E j := fun j hj => by
      rw [List.getD_eq_getElem?_getD, List.getElem?_map, List.getElem?_range hj]; rfl
    unfold maxLen at hm
    refine ⟨(List.range len).map E, ⟨some a, cap, by simp, fun j hj => ?_⟩, fun c e => (by cases e), by simp; omega, fun j hj => ?_⟩
    · have hj' : j < len := by simpa using hj
      have hc := (hE j hj').2
      obtain ⟨b, off, spot⟩ := a
      have hspot : spot = none := by
        have h0 := (hE 0 (by omega)).2 0 (by omega)
        simpa [Addr.add] using World.cell?_spot (h0.trans (show (wzV (E 0))[0]? = some _ from rfl))
      subst hspot
      simp only [Go.WideShapes.add_plain] at hc
      rw [hg j hj']
      exact ⟨b, off, rfl, World.block_lt_of_cell? _ _ (hc 0 (by omega)), hc 0 (by omega), hc 1 (by omega), hc 2 (by omega)⟩
    · have hj' : j < len := by simpa using hj
      rw [hg j hj']
      exact (hE j hj').1

end Go.Proofs.Ytkpakpfjgeannaa
