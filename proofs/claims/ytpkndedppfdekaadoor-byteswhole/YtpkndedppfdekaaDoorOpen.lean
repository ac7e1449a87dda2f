/- The arguments of layer 5's laws, opened. -/
import Derived.Test.YtpkndedppfdekaaDoorOwn4
import Derived.ChangeSlices
import Derived.Deep.Slices
import Derived.WideKeyArr2
namespace Go.Proofs.YtpkndedppfdekaaDoor
open Go.ChangeShapes Go.WideShapes Go.ChangeAt Go.RowKit

theorem Tryd.cellsOf25 : Tryd.prog.cellsOf 25 = 4 := by kernel_rfl
theorem bound_u64 {n : Int} (h : (Lit.int .u64 n).wf = true) : 0 ≤ n ∧ n < 18446744073709551616 := by
  have h1 : IntKind.u64.min = 0 := by decide
  have h2 : IntKind.u64.max = 18446744073709551615 := by decide
  simp [Lit.wf] at h
  omega
theorem bound_u8 {n : Int} (h : (Lit.int .u8 n).wf = true) : 0 ≤ n ∧ n < 256 := by
  have h1 : IntKind.u8.min = 0 := by decide
  have h2 : IntKind.u8.max = 255 := by decide
  simp [Lit.wf] at h
  omega
instance : Inhabited W4 := ⟨⟨0, 0, 0, 0⟩⟩

set_option maxRecDepth 100000 in
theorem set_of_trod {H : Type} {enc : TypeId × Value → H} {W : World} {fuel : Nat} {cs : List Value} {x : DataW H × List MemPlace} (hf : DataW.trod enc Tryd.prog W 0 (fun _ => true) true fuel 25 cs = some x) :
    ∃ S : W4, Fit4 S ∧ cs = [.int .u64 (S.a : Int), .int .u64 (S.b : Int), .int .u64 (S.c : Int), .int .u64 (S.d : Int)] := by
  cases fuel with
  | zero => simp [DataW.trod] at hf
  | succ m =>
    rw [DataW.trod_step] at hf
    unfold DataW.trodStep at hf
    simp only [Tryd.underlying25, Tryd.cellsOf25, Tryd.cells23] at hf
    split at hf
    case isFalse => cases hf
    rename_i hlen
    simp only [Option.map_eq_some_iff] at hf
    obtain ⟨ys, hy, _⟩ := hf
    rw [show List.range 4 = [0, 1, 2, 3] from rfl] at hy
    simp only [List.mapM_cons, List.mapM_nil, bind, Option.bind_eq_some_iff, pure] at hy
    obtain ⟨y0, h0, z0, ⟨y1, h1, z1, ⟨y2, h2, z2, ⟨y3, h3, _⟩, _⟩, _⟩, _⟩ := hy
    obtain ⟨n0, e0, _, w0⟩ := DataW.trod_int Tryd.underlying23 h0
    obtain ⟨n1, e1, _, w1⟩ := DataW.trod_int Tryd.underlying23 h1
    obtain ⟨n2, e2, _, w2⟩ := DataW.trod_int Tryd.underlying23 h2
    obtain ⟨n3, e3, _, w3⟩ := DataW.trod_int Tryd.underlying23 h3
    match cs, hlen with
    | [c0, c1, c2, c3], _ =>
      simp at e0 e1 e2 e3
      subst e0 e1 e2 e3
      have b0 := bound_u64 w0
      have b1 := bound_u64 w1
      have b2 := bound_u64 w2
      have b3 := bound_u64 w3
      refine ⟨⟨n0.toNat, n1.toNat, n2.toNat, n3.toNat⟩, ⟨?_, ?_, ?_, ?_⟩, ?_⟩
      · simp only; omega
      · simp only; omega
      · simp only; omega
      · simp only; omega
      · simp only [Int.toNat_of_nonneg b0.1, Int.toNat_of_nonneg b1.1, Int.toNat_of_nonneg b2.1, Int.toNat_of_nonneg b3.1]
theorem open_set {H : Type} {enc : TypeId × Value → H} {W : World} {v : Value} {d : DataW H} {p : List MemPlace} {base : Nat} (hv : Value.okWide Tryd.prog W .any base 25 v)
    (h : DataW.Trod enc Tryd.prog W 0 (fun _ => true) true 25 v d p) : ∃ a b c e : Nat, Fit4 ⟨a, b, c, e⟩ ∧ v = valB ⟨a, b, c, e⟩ := by
  have hs : ∃ xs : Array Value, v = .agg xs := by
    simp only [Value.okWide, Tryd.underlying25] at hv
    obtain ⟨cs, h1, _⟩ := hv
    exact ⟨cs, h1⟩
  obtain ⟨xs, rfl⟩ := hs
  obtain ⟨fuel, hf⟩ := h
  obtain ⟨⟨a, b, c, e⟩, hF, hc⟩ := set_of_trod hf
  refine ⟨a, b, c, e, hF, ?_⟩
  simp only [Value.cells] at hc
  unfold valB
  congr 1
  exact Array.toList_inj.1 hc
theorem open_byte {H : Type} {enc : TypeId × Value → H} {W : World} {v : Value} {d : DataW H} {p : List MemPlace} {base : Nat} (hv : Value.okWide Tryd.prog W .any base 5 v)
    (h : DataW.Trod enc Tryd.prog W 0 (fun _ => true) true 5 v d p) : ∃ x : Nat, x < 256 ∧ v = .int .u8 (x : Int) := by
  obtain ⟨n, rfl, _, _, hw⟩ := open_int Tryd.underlying5 hv h
  have := bound_u8 hw
  exact ⟨n.toNat, by omega, by rw [Int.toNat_of_nonneg this.1]⟩

set_option maxRecDepth 100000 in
theorem open_sets {H : Type} {enc : TypeId × Value → H} {W : World} {v : Value} {d : DataW H} {p : List MemPlace} {base : Nat} (hv : Value.okWide Tryd.prog W .any base 36 v)
    (h : DataW.Trod enc Tryd.prog W 0 (fun _ => true) true 36 v d p) :
    ∃ l : List W4, Sets W v l ∧ l.length ≤ 9223372036854775807 := by
  obtain ⟨ao, len, cap, rfl⟩ := okWide_slice Tryd.underlying36 hv
  obtain ⟨fuel, hf⟩ := h
  rcases Deep.open_slice Tryd.underlying36 hf with ⟨hcs, _⟩ | ⟨a, len', cap', m, n, D, Pl, hcs, _, hl, hm, hmm, _, hx⟩
  · simp [Value.cells] at hcs
    obtain ⟨rfl, rfl, rfl⟩ := hcs
    exact ⟨[], ⟨none, 0, rfl, Nat.le_refl _, fun _ => rfl, fun S hS => absurd hS (List.not_mem_nil), fun j hj => absurd hj (Nat.not_lt_zero _)⟩, by simp⟩
  · simp [Value.cells] at hcs
    obtain ⟨rfl, rfl, rfl⟩ := hcs
    have hm' : m = cap := by simpa using hmm
    have hone : ∀ i, i < len → ∃ S : W4, Fit4 S ∧ ∀ j, j < 4 → W.cell? ((a.add (i * 4)).add j) = some (wordV S j) := by
      intro i hi
      obtain ⟨cs', hc, ht⟩ := hx i (by omega)
      rw [Tryd.cellsOf25] at hc
      obtain ⟨S, hF, rfl⟩ := set_of_trod ht
      refine ⟨S, hF, fun j hj => ?_⟩
      rw [(World.cells?_some hc).2.2 j hj]
      have h4 : j = 0 ∨ j = 1 ∨ j = 2 ∨ j = 3 := by omega
      rcases h4 with rfl | rfl | rfl | rfl <;> rfl
    obtain ⟨E, hE⟩ := Deep.choose_lt hone
    unfold maxLen at hm
    refine ⟨(List.range len).map E, ⟨some a, cap, by simp, by simp; omega, fun h => (by cases h), fun S hS => ?_, fun j hj => ?_⟩, by simp; omega⟩
    · rw [List.mem_map] at hS
      obtain ⟨i, hi, rfl⟩ := hS
      rw [List.mem_range] at hi
      exact (hE i hi).1
    · have hj' : j < len := by simpa using hj
      have hc := (hE j hj').2
      obtain ⟨b, off, spot⟩ := a
      have hspot : spot = none := by simpa [Addr.add] using World.cell?_spot ((hE 0 (by omega)).2 0 (by omega))
      subst hspot
      simp only [Go.WideShapes.add_plain] at hc
      refine ⟨b, off, rfl, World.block_lt_of_cell? _ _ (hc 0 (by omega)), at4_of fun i hi => ?_⟩
      simp only [List.getElem_map, List.getElem_range]
      exact hc i hi

end Go.Proofs.YtpkndedppfdekaaDoor
