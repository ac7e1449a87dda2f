/- The arguments of layer 6's laws, opened: cells, and how many bytes they take. The arguments of layer 8's laws, opened: automata, rules. The arguments of layer 9's laws, opened: automata, and that what they accept is a number of the machine. -/
import Derived.Test.YtjelgphhlcecoaaGreatDoorJ7
import Derived.Test.YtjelgphhlcecoaaGreatDoorJ33
import Derived.Test.YtjelgphhlcecoaaGreatDoorJ46
import Derived.ChangeSlices
import Derived.Deep.Slices
import Derived.WideKeyArr2
import Derived.SizedLaws
namespace Go.Proofs.YtjelgphhlcecoaaGreatDoor
open Go.ChangeShapes Go.WideShapes Go.ChangeAt Go.RowKit

set_option maxRecDepth 20000 in
theorem Tryz.cellsOf97 : Tryz.prog.cellsOf 97 = 4 := by kernel_rfl
set_option maxRecDepth 20000 in
theorem Tryz.cellsOf115 : Tryz.prog.cellsOf 115 = 5 := by kernel_rfl
set_option maxRecDepth 20000 in
theorem Tryz.cellsOf3 : Tryz.prog.cellsOf 3 = 1 := by kernel_rfl
set_option maxRecDepth 20000 in
theorem Tryz.bytes115 : Tryz.prog.bytesOf 115 = 40 := by kernel_rfl
theorem bound_u64 {n : Int} (h : (Lit.int .u64 n).wf = true) : 0 ≤ n ∧ n < 18446744073709551616 := by
  have h1 : IntKind.u64.min = 0 := by decide
  have h2 : IntKind.u64.max = 18446744073709551615 := by decide
  simp [Lit.wf] at h
  omega
theorem bound_i64 {n : Int} (h : (Lit.int .i64 n).wf = true) : -9223372036854775808 ≤ n ∧ n ≤ 9223372036854775807 := by
  have h1 : IntKind.i64.min = -9223372036854775808 := by decide
  have h2 : IntKind.i64.max = 9223372036854775807 := by decide
  simp [Lit.wf] at h
  omega
instance : Inhabited W4 := ⟨⟨0, 0, 0, 0⟩⟩
instance : Inhabited Cel := ⟨⟨0, ⟨0, 0, 0, 0⟩⟩⟩

set_option maxRecDepth 100000 in
theorem set_of_trod {H : Type} {enc : TypeId × Value → H} {W : World} {fuel : Nat} {cs : List Value} {x : DataW H × List MemPlace} (hf : DataW.trod enc Tryz.prog W 0 (fun _ => true) true fuel 97 cs = some x) :
    ∃ S : W4, Fit4 S ∧ cs = [.int .u64 (S.a : Int), .int .u64 (S.b : Int), .int .u64 (S.c : Int), .int .u64 (S.d : Int)] := by
  cases fuel with
  | zero => simp [DataW.trod] at hf
  | succ m =>
    rw [DataW.trod_step] at hf
    unfold DataW.trodStep at hf
    simp only [Tryz.underlying97, Tryz.cellsOf97, Tryz.cells95] at hf
    split at hf
    case isFalse => cases hf
    rename_i hlen
    simp only [Option.map_eq_some_iff] at hf
    obtain ⟨ys, hy, _⟩ := hf
    rw [show List.range 4 = [0, 1, 2, 3] from rfl] at hy
    simp only [List.mapM_cons, List.mapM_nil, bind, Option.bind_eq_some_iff, pure] at hy
    obtain ⟨y0, h0, z0, ⟨y1, h1, z1, ⟨y2, h2, z2, ⟨y3, h3, _⟩, _⟩, _⟩, _⟩ := hy
    obtain ⟨n0, e0, _, w0⟩ := DataW.trod_int Tryz.underlying95 h0
    obtain ⟨n1, e1, _, w1⟩ := DataW.trod_int Tryz.underlying95 h1
    obtain ⟨n2, e2, _, w2⟩ := DataW.trod_int Tryz.underlying95 h2
    obtain ⟨n3, e3, _, w3⟩ := DataW.trod_int Tryz.underlying95 h3
    match cs, hlen with
    | [c0, c1, c2, c3], _ =>
      simp at e0 e1 e2 e3
      subst e0 e1 e2 e3
      have b0 := bound_u64 w0
      have b1 := bound_u64 w1
      have b2 := bound_u64 w2
      have b3 := bound_u64 w3
      refine ⟨⟨n0.toNat, n1.toNat, n2.toNat, n3.toNat⟩, ⟨?_, ?_, ?_, ?_⟩, ?_⟩
      · simp only; omega
      · simp only; omega
      · simp only; omega
      · simp only; omega
      · simp only [Int.toNat_of_nonneg b0.1, Int.toNat_of_nonneg b1.1, Int.toNat_of_nonneg b2.1, Int.toNat_of_nonneg b3.1]

set_option maxRecDepth 100000 in
theorem cel_of_trod {H : Type} {enc : TypeId × Value → H} {W : World} {fuel : Nat} {cs : List Value} {x : DataW H × List MemPlace} (hl : cs.length = 5) (hf : DataW.trod enc Tryz.prog W 0 (fun _ => true) true fuel 115 cs = some x) :
    ∃ c : Cel, FitC c ∧ ∀ j, j < 5 → cs[j]? = some (cellV c j) := by
  obtain ⟨y0, y1, m, rfl, _, t0, t1⟩ := trod_struct2 Tryz.underlying115 hf
  obtain ⟨z, e0, _, wz⟩ := DataW.trod_int Tryz.underlying3 t0
  obtain ⟨S, hS, e1⟩ := set_of_trod t1
  have bz := bound_i64 wz
  match cs, hl with
  | [c0, c1, c2, c3, c4], _ =>
    simp [Tryz.cellsOf3, Tryz.cellsOf97] at e0 e1
    obtain ⟨r1, r2, r3, r4⟩ := e1
    subst e0 r1 r2 r3 r4
    refine ⟨⟨z, S⟩, ⟨bz.1, bz.2, hS⟩, fun j hj => ?_⟩
    have h5 : j = 0 ∨ j = 1 ∨ j = 2 ∨ j = 3 ∨ j = 4 := by omega
    rcases h5 with rfl | rfl | rfl | rfl | rfl <;> rfl

set_option maxRecDepth 100000 in
theorem open_cells {H : Type} {enc : TypeId × Value → H} {W : World} {v : Value} {d : DataW H} {p : List MemPlace} {base : Nat} (hv : Value.okWide Tryz.prog W .any base 63 v)
    (h : DataW.Trod enc Tryz.prog W 0 (fun _ => true) true 63 v d p) :
    ∃ l : List Cel, Cels W v l ∧ (l = [] ∨ ∃ elems spare, d = .slice elems spare ∧ elems.length = l.length) := by
  obtain ⟨ao, len, cap, rfl⟩ := okWide_slice Tryz.underlying63 hv
  obtain ⟨fuel, hf⟩ := h
  rcases Deep.open_slice Tryz.underlying63 hf with ⟨hcs, _⟩ | ⟨a, len', cap', m, n, D, Pl, hcs, _, hl, hm, hmm, hxd, hx⟩
  · simp [Value.cells] at hcs
    obtain ⟨rfl, rfl, rfl⟩ := hcs
    exact ⟨[], ⟨none, 0, rfl, Nat.le_refl _, fun _ => rfl, fun S hS => absurd hS (List.not_mem_nil), fun j hj => absurd hj (Nat.not_lt_zero _)⟩, Or.inl rfl⟩
  · simp [Value.cells] at hcs
    obtain ⟨rfl, rfl, rfl⟩ := hcs
    have hm' : m = cap := by simpa using hmm
    have hone : ∀ i, i < len → ∃ c : Cel, FitC c ∧ ∀ j, j < 5 → W.cell? ((a.add (i * 5)).add j) = some (cellV c j) := by
      intro i hi
      obtain ⟨cs', hc, ht⟩ := hx i (by omega)
      rw [Tryz.cellsOf115] at hc
      have hcl := (World.cells?_some hc).2.1
      obtain ⟨c, hF, hcc⟩ := cel_of_trod hcl ht
      refine ⟨c, hF, fun j hj => ?_⟩
      rw [(World.cells?_some hc).2.2 j hj]
      exact hcc j hj
    obtain ⟨E, hE⟩ := Deep.choose_lt hone
    refine ⟨(List.range len).map E, ⟨some a, cap, by simp, by simp; omega, fun h => (by cases h), fun S hS => ?_, fun j hj => ?_⟩, Or.inr ?_⟩
    · rw [List.mem_map] at hS
      obtain ⟨i, hi, rfl⟩ := hS
      rw [List.mem_range] at hi
      exact (hE i hi).1
    · have hj' : j < len := by simpa using hj
      have hc := (hE j hj').2
      obtain ⟨b, off, spot⟩ := a
      have hspot : spot = none := by simpa [Addr.add] using World.cell?_spot ((hE 0 (by omega)).2 0 (by omega))
      subst hspot
      simp only [Go.WideShapes.add_plain] at hc
      refine ⟨b, off, rfl, World.block_lt_of_cell? _ _ (hc 0 (by omega)), at5_of fun i hi => ?_⟩
      simp only [List.getElem_map, List.getElem_range]
      exact hc i hi
    · have := congrArg Prod.fst hxd
      exact ⟨_, _, this, by simp⟩
set_option maxRecDepth 20000 in
theorem reach_cells {H : Type} {ds : List (DataW H)} {d : DataW H} {l : List Cel} {ts : List TypeId} (hsz : (DataW.weightsEach Tryz.prog ts ds).all (· ≤ reachBytes) = true) (ht : ts[0]? = some 63) (hd : ds[0]? = some d) (h : l = [] ∨ ∃ elems spare, d = .slice elems spare ∧ elems.length = l.length) : l.length * 40 ≤ 140737488351232 := by
  rcases h with rfl | ⟨elems, spare, rfl, he⟩
  · simp
  · have := sized_slice hsz (j := 0) ht hd Tryz.underlying63
    rw [Tryz.bytes115] at this
    simp only [reachBytes] at this
    omega

end Go.Proofs.YtjelgphhlcecoaaGreatDoor
namespace Go.Proofs.YtjelgphhlcecoaaGreatDoor
open Go.ChangeShapes Go.WideShapes Go.ChangeAt Go.RowKit

set_option maxRecDepth 20000 in
theorem Tryz.cellsOf23 : Tryz.prog.cellsOf 23 = 1 := by kernel_rfl
set_option maxRecDepth 20000 in
theorem Tryz.cellsOf22 : Tryz.prog.cellsOf 22 = 1 := by kernel_rfl
theorem plain_of {W : World} {a : Addr} {x : Value} (h : W.cell? a = some x) : ∃ b o, a = ⟨b, o, none⟩ := by
  obtain ⟨b, off, spot⟩ := a
  have hs : spot = none := World.cell?_spot h
  exact ⟨b, off, by rw [hs]⟩

set_option maxRecDepth 20000 in
theorem nums_of_trod {H : Type} {enc : TypeId × Value → H} {W : World} {fuel : Nat} {cs : List Value} {x : DataW H × List MemPlace} (hf : DataW.trod enc Tryz.prog W 0 (fun _ => true) true fuel 23 cs = some x) :
    ∃ (l : List Int) (v : Value), cs = [v] ∧ Nums W v l ∧ l.length ≤ 9223372036854775807 := by
  rcases open_ints Tryz.underlying23 Tryz.underlying3 Tryz.cells3 hf with ⟨hcs, _⟩ | ⟨a, len, cap, zs, hcs, _, hl, hm, hz, _, hcells, hwf⟩
  · exact ⟨[], _, hcs, Nums.nil _, by simp⟩
  · have hz' : zs.length = cap := by simpa using hz
    have hlen : (zs.take len).length = len := by rw [List.length_take]; omega
    unfold maxLen at hm
    refine ⟨zs.take len, _, hcs, ⟨some a, cap, by rw [hlen], by omega, fun h => (by cases h), fun j hj => ?_⟩, by omega⟩
    have hj' : j < zs.length := by omega
    obtain ⟨b, off, rfl⟩ : ∃ b o, a = ⟨b, o, none⟩ := by
      have h0 := hcells 0 (by omega)
      obtain ⟨b, off, spot⟩ := a
      have hspot : spot = none := by simpa [Addr.add] using World.cell?_spot h0
      exact ⟨b, off, by rw [hspot]⟩
    have hc := hcells j hj'
    rw [Go.WideShapes.add_plain] at hc
    refine ⟨b, off, rfl, World.block_lt_of_cell? _ _ hc, ?_⟩
    rw [hc, List.getD_eq_getElem?_getD, List.getElem?_eq_getElem hj', List.getElem_take]; rfl
set_option maxRecDepth 20000 in
theorem lists_of_trod {H : Type} {enc : TypeId × Value → H} {W : World} {fuel : Nat} {cs : List Value} {x : DataW H × List MemPlace} (hf : DataW.trod enc Tryz.prog W 0 (fun _ => true) true fuel 22 cs = some x) :
    ∃ (ls : List (List Int)) (v : Value), cs = [v] ∧ Numss W v ls ∧ ls.length ≤ 9223372036854775807 ∧ ∀ l ∈ ls, l.length ≤ 9223372036854775807 := by
  rcases Deep.open_slice Tryz.underlying22 hf with ⟨hcs, _⟩ | ⟨a, len, cap, m, n, D, Pl, hcs, _, hl, hm, hmm, _, hx⟩
  · exact ⟨[], _, hcs, ⟨none, 0, rfl, Nat.le_refl _, fun _ => rfl, fun j hj => absurd hj (Nat.not_lt_zero _)⟩, by simp, fun l hl => absurd hl (List.not_mem_nil)⟩
  · have hm' : m = cap := by simpa using hmm
    have hone : ∀ i, i < len → ∃ e : Value × List Int, W.cell? (a.add i) = some e.1 ∧ Nums W e.1 e.2 ∧ e.2.length ≤ 9223372036854775807 := by
      intro i hi
      obtain ⟨cs', hc, ht⟩ := hx i (by omega)
      rw [Tryz.cellsOf23, Nat.mul_one] at hc
      obtain ⟨l, v, rfl, h1, h2⟩ := nums_of_trod ht
      refine ⟨(v, l), ?_, h1, h2⟩
      have hh := (World.cells?_some hc).2.2 0 (by omega)
      simpa [Addr.add] using hh
    obtain ⟨E, hE⟩ := Deep.choose_lt hone
    unfold maxLen at hm
    refine ⟨(List.range len).map (fun i => (E i).2), _, by rw [hcs], ⟨some a, cap, by simp, by simp; omega, fun h => (by cases h), fun j hj => ?_⟩, by simp; omega, fun l hl => ?_⟩
    · have hj' : j < len := by simpa using hj
      obtain ⟨b, off, rfl⟩ : ∃ b o, a = ⟨b, o, none⟩ := by
        have h0 := (hE 0 (by omega)).1
        obtain ⟨b, off, spot⟩ := a
        have hspot : spot = none := by simpa [Addr.add] using World.cell?_spot h0
        exact ⟨b, off, by rw [hspot]⟩
      have hc := (hE j hj').1
      rw [Go.WideShapes.add_plain] at hc
      refine ⟨b, off, (E j).1, rfl, World.block_lt_of_cell? _ _ hc, hc, ?_⟩
      simp only [List.getElem_map, List.getElem_range]
      exact (hE j hj').2.1
    · rw [List.mem_map] at hl
      obtain ⟨i, hi, rfl⟩ := hl
      rw [List.mem_range] at hi
      exact (hE i hi).2.2

set_option maxRecDepth 20000 in
theorem Tryz.cellsOf63 : Tryz.prog.cellsOf 63 = 1 := by kernel_rfl
set_option maxRecDepth 20000 in
theorem Tryz.cellsOf25 : Tryz.prog.cellsOf 25 = 2 := by kernel_rfl
set_option maxRecDepth 20000 in
theorem open_dfa {H : Type} {enc : TypeId × Value → H} {W : World} {v : Value} {d : DataW H} {q : List MemPlace} {base : Nat} (hv : Value.okWide Tryz.prog W .any base 25 v)
    (h : DataW.Trod enc Tryz.prog W 0 (fun _ => true) true 25 v d q) :
    ∃ (N : List (List Int)) (A : List Int) (nv av : Value), v = .agg #[nv, av] ∧ Numss W nv N ∧ Nums W av A ∧ N.length ≤ 9223372036854775807 ∧ A.length ≤ 9223372036854775807 := by
  obtain ⟨cs, rfl, hcs⟩ := okWide_struct Tryz.underlying25 hv
  obtain ⟨fuel, hf⟩ := h
  rw [Tryz.cellsOf25] at hcs
  obtain ⟨y0, y1, m, _, _, t0, t1⟩ := trod_struct2 Tryz.underlying25 hf
  have hce : Value.cells (.agg cs) = cs := rfl
  rw [hce] at t0 t1
  obtain ⟨cl⟩ := cs
  match cl, hcs with
  | [c0, c1], _ =>
    have t0' : DataW.trod enc Tryz.prog W 0 (fun _ => true) true m 22 [c0] = some y0 := by simpa [Tryz.cellsOf22] using t0
    have t1' : DataW.trod enc Tryz.prog W 0 (fun _ => true) true m 23 [c1] = some y1 := by simpa [Tryz.cellsOf23, Tryz.cellsOf22] using t1
    obtain ⟨N, v0, e0, hN, l0, _⟩ := lists_of_trod t0'
    obtain ⟨A, v1, e1, hA, l1⟩ := nums_of_trod t1'
    simp only [List.cons.injEq, and_true] at e0 e1
    subst e0 e1
    exact ⟨N, A, c0, c1, rfl, hN, hA, l0, l1⟩
set_option maxRecDepth 20000 in
theorem cels_of_trod {H : Type} {enc : TypeId × Value → H} {W : World} {fuel : Nat} {cs : List Value} {x : DataW H × List MemPlace} (hf : DataW.trod enc Tryz.prog W 0 (fun _ => true) true fuel 63 cs = some x) :
    ∃ (l : List Cel) (v : Value), cs = [v] ∧ Cels W v l := by
  rcases Deep.open_slice Tryz.underlying63 hf with ⟨hcs, _⟩ | ⟨a, len, cap, m, n, D, Pl, hcs, _, hl, hm, hmm, _, hx⟩
  · exact ⟨[], _, hcs, ⟨none, 0, rfl, Nat.le_refl _, fun _ => rfl, fun S hS => absurd hS (List.not_mem_nil), fun j hj => absurd hj (Nat.not_lt_zero _)⟩⟩
  · have hm' : m = cap := by simpa using hmm
    have hone : ∀ i, i < len → ∃ c : Cel, FitC c ∧ ∀ j, j < 5 → W.cell? ((a.add (i * 5)).add j) = some (cellV c j) := by
      intro i hi
      obtain ⟨cs', hc, ht⟩ := hx i (by omega)
      rw [Tryz.cellsOf115] at hc
      have hcl := (World.cells?_some hc).2.1
      obtain ⟨c, hF, hcc⟩ := cel_of_trod hcl ht
      refine ⟨c, hF, fun j hj => ?_⟩
      rw [(World.cells?_some hc).2.2 j hj]
      exact hcc j hj
    obtain ⟨E, hE⟩ := Deep.choose_lt hone
    unfold maxLen at hm
    refine ⟨(List.range len).map E, _, by rw [hcs], ⟨some a, cap, by simp, by simp; omega, fun h => (by cases h), fun c hc => ?_, fun j hj => ?_⟩⟩
    · rw [List.mem_map] at hc
      obtain ⟨i, hi, rfl⟩ := hc
      rw [List.mem_range] at hi
      exact (hE i hi).1
    · have hj' : j < len := by simpa using hj
      obtain ⟨b, off, rfl⟩ : ∃ b o, a = ⟨b, o, none⟩ := by
        have h0 := (hE 0 (by omega)).2 0 (by omega)
        obtain ⟨b, off, spot⟩ := a
        have hspot : spot = none := by simpa [Addr.add] using World.cell?_spot h0
        exact ⟨b, off, by rw [hspot]⟩
      have hc := (hE j hj').2
      simp only [Go.WideShapes.add_plain] at hc
      refine ⟨b, off, rfl, World.block_lt_of_cell? _ _ (hc 0 (by omega)), ?_⟩
      simp only [List.getElem_map, List.getElem_range]
      exact at5_of hc
set_option maxRecDepth 20000 in
theorem open_rules {H : Type} {enc : TypeId × Value → H} {W : World} {v : Value} {d : DataW H} {p : List MemPlace} {base : Nat} (hv : Value.okWide Tryz.prog W .any base 62 v)
    (h : DataW.Trod enc Tryz.prog W 0 (fun _ => true) true 62 v d p) : ∃ L : List (List Cel), Celss W v L ∧ (L = [] ∨ ∃ elems spare, d = .slice elems spare ∧ elems.length = L.length) := by
  obtain ⟨ao, len0, cap0, rfl⟩ := okWide_slice Tryz.underlying62 hv
  obtain ⟨fuel, hf⟩ := h
  rcases Deep.open_slice Tryz.underlying62 hf with ⟨hcs, _⟩ | ⟨a, len, cap, m, n, D, Pl, hcs, _, hl, hm, hmm, hxd, hx⟩
  · simp [Value.cells] at hcs
    obtain ⟨rfl, rfl, rfl⟩ := hcs
    exact ⟨[], ⟨none, 0, rfl, Nat.le_refl _, fun _ => rfl, fun j hj => absurd hj (Nat.not_lt_zero _)⟩, Or.inl rfl⟩
  · simp [Value.cells] at hcs
    obtain ⟨rfl, rfl, rfl⟩ := hcs
    have hm' : m = cap0 := by simpa using hmm
    have hone : ∀ i, i < len0 → ∃ e : Value × List Cel, W.cell? (a.add i) = some e.1 ∧ Cels W e.1 e.2 := by
      intro i hi
      obtain ⟨cs', hc, ht⟩ := hx i (by omega)
      rw [Tryz.cellsOf63, Nat.mul_one] at hc
      obtain ⟨l, v, rfl, h1⟩ := cels_of_trod ht
      refine ⟨(v, l), ?_, h1⟩
      have hh := (World.cells?_some hc).2.2 0 (by omega)
      simpa [Addr.add] using hh
    obtain ⟨E, hE⟩ := Deep.choose_lt hone
    refine ⟨(List.range len0).map (fun i => (E i).2), ⟨some a, cap0, by simp, by simp; omega, fun h => (by cases h), fun j hj => ?_⟩, Or.inr ⟨_, _, congrArg Prod.fst hxd, by simp⟩⟩
    have hj' : j < len0 := by simpa using hj
    obtain ⟨b, off, rfl⟩ : ∃ b o, a = ⟨b, o, none⟩ := by
      have h0 := (hE 0 (by omega)).1
      obtain ⟨b, off, spot⟩ := a
      have hspot : spot = none := by simpa [Addr.add] using World.cell?_spot h0
      exact ⟨b, off, by rw [hspot]⟩
    have hc := (hE j hj').1
    rw [Go.WideShapes.add_plain] at hc
    refine ⟨b, off, (E j).1, rfl, World.block_lt_of_cell? _ _ hc, hc, ?_⟩
    simp only [List.getElem_map, List.getElem_range]
    exact (hE j hj').2
set_option maxRecDepth 20000 in
theorem Tryz.bytes63 : Tryz.prog.bytesOf 63 = 24 := by kernel_rfl
set_option maxRecDepth 20000 in
theorem reach_rules {H : Type} {ds : List (DataW H)} {d : DataW H} {l : List (List Cel)} {ts : List TypeId} (hsz : (DataW.weightsEach Tryz.prog ts ds).all (· ≤ reachBytes) = true) (ht : ts[0]? = some 62) (hd : ds[0]? = some d) (h : l = [] ∨ ∃ elems spare, d = .slice elems spare ∧ elems.length = l.length) : l.length * 24 ≤ 140737488351232 := by
  rcases h with rfl | ⟨elems, spare, rfl, he⟩
  · simp
  · have := sized_slice hsz (j := 0) ht hd Tryz.underlying62
    rw [Tryz.bytes63] at this
    simp only [reachBytes] at this
    omega


end Go.Proofs.YtjelgphhlcecoaaGreatDoor
namespace Go.Proofs.YtjelgphhlcecoaaGreatDoor
open Go.ChangeShapes Go.WideShapes Go.ChangeAt Go.RowKit

set_option maxRecDepth 20000 in
theorem nums_of_trodW {H : Type} {enc : TypeId × Value → H} {W : World} {fuel : Nat} {cs : List Value} {x : DataW H × List MemPlace} (hf : DataW.trod enc Tryz.prog W 0 (fun _ => true) true fuel 23 cs = some x) :
    ∃ (l : List Int) (v : Value), cs = [v] ∧ Nums W v l ∧ l.length ≤ 9223372036854775807 ∧ AccW l := by
  rcases open_ints Tryz.underlying23 Tryz.underlying3 Tryz.cells3 hf with ⟨hcs, _⟩ | ⟨a, len, cap, zs, hcs, _, hl, hm, hz, _, hcells, hwf⟩
  · exact ⟨[], _, hcs, Nums.nil _, by simp, fun j => by simp⟩
  · have hz' : zs.length = cap := by simpa using hz
    have hlen : (zs.take len).length = len := by rw [List.length_take]; omega
    unfold maxLen at hm
    refine ⟨zs.take len, _, hcs, ⟨some a, cap, by rw [hlen], by omega, fun h => (by cases h), fun j hj => ?_⟩, by omega, fun j => ?_⟩
    · have hj' : j < zs.length := by omega
      obtain ⟨b, off, rfl⟩ : ∃ b o, a = ⟨b, o, none⟩ := by
        have h0 := hcells 0 (by omega)
        obtain ⟨b, off, spot⟩ := a
        have hspot : spot = none := by simpa [Addr.add] using World.cell?_spot h0
        exact ⟨b, off, by rw [hspot]⟩
      have hc := hcells j hj'
      rw [Go.WideShapes.add_plain] at hc
      refine ⟨b, off, rfl, World.block_lt_of_cell? _ _ hc, ?_⟩
      rw [hc, List.getD_eq_getElem?_getD, List.getElem?_eq_getElem hj', List.getElem_take]; rfl
    · rcases Nat.lt_or_ge j (zs.take len).length with hj | hj
      · have hj' : j < zs.length := by omega
        have e : (zs.take len).getD j 0 = zs.getD j 0 := by
          rw [List.getD_eq_getElem?_getD, List.getD_eq_getElem?_getD, List.getElem?_eq_getElem hj, List.getElem?_eq_getElem hj', List.getElem_take]
        rw [e]
        have hm' : zs.getD j 0 ∈ zs := by
          rw [List.getD_eq_getElem?_getD, List.getElem?_eq_getElem hj']
          exact List.getElem_mem hj'
        exact (bounds_i64 (hwf _ hm')).2
      · rw [List.getD_eq_getElem?_getD, List.getElem?_eq_none hj]
        simp
set_option maxRecDepth 20000 in
theorem open_dfaW {H : Type} {enc : TypeId × Value → H} {W : World} {v : Value} {d : DataW H} {q : List MemPlace} {base : Nat} (hv : Value.okWide Tryz.prog W .any base 25 v)
    (h : DataW.Trod enc Tryz.prog W 0 (fun _ => true) true 25 v d q) :
    ∃ (N : List (List Int)) (A : List Int) (nv av : Value), v = .agg #[nv, av] ∧ Dfa W nv av N A ∧ N.length ≤ 9223372036854775807 ∧ A.length ≤ 9223372036854775807 ∧ AccW A := by
  obtain ⟨cs, rfl, hcs⟩ := okWide_struct Tryz.underlying25 hv
  obtain ⟨fuel, hf⟩ := h
  rw [Tryz.cellsOf25] at hcs
  obtain ⟨y0, y1, m, _, _, t0, t1⟩ := trod_struct2 Tryz.underlying25 hf
  have hce : Value.cells (.agg cs) = cs := rfl
  rw [hce] at t0 t1
  obtain ⟨cl⟩ := cs
  match cl, hcs with
  | [c0, c1], _ =>
    have t0' : DataW.trod enc Tryz.prog W 0 (fun _ => true) true m 22 [c0] = some y0 := by simpa [Tryz.cellsOf22] using t0
    have t1' : DataW.trod enc Tryz.prog W 0 (fun _ => true) true m 23 [c1] = some y1 := by simpa [Tryz.cellsOf23, Tryz.cellsOf22] using t1
    obtain ⟨N, v0, e0, hN, l0, _⟩ := lists_of_trod t0'
    obtain ⟨A, v1, e1, hA, l1, hw⟩ := nums_of_trodW t1'
    simp only [List.cons.injEq, and_true] at e0 e1
    subst e0 e1
    exact ⟨N, A, c0, c1, rfl, ⟨hN, hA⟩, l0, l1, hw⟩

end Go.Proofs.YtjelgphhlcecoaaGreatDoor
