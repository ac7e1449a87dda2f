/- What layer 8's laws lean on. The arguments of layer 6's laws, opened: cells, and how many bytes they take. The arguments of layer 8's laws, opened: automata, rules. -/
import Derived.Test.YtlpbeieljjgbaaaGreatDoorJ41
import Derived.Test.YtlpbeieljjgbaaaGreatDoorJ7
import Derived.Test.YtlpbeieljjgbaaaGreatDoorJ32
import Derived.ChangeSlices
import Derived.Deep.Slices
import Derived.WideKeyArr2
import Derived.SizedLaws
namespace Go.Proofs.YtlpbeieljjgbaaaGreatDoor
open Go.RowKit

theorem hvS_at (L : List (List Cel)) {k : Nat} (hk : k < L.length) : min (L.getD k []).length 100 ≤ hvS L L.length := by
  have h1 := hvS_mono L (k + 1) (L.length - (k + 1))
  rw [show k + 1 + (L.length - (k + 1)) = L.length by omega, hvS] at h1
  omega
theorem light {L : List (List Cel)} (h : heavyB L = false) : L.length ≤ 20 ∧ ∀ l ∈ L, l.length ≤ 40 := by
  unfold heavyB at h
  rw [Bool.or_eq_false_iff, decide_eq_false_iff_not, decide_eq_false_iff_not] at h
  refine ⟨by omega, fun l hl => ?_⟩
  obtain ⟨k, hk, rfl⟩ := List.getElem_of_mem hl
  have h1 := hvS_at L hk
  have e : L.getD k [] = L[k] := by rw [List.getD_eq_getElem?_getD, List.getElem?_eq_getElem hk]; rfl
  rw [e] at h1
  omega
theorem trees_of : ∀ {L : List (List Cel)}, L.all rightB = true → ∃ ts : List Rx, L = ts.map post ∧ ∀ t ∈ ts, t.ok ∧ (post t).length ≤ 60
  | [], _ => ⟨[], rfl, fun t ht => by cases ht⟩
  | l :: L, h => by
    rw [List.all_cons, Bool.and_eq_true] at h
    obtain ⟨ts, e, hts⟩ := trees_of h.2
    obtain ⟨t, h1, h2, h3⟩ := right_tree h.1
    refine ⟨t :: ts, by rw [List.map_cons, h2, e], fun x hx => ?_⟩
    rcases List.mem_cons.1 hx with rfl | hx
    · exact ⟨h1, by rw [h2]; exact h3⟩
    · exact hts x hx
/-- what the laws know of an automaton that was built -/
structure Blt (ts : List Rx) (all : List Sp) (n : Nat) : Prop where
  sp : SpAll ts all
  ru : RuS ts all
  to : BldTo all n
  rgt : RgtA (nxtK all n) (accK all n)
theorem blt_of {ts : List Rx} {w : World} {nv av : Value} {er : Int} (hok : ∀ t ∈ ts, t.ok ∧ (post t).length ≤ 60) (h : BldR ts w nv av er) : (er = 3 ∧ nv = nilV ∧ av = nilV) ∨ (er = 0 ∧ ∃ all n, Blt ts all n ∧ Numss w nv (nxtK all n) ∧ Nums w av (accK all n)) := by
  obtain ⟨all, hAll, ⟨h1, n, h2, h3, h4⟩ | ⟨h1, h2, h3, _⟩⟩ := h
  · have R := hAll.ru (fun t ht => (hok t ht).2)
    exact Or.inr ⟨h1, all, n, ⟨hAll, R, h2, rgtA_built R h2⟩, h3, h4⟩
  · exact Or.inl ⟨h1, h2, h3⟩

end Go.Proofs.YtlpbeieljjgbaaaGreatDoor
namespace Go.Proofs.YtlpbeieljjgbaaaGreatDoor
open Go.ChangeShapes Go.WideShapes Go.ChangeAt Go.RowKit

set_option maxRecDepth 20000 in
theorem Tryz.cellsOf80 : Tryz.prog.cellsOf 80 = 4 := by kernel_rfl
set_option maxRecDepth 20000 in
theorem Tryz.cellsOf92 : Tryz.prog.cellsOf 92 = 5 := by kernel_rfl
set_option maxRecDepth 20000 in
theorem Tryz.cellsOf3 : Tryz.prog.cellsOf 3 = 1 := by kernel_rfl
set_option maxRecDepth 20000 in
theorem Tryz.bytes92 : Tryz.prog.bytesOf 92 = 40 := by kernel_rfl
theorem bound_u64 {n : Int} (h : (Lit.int .u64 n).wf = true) : 0 ≤ n ∧ n < 18446744073709551616 := by
  have h1 : IntKind.u64.min = 0 := by decide
  have h2 : IntKind.u64.max = 18446744073709551615 := by decide
  simp [Lit.wf] at h
  omega
theorem bound_i64 {n : Int} (h : (Lit.int .i64 n).wf = true) : -9223372036854775808 ≤ n ∧ n ≤ 9223372036854775807 := by
  have h1 : IntKind.i64.min = -9223372036854775808 := by decide
  have h2 : IntKind.i64.max = 9223372036854775807 := by decide
  simp [Lit.wf] at h
  omega
instance : Inhabited W4 := ⟨⟨0, 0, 0, 0⟩⟩
instance : Inhabited Cel := ⟨⟨0, ⟨0, 0, 0, 0⟩⟩⟩

set_option maxRecDepth 100000 in
theorem set_of_trod {H : Type} {enc : TypeId × Value → H} {W : World} {fuel : Nat} {cs : List Value} {x : DataW H × List MemPlace} (hf : DataW.trod enc Tryz.prog W 0 (fun _ => true) true fuel 80 cs = some x) :
    ∃ S : W4, Fit4 S ∧ cs = [.int .u64 (S.a : Int), .int .u64 (S.b : Int), .int .u64 (S.c : Int), .int .u64 (S.d : Int)] := by
  cases fuel with
  | zero => simp [DataW.trod] at hf
  | succ m =>
    rw [DataW.trod_step] at hf
    unfold DataW.trodStep at hf
    simp only [Tryz.underlying80, Tryz.cellsOf80, Tryz.cells78] at hf
    split at hf
    case isFalse => cases hf
    rename_i hlen
    simp only [Option.map_eq_some_iff] at hf
    obtain ⟨ys, hy, _⟩ := hf
    rw [show List.range 4 = [0, 1, 2, 3] from rfl] at hy
    simp only [List.mapM_cons, List.mapM_nil, bind, Option.bind_eq_some_iff, pure] at hy
    obtain ⟨y0, h0, z0, ⟨y1, h1, z1, ⟨y2, h2, z2, ⟨y3, h3, _⟩, _⟩, _⟩, _⟩ := hy
    obtain ⟨n0, e0, _, w0⟩ := DataW.trod_int Tryz.underlying78 h0
    obtain ⟨n1, e1, _, w1⟩ := DataW.trod_int Tryz.underlying78 h1
    obtain ⟨n2, e2, _, w2⟩ := DataW.trod_int Tryz.underlying78 h2
    obtain ⟨n3, e3, _, w3⟩ := DataW.trod_int Tryz.underlying78 h3
    match cs, hlen with
    | [c0, c1, c2, c3], _ =>
      simp at e0 e1 e2 e3
      subst e0 e1 e2 e3
      have b0 := bound_u64 w0
      have b1 := bound_u64 w1
      have b2 := bound_u64 w2
      have b3 := bound_u64 w3
      refine ⟨⟨n0.toNat, n1.toNat, n2.toNat, n3.toNat⟩, ⟨?_, ?_, ?_, ?_⟩, ?_⟩
      · simp only; omega
      · simp only; omega
      · simp only; omega
      · simp only; omega
      · simp only [Int.toNat_of_nonneg b0.1, Int.toNat_of_nonneg b1.1, Int.toNat_of_nonneg b2.1, Int.toNat_of_nonneg b3.1]

set_option maxRecDepth 100000 in
theorem cel_of_trod {H : Type} {enc : TypeId × Value → H} {W : World} {fuel : Nat} {cs : List Value} {x : DataW H × List MemPlace} (hl : cs.length = 5) (hf : DataW.trod enc Tryz.prog W 0 (fun _ => true) true fuel 92 cs = some x) :
    ∃ c : Cel, FitC c ∧ ∀ j, j < 5 → cs[j]? = some (cellV c j) := by
  obtain ⟨y0, y1, m, rfl, _, t0, t1⟩ := trod_struct2 Tryz.underlying92 hf
  obtain ⟨z, e0, _, wz⟩ := DataW.trod_int Tryz.underlying3 t0
  obtain ⟨S, hS, e1⟩ := set_of_trod t1
  have bz := bound_i64 wz
  match cs, hl with
  | [c0, c1, c2, c3, c4], _ =>
    simp [Tryz.cellsOf3, Tryz.cellsOf80] at e0 e1
    obtain ⟨r1, r2, r3, r4⟩ := e1
    subst e0 r1 r2 r3 r4
    refine ⟨⟨z, S⟩, ⟨bz.1, bz.2, hS⟩, fun j hj => ?_⟩
    have h5 : j = 0 ∨ j = 1 ∨ j = 2 ∨ j = 3 ∨ j = 4 := by omega
    rcases h5 with rfl | rfl | rfl | rfl | rfl <;> rfl

set_option maxRecDepth 100000 in
theorem open_cells {H : Type} {enc : TypeId × Value → H} {W : World} {v : Value} {d : DataW H} {p : List MemPlace} {base : Nat} (hv : Value.okWide Tryz.prog W .any base 41 v)
    (h : DataW.Trod enc Tryz.prog W 0 (fun _ => true) true 41 v d p) :
    ∃ l : List Cel, Cels W v l ∧ (l = [] ∨ ∃ elems spare, d = .slice elems spare ∧ elems.length = l.length) := by
  obtain ⟨ao, len, cap, rfl⟩ := okWide_slice Tryz.underlying41 hv
  obtain ⟨fuel, hf⟩ := h
  rcases Deep.open_slice Tryz.underlying41 hf with ⟨hcs, _⟩ | ⟨a, len', cap', m, n, D, Pl, hcs, _, hl, hm, hmm, hxd, hx⟩
  · simp [Value.cells] at hcs
    obtain ⟨rfl, rfl, rfl⟩ := hcs
    exact ⟨[], ⟨none, 0, rfl, Nat.le_refl _, fun _ => rfl, fun S hS => absurd hS (List.not_mem_nil), fun j hj => absurd hj (Nat.not_lt_zero _)⟩, Or.inl rfl⟩
  · simp [Value.cells] at hcs
    obtain ⟨rfl, rfl, rfl⟩ := hcs
    have hm' : m = cap := by simpa using hmm
    have hone : ∀ i, i < len → ∃ c : Cel, FitC c ∧ ∀ j, j < 5 → W.cell? ((a.add (i * 5)).add j) = some (cellV c j) := by
      intro i hi
      obtain ⟨cs', hc, ht⟩ := hx i (by omega)
      rw [Tryz.cellsOf92] at hc
      have hcl := (World.cells?_some hc).2.1
      obtain ⟨c, hF, hcc⟩ := cel_of_trod hcl ht
      refine ⟨c, hF, fun j hj => ?_⟩
      rw [(World.cells?_some hc).2.2 j hj]
      exact hcc j hj
    obtain ⟨E, hE⟩ := Deep.choose_lt hone
    refine ⟨(List.range len).map E, ⟨some a, cap, by simp, by simp; omega, fun h => (by cases h), fun S hS => ?_, fun j hj => ?_⟩, Or.inr ?_⟩
    · rw [List.mem_map] at hS
      obtain ⟨i, hi, rfl⟩ := hS
      rw [List.mem_range] at hi
      exact (hE i hi).1
    · have hj' : j < len := by simpa using hj
      have hc := (hE j hj').2
      obtain ⟨b, off, spot⟩ := a
      have hspot : spot = none := by simpa [Addr.add] using World.cell?_spot ((hE 0 (by omega)).2 0 (by omega))
      subst hspot
      simp only [Go.WideShapes.add_plain] at hc
      refine ⟨b, off, rfl, World.block_lt_of_cell? _ _ (hc 0 (by omega)), at5_of fun i hi => ?_⟩
      simp only [List.getElem_map, List.getElem_range]
      exact hc i hi
    · have := congrArg Prod.fst hxd
      exact ⟨_, _, this, by simp⟩
set_option maxRecDepth 20000 in
theorem reach_cells {H : Type} {ds : List (DataW H)} {d : DataW H} {l : List Cel} {ts : List TypeId} (hsz : (DataW.weightsEach Tryz.prog ts ds).all (· ≤ reachBytes) = true) (ht : ts[0]? = some 41) (hd : ds[0]? = some d) (h : l = [] ∨ ∃ elems spare, d = .slice elems spare ∧ elems.length = l.length) : l.length * 40 ≤ 140737488351232 := by
  rcases h with rfl | ⟨elems, spare, rfl, he⟩
  · simp
  · have := sized_slice hsz (j := 0) ht hd Tryz.underlying41
    rw [Tryz.bytes92] at this
    simp only [reachBytes] at this
    omega

end Go.Proofs.YtlpbeieljjgbaaaGreatDoor
namespace Go.Proofs.YtlpbeieljjgbaaaGreatDoor
open Go.ChangeShapes Go.WideShapes Go.ChangeAt Go.RowKit

set_option maxRecDepth 20000 in
theorem Tryz.cellsOf23 : Tryz.prog.cellsOf 23 = 1 := by kernel_rfl
set_option maxRecDepth 20000 in
theorem Tryz.cellsOf22 : Tryz.prog.cellsOf 22 = 1 := by kernel_rfl
theorem plain_of {W : World} {a : Addr} {x : Value} (h : W.cell? a = some x) : ∃ b o, a = ⟨b, o, none⟩ := by
  obtain ⟨b, off, spot⟩ := a
  have hs : spot = none := World.cell?_spot h
  exact ⟨b, off, by rw [hs]⟩

set_option maxRecDepth 20000 in
theorem nums_of_trod {H : Type} {enc : TypeId × Value → H} {W : World} {fuel : Nat} {cs : List Value} {x : DataW H × List MemPlace} (hf : DataW.trod enc Tryz.prog W 0 (fun _ => true) true fuel 23 cs = some x) :
    ∃ (l : List Int) (v : Value), cs = [v] ∧ Nums W v l ∧ l.length ≤ 9223372036854775807 := by
  rcases open_ints Tryz.underlying23 Tryz.underlying3 Tryz.cells3 hf with ⟨hcs, _⟩ | ⟨a, len, cap, zs, hcs, _, hl, hm, hz, _, hcells, hwf⟩
  · exact ⟨[], _, hcs, Nums.nil _, by simp⟩
  · have hz' : zs.length = cap := by simpa using hz
    have hlen : (zs.take len).length = len := by rw [List.length_take]; omega
    unfold maxLen at hm
    refine ⟨zs.take len, _, hcs, ⟨some a, cap, by rw [hlen], by omega, fun h => (by cases h), fun j hj => ?_⟩, by omega⟩
    have hj' : j < zs.length := by omega
    obtain ⟨b, off, rfl⟩ : ∃ b o, a = ⟨b, o, none⟩ := by
      have h0 := hcells 0 (by omega)
      obtain ⟨b, off, spot⟩ := a
      have hspot : spot = none := by simpa [Addr.add] using World.cell?_spot h0
      exact ⟨b, off, by rw [hspot]⟩
    have hc := hcells j hj'
    rw [Go.WideShapes.add_plain] at hc
    refine ⟨b, off, rfl, World.block_lt_of_cell? _ _ hc, ?_⟩
    rw [hc, List.getD_eq_getElem?_getD, List.getElem?_eq_getElem hj', List.getElem_take]; rfl
set_option maxRecDepth 20000 in
theorem lists_of_trod {H : Type} {enc : TypeId × Value → H} {W : World} {fuel : Nat} {cs : List Value} {x : DataW H × List MemPlace} (hf : DataW.trod enc Tryz.prog W 0 (fun _ => true) true fuel 22 cs = some x) :
    ∃ (ls : List (List Int)) (v : Value), cs = [v] ∧ Numss W v ls ∧ ls.length ≤ 9223372036854775807 ∧ ∀ l ∈ ls, l.length ≤ 9223372036854775807 := by
  rcases Deep.open_slice Tryz.underlying22 hf with ⟨hcs, _⟩ | ⟨a, len, cap, m, n, D, Pl, hcs, _, hl, hm, hmm, _, hx⟩
  · exact ⟨[], _, hcs, ⟨none, 0, rfl, Nat.le_refl _, fun _ => rfl, fun j hj => absurd hj (Nat.not_lt_zero _)⟩, by simp, fun l hl => absurd hl (List.not_mem_nil)⟩
  · have hm' : m = cap := by simpa using hmm
    have hone : ∀ i, i < len → ∃ e : Value × List Int, W.cell? (a.add i) = some e.1 ∧ Nums W e.1 e.2 ∧ e.2.length ≤ 9223372036854775807 := by
      intro i hi
      obtain ⟨cs', hc, ht⟩ := hx i (by omega)
      rw [Tryz.cellsOf23, Nat.mul_one] at hc
      obtain ⟨l, v, rfl, h1, h2⟩ := nums_of_trod ht
      refine ⟨(v, l), ?_, h1, h2⟩
      have hh := (World.cells?_some hc).2.2 0 (by omega)
      simpa [Addr.add] using hh
    obtain ⟨E, hE⟩ := Deep.choose_lt hone
    unfold maxLen at hm
    refine ⟨(List.range len).map (fun i => (E i).2), _, by rw [hcs], ⟨some a, cap, by simp, by simp; omega, fun h => (by cases h), fun j hj => ?_⟩, by simp; omega, fun l hl => ?_⟩
    · have hj' : j < len := by simpa using hj
      obtain ⟨b, off, rfl⟩ : ∃ b o, a = ⟨b, o, none⟩ := by
        have h0 := (hE 0 (by omega)).1
        obtain ⟨b, off, spot⟩ := a
        have hspot : spot = none := by simpa [Addr.add] using World.cell?_spot h0
        exact ⟨b, off, by rw [hspot]⟩
      have hc := (hE j hj').1
      rw [Go.WideShapes.add_plain] at hc
      refine ⟨b, off, (E j).1, rfl, World.block_lt_of_cell? _ _ hc, hc, ?_⟩
      simp only [List.getElem_map, List.getElem_range]
      exact (hE j hj').2.1
    · rw [List.mem_map] at hl
      obtain ⟨i, hi, rfl⟩ := hl
      rw [List.mem_range] at hi
      exact (hE i hi).2.2

set_option maxRecDepth 20000 in
theorem Tryz.cellsOf41 : Tryz.prog.cellsOf 41 = 1 := by kernel_rfl
set_option maxRecDepth 20000 in
theorem Tryz.cellsOf25 : Tryz.prog.cellsOf 25 = 2 := by kernel_rfl
set_option maxRecDepth 20000 in
theorem open_dfa {H : Type} {enc : TypeId × Value → H} {W : World} {v : Value} {d : DataW H} {q : List MemPlace} {base : Nat} (hv : Value.okWide Tryz.prog W .any base 25 v)
    (h : DataW.Trod enc Tryz.prog W 0 (fun _ => true) true 25 v d q) :
    ∃ (N : List (List Int)) (A : List Int) (nv av : Value), v = .agg #[nv, av] ∧ Numss W nv N ∧ Nums W av A ∧ N.length ≤ 9223372036854775807 ∧ A.length ≤ 9223372036854775807 := by
  obtain ⟨cs, rfl, hcs⟩ := okWide_struct Tryz.underlying25 hv
  obtain ⟨fuel, hf⟩ := h
  rw [Tryz.cellsOf25] at hcs
  obtain ⟨y0, y1, m, _, _, t0, t1⟩ := trod_struct2 Tryz.underlying25 hf
  have hce : Value.cells (.agg cs) = cs := rfl
  rw [hce] at t0 t1
  obtain ⟨cl⟩ := cs
  match cl, hcs with
  | [c0, c1], _ =>
    have t0' : DataW.trod enc Tryz.prog W 0 (fun _ => true) true m 22 [c0] = some y0 := by simpa [Tryz.cellsOf22] using t0
    have t1' : DataW.trod enc Tryz.prog W 0 (fun _ => true) true m 23 [c1] = some y1 := by simpa [Tryz.cellsOf23, Tryz.cellsOf22] using t1
    obtain ⟨N, v0, e0, hN, l0, _⟩ := lists_of_trod t0'
    obtain ⟨A, v1, e1, hA, l1⟩ := nums_of_trod t1'
    simp only [List.cons.injEq, and_true] at e0 e1
    subst e0 e1
    exact ⟨N, A, c0, c1, rfl, hN, hA, l0, l1⟩
set_option maxRecDepth 20000 in
theorem cels_of_trod {H : Type} {enc : TypeId × Value → H} {W : World} {fuel : Nat} {cs : List Value} {x : DataW H × List MemPlace} (hf : DataW.trod enc Tryz.prog W 0 (fun _ => true) true fuel 41 cs = some x) :
    ∃ (l : List Cel) (v : Value), cs = [v] ∧ Cels W v l := by
  rcases Deep.open_slice Tryz.underlying41 hf with ⟨hcs, _⟩ | ⟨a, len, cap, m, n, D, Pl, hcs, _, hl, hm, hmm, _, hx⟩
  · exact ⟨[], _, hcs, ⟨none, 0, rfl, Nat.le_refl _, fun _ => rfl, fun S hS => absurd hS (List.not_mem_nil), fun j hj => absurd hj (Nat.not_lt_zero _)⟩⟩
  · have hm' : m = cap := by simpa using hmm
    have hone : ∀ i, i < len → ∃ c : Cel, FitC c ∧ ∀ j, j < 5 → W.cell? ((a.add (i * 5)).add j) = some (cellV c j) := by
      intro i hi
      obtain ⟨cs', hc, ht⟩ := hx i (by omega)
      rw [Tryz.cellsOf92] at hc
      have hcl := (World.cells?_some hc).2.1
      obtain ⟨c, hF, hcc⟩ := cel_of_trod hcl ht
      refine ⟨c, hF, fun j hj => ?_⟩
      rw [(World.cells?_some hc).2.2 j hj]
      exact hcc j hj
    obtain ⟨E, hE⟩ := Deep.choose_lt hone
    unfold maxLen at hm
    refine ⟨(List.range len).map E, _, by rw [hcs], ⟨some a, cap, by simp, by simp; omega, fun h => (by cases h), fun c hc => ?_, fun j hj => ?_⟩⟩
    · rw [List.mem_map] at hc
      obtain ⟨i, hi, rfl⟩ := hc
      rw [List.mem_range] at hi
      exact (hE i hi).1
    · have hj' : j < len := by simpa using hj
      obtain ⟨b, off, rfl⟩ : ∃ b o, a = ⟨b, o, none⟩ := by
        have h0 := (hE 0 (by omega)).2 0 (by omega)
        obtain ⟨b, off, spot⟩ := a
        have hspot : spot = none := by simpa [Addr.add] using World.cell?_spot h0
        exact ⟨b, off, by rw [hspot]⟩
      have hc := (hE j hj').2
      simp only [Go.WideShapes.add_plain] at hc
      refine ⟨b, off, rfl, World.block_lt_of_cell? _ _ (hc 0 (by omega)), ?_⟩
      simp only [List.getElem_map, List.getElem_range]
      exact at5_of hc
set_option maxRecDepth 20000 in
theorem open_rules {H : Type} {enc : TypeId × Value → H} {W : World} {v : Value} {d : DataW H} {p : List MemPlace} {base : Nat} (hv : Value.okWide Tryz.prog W .any base 31 v)
    (h : DataW.Trod enc Tryz.prog W 0 (fun _ => true) true 31 v d p) : ∃ L : List (List Cel), Celss W v L ∧ (L = [] ∨ ∃ elems spare, d = .slice elems spare ∧ elems.length = L.length) := by
  obtain ⟨ao, len0, cap0, rfl⟩ := okWide_slice Tryz.underlying31 hv
  obtain ⟨fuel, hf⟩ := h
  rcases Deep.open_slice Tryz.underlying31 hf with ⟨hcs, _⟩ | ⟨a, len, cap, m, n, D, Pl, hcs, _, hl, hm, hmm, hxd, hx⟩
  · simp [Value.cells] at hcs
    obtain ⟨rfl, rfl, rfl⟩ := hcs
    exact ⟨[], ⟨none, 0, rfl, Nat.le_refl _, fun _ => rfl, fun j hj => absurd hj (Nat.not_lt_zero _)⟩, Or.inl rfl⟩
  · simp [Value.cells] at hcs
    obtain ⟨rfl, rfl, rfl⟩ := hcs
    have hm' : m = cap0 := by simpa using hmm
    have hone : ∀ i, i < len0 → ∃ e : Value × List Cel, W.cell? (a.add i) = some e.1 ∧ Cels W e.1 e.2 := by
      intro i hi
      obtain ⟨cs', hc, ht⟩ := hx i (by omega)
      rw [Tryz.cellsOf41, Nat.mul_one] at hc
      obtain ⟨l, v, rfl, h1⟩ := cels_of_trod ht
      refine ⟨(v, l), ?_, h1⟩
      have hh := (World.cells?_some hc).2.2 0 (by omega)
      simpa [Addr.add] using hh
    obtain ⟨E, hE⟩ := Deep.choose_lt hone
    refine ⟨(List.range len0).map (fun i => (E i).2), ⟨some a, cap0, by simp, by simp; omega, fun h => (by cases h), fun j hj => ?_⟩, Or.inr ⟨_, _, congrArg Prod.fst hxd, by simp⟩⟩
    have hj' : j < len0 := by simpa using hj
    obtain ⟨b, off, rfl⟩ : ∃ b o, a = ⟨b, o, none⟩ := by
      have h0 := (hE 0 (by omega)).1
      obtain ⟨b, off, spot⟩ := a
      have hspot : spot = none := by simpa [Addr.add] using World.cell?_spot h0
      exact ⟨b, off, by rw [hspot]⟩
    have hc := (hE j hj').1
    rw [Go.WideShapes.add_plain] at hc
    refine ⟨b, off, (E j).1, rfl, World.block_lt_of_cell? _ _ hc, hc, ?_⟩
    simp only [List.getElem_map, List.getElem_range]
    exact (hE j hj').2
set_option maxRecDepth 20000 in
theorem Tryz.bytes41 : Tryz.prog.bytesOf 41 = 24 := by kernel_rfl
set_option maxRecDepth 20000 in
theorem reach_rules {H : Type} {ds : List (DataW H)} {d : DataW H} {l : List (List Cel)} {ts : List TypeId} (hsz : (DataW.weightsEach Tryz.prog ts ds).all (· ≤ reachBytes) = true) (ht : ts[0]? = some 31) (hd : ds[0]? = some d) (h : l = [] ∨ ∃ elems spare, d = .slice elems spare ∧ elems.length = l.length) : l.length * 24 ≤ 140737488351232 := by
  rcases h with rfl | ⟨elems, spare, rfl, he⟩
  · simp
  · have := sized_slice hsz (j := 0) ht hd Tryz.underlying31
    rw [Tryz.bytes41] at this
    simp only [reachBytes] at this
    omega


end Go.Proofs.YtlpbeieljjgbaaaGreatDoor
