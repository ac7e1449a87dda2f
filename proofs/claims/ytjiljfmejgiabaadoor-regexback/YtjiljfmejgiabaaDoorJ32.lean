/- Show; what is asked of package regex, here. The arguments of layer 6's laws, opened: cells, and how many bytes they take. -/
import Derived.Test.YtjiljfmejgiabaaDoorJ27
import Derived.Test.YtjiljfmejgiabaaDoorJ28
import Derived.Test.YtjiljfmejgiabaaDoorJ31
import Derived.Test.YtjiljfmejgiabaaDoorJ9
import Derived.ChangeSlices
import Derived.Deep.Slices
import Derived.WideKeyArr2
import Derived.SizedLaws
namespace Go.Proofs.YtjiljfmejgiabaaDoor
open Go.RowKit

theorem showPNo (v : Value) (l : List Cel) (w : World) (hA : Cels w v l) (hr : rightB l = false) : Calls Tryd.prog 6 #[v] w fun e w' => e = .returned (.tuple #[.string ⟨#[]⟩, .int .i64 1]) ∧ Below w.heap.size w w' := by
  have G := hid (rightP v l w hA)
  rw [hr] at G
  obtain ⟨av, cv, rfl, _⟩ := hA
  go_enter Tryd.func6, Tryd.ntmps6
  go_wp2_with (go_at_call 13; refine G.out.mono ?_; rintro e w1 ⟨rfl, hb1⟩)
  go_ret2
  exact ⟨rfl, hb1⟩
set_option maxHeartbeats 1000000 in
theorem showPYes (v : Value) (t : Rx) (w : World) (hA : Cels w v (post t)) (ho : t.ok) (h60 : (post t).length ≤ 60) (hT : Tab w) : Calls Tryd.prog 6 #[v] w fun e w' => e = .returned (.tuple #[.string (strT (txt t)), .int .i64 0]) ∧ Below w.heap.size w w' := by
  have G := hid (rightP v _ w hA)
  rw [right_post ho h60] at G
  have GF := hid (fun u (hu : Below w.heap.size w u) => foldShow v t u (hA.keep hu) ho h60 (hT.keep hu))
  have hsz : (strT (txt t)).size ≤ 281474976710656 := by rw [strT_size]; have := txt_len t; omega
  have GC := hid (fun u => cloneC (strT (txt t)) u hsz)
  obtain ⟨av, cv, rfl, _⟩ := hA
  generalize (post t).length = n at G GF
  generalize strT (txt t) = X at GF GC ⊢
  generalize ((power t - 1 : Nat) : Int) = P at GF
  have hfd : ∀ u : World, (Instr.field 37 (shV X P) 0).run Tryd.prog u = .ok (.string X) u := fun u => by kernel_rfl
  clear hsz hT ho h60
  go_enter Tryd.func6, Tryd.ntmps6
  go_wp2_with (first
    | (go_at_call 13; refine G.out.mono ?_; rintro e w1 ⟨rfl, hb1⟩)
    | (go_at_call 15; refine (GF.out _ hb1).mono ?_; rintro e w2 ⟨rfl, hb2⟩)
    | (go_at_call 14; refine (GC.out _).mono ?_; rintro e w3 ⟨rfl, hb3⟩))
  go_ret2
  exact ⟨rfl, bl_step (bl_step hb1 hb2) hb3⟩

theorem regexOK : RegexOK Tab where
  keep := fun _ _ h hb => h.keep hb
  showNo := fun v l u hc hr _ => showPNo v l u hc hr
  showYes := fun v t u hc ho h60 hT => showPYes v t u hc ho h60 hT
  long := fun s u hs _ => parseLong s u hs
  bad := fun s u hs hr _ => (parseBad s u hs hr).mono fun _ _ ⟨a, c, n, he, _, hb⟩ => ⟨a, c, n, he, hb⟩
  full := fun s t u hs hr hl _ => parseFull s t u hs hr hl
  good := fun s t u hs hr hl _ => parseGood s t u hs hr hl
  wake := fun u _ => parseWake u

end Go.Proofs.YtjiljfmejgiabaaDoor
namespace Go.Proofs.YtjiljfmejgiabaaDoor
open Go.ChangeShapes Go.WideShapes Go.ChangeAt Go.RowKit

theorem Tryd.cellsOf44 : Tryd.prog.cellsOf 44 = 4 := by kernel_rfl
theorem Tryd.cellsOf46 : Tryd.prog.cellsOf 46 = 5 := by kernel_rfl
theorem Tryd.cellsOf3 : Tryd.prog.cellsOf 3 = 1 := by kernel_rfl
theorem Tryd.bytes46 : Tryd.prog.bytesOf 46 = 40 := by kernel_rfl
theorem bound_u64 {n : Int} (h : (Lit.int .u64 n).wf = true) : 0 ≤ n ∧ n < 18446744073709551616 := by
  have h1 : IntKind.u64.min = 0 := by decide
  have h2 : IntKind.u64.max = 18446744073709551615 := by decide
  simp [Lit.wf] at h
  omega
theorem bound_i64 {n : Int} (h : (Lit.int .i64 n).wf = true) : -9223372036854775808 ≤ n ∧ n ≤ 9223372036854775807 := by
  have h1 : IntKind.i64.min = -9223372036854775808 := by decide
  have h2 : IntKind.i64.max = 9223372036854775807 := by decide
  simp [Lit.wf] at h
  omega
instance : Inhabited W4 := ⟨⟨0, 0, 0, 0⟩⟩
instance : Inhabited Cel := ⟨⟨0, ⟨0, 0, 0, 0⟩⟩⟩

set_option maxRecDepth 100000 in
theorem set_of_trod {H : Type} {enc : TypeId × Value → H} {W : World} {fuel : Nat} {cs : List Value} {x : DataW H × List MemPlace} (hf : DataW.trod enc Tryd.prog W 0 (fun _ => true) true fuel 44 cs = some x) :
    ∃ S : W4, Fit4 S ∧ cs = [.int .u64 (S.a : Int), .int .u64 (S.b : Int), .int .u64 (S.c : Int), .int .u64 (S.d : Int)] := by
  cases fuel with
  | zero => simp [DataW.trod] at hf
  | succ m =>
    rw [DataW.trod_step] at hf
    unfold DataW.trodStep at hf
    simp only [Tryd.underlying44, Tryd.cellsOf44, Tryd.cells42] at hf
    split at hf
    case isFalse => cases hf
    rename_i hlen
    simp only [Option.map_eq_some_iff] at hf
    obtain ⟨ys, hy, _⟩ := hf
    rw [show List.range 4 = [0, 1, 2, 3] from rfl] at hy
    simp only [List.mapM_cons, List.mapM_nil, bind, Option.bind_eq_some_iff, pure] at hy
    obtain ⟨y0, h0, z0, ⟨y1, h1, z1, ⟨y2, h2, z2, ⟨y3, h3, _⟩, _⟩, _⟩, _⟩ := hy
    obtain ⟨n0, e0, _, w0⟩ := DataW.trod_int Tryd.underlying42 h0
    obtain ⟨n1, e1, _, w1⟩ := DataW.trod_int Tryd.underlying42 h1
    obtain ⟨n2, e2, _, w2⟩ := DataW.trod_int Tryd.underlying42 h2
    obtain ⟨n3, e3, _, w3⟩ := DataW.trod_int Tryd.underlying42 h3
    match cs, hlen with
    | [c0, c1, c2, c3], _ =>
      simp at e0 e1 e2 e3
      subst e0 e1 e2 e3
      have b0 := bound_u64 w0
      have b1 := bound_u64 w1
      have b2 := bound_u64 w2
      have b3 := bound_u64 w3
      refine ⟨⟨n0.toNat, n1.toNat, n2.toNat, n3.toNat⟩, ⟨?_, ?_, ?_, ?_⟩, ?_⟩
      · simp only; omega
      · simp only; omega
      · simp only; omega
      · simp only; omega
      · simp only [Int.toNat_of_nonneg b0.1, Int.toNat_of_nonneg b1.1, Int.toNat_of_nonneg b2.1, Int.toNat_of_nonneg b3.1]

set_option maxRecDepth 100000 in
theorem cel_of_trod {H : Type} {enc : TypeId × Value → H} {W : World} {fuel : Nat} {cs : List Value} {x : DataW H × List MemPlace} (hl : cs.length = 5) (hf : DataW.trod enc Tryd.prog W 0 (fun _ => true) true fuel 46 cs = some x) :
    ∃ c : Cel, FitC c ∧ ∀ j, j < 5 → cs[j]? = some (cellV c j) := by
  obtain ⟨y0, y1, m, rfl, _, t0, t1⟩ := trod_struct2 Tryd.underlying46 hf
  obtain ⟨z, e0, _, wz⟩ := DataW.trod_int Tryd.underlying3 t0
  obtain ⟨S, hS, e1⟩ := set_of_trod t1
  have bz := bound_i64 wz
  match cs, hl with
  | [c0, c1, c2, c3, c4], _ =>
    simp [Tryd.cellsOf3, Tryd.cellsOf44] at e0 e1
    obtain ⟨r1, r2, r3, r4⟩ := e1
    subst e0 r1 r2 r3 r4
    refine ⟨⟨z, S⟩, ⟨bz.1, bz.2, hS⟩, fun j hj => ?_⟩
    have h5 : j = 0 ∨ j = 1 ∨ j = 2 ∨ j = 3 ∨ j = 4 := by omega
    rcases h5 with rfl | rfl | rfl | rfl | rfl <;> rfl

set_option maxRecDepth 100000 in
theorem open_cells {H : Type} {enc : TypeId × Value → H} {W : World} {v : Value} {d : DataW H} {p : List MemPlace} {base : Nat} (hv : Value.okWide Tryd.prog W .any base 22 v)
    (h : DataW.Trod enc Tryd.prog W 0 (fun _ => true) true 22 v d p) :
    ∃ l : List Cel, Cels W v l ∧ (l = [] ∨ ∃ elems spare, d = .slice elems spare ∧ elems.length = l.length) := by
  obtain ⟨ao, len, cap, rfl⟩ := okWide_slice Tryd.underlying22 hv
  obtain ⟨fuel, hf⟩ := h
  rcases Deep.open_slice Tryd.underlying22 hf with ⟨hcs, _⟩ | ⟨a, len', cap', m, n, D, Pl, hcs, _, hl, hm, hmm, hxd, hx⟩
  · simp [Value.cells] at hcs
    obtain ⟨rfl, rfl, rfl⟩ := hcs
    exact ⟨[], ⟨none, 0, rfl, Nat.le_refl _, fun _ => rfl, fun S hS => absurd hS (List.not_mem_nil), fun j hj => absurd hj (Nat.not_lt_zero _)⟩, Or.inl rfl⟩
  · simp [Value.cells] at hcs
    obtain ⟨rfl, rfl, rfl⟩ := hcs
    have hm' : m = cap := by simpa using hmm
    have hone : ∀ i, i < len → ∃ c : Cel, FitC c ∧ ∀ j, j < 5 → W.cell? ((a.add (i * 5)).add j) = some (cellV c j) := by
      intro i hi
      obtain ⟨cs', hc, ht⟩ := hx i (by omega)
      rw [Tryd.cellsOf46] at hc
      have hcl := (World.cells?_some hc).2.1
      obtain ⟨c, hF, hcc⟩ := cel_of_trod hcl ht
      refine ⟨c, hF, fun j hj => ?_⟩
      rw [(World.cells?_some hc).2.2 j hj]
      exact hcc j hj
    obtain ⟨E, hE⟩ := Deep.choose_lt hone
    refine ⟨(List.range len).map E, ⟨some a, cap, by simp, by simp; omega, fun h => (by cases h), fun S hS => ?_, fun j hj => ?_⟩, Or.inr ?_⟩
    · rw [List.mem_map] at hS
      obtain ⟨i, hi, rfl⟩ := hS
      rw [List.mem_range] at hi
      exact (hE i hi).1
    · have hj' : j < len := by simpa using hj
      have hc := (hE j hj').2
      obtain ⟨b, off, spot⟩ := a
      have hspot : spot = none := by simpa [Addr.add] using World.cell?_spot ((hE 0 (by omega)).2 0 (by omega))
      subst hspot
      simp only [Go.WideShapes.add_plain] at hc
      refine ⟨b, off, rfl, World.block_lt_of_cell? _ _ (hc 0 (by omega)), at5_of fun i hi => ?_⟩
      simp only [List.getElem_map, List.getElem_range]
      exact hc i hi
    · have := congrArg Prod.fst hxd
      exact ⟨_, _, this, by simp⟩
theorem reach_cells {H : Type} {ds : List (DataW H)} {d : DataW H} {l : List Cel} {ts : List TypeId} (hsz : (DataW.weightsEach Tryd.prog ts ds).all (· ≤ reachBytes) = true) (ht : ts[0]? = some 22) (hd : ds[0]? = some d) (h : l = [] ∨ ∃ elems spare, d = .slice elems spare ∧ elems.length = l.length) : l.length * 40 ≤ 140737488351232 := by
  rcases h with rfl | ⟨elems, spare, rfl, he⟩
  · simp
  · have := sized_slice hsz (j := 0) ht hd Tryd.underlying22
    rw [Tryd.bytes46] at this
    simp only [reachBytes] at this
    omega

end Go.Proofs.YtjiljfmejgiabaaDoor
