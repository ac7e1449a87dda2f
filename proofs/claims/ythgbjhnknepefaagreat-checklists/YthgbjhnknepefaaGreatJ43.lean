/- What is asked of package gram stands: Parse, Terms, Name. Layer 13: what was read is sound; the examples stand. A grammar that is handed in, opened. -/
import Derived.Test.YthgbjhnknepefaaGreatJ42
import Derived.Test.YthgbjhnknepefaaGreatJ29
import Derived.Test.YthgbjhnknepefaaGreatJ30
import Derived.Test.YthgbjhnknepefaaGreatJ36
import Derived.Test.YthgbjhnknepefaaGreatJ35
import Derived.Test.YthgbjhnknepefaaGreatJ14
import Derived.Deep.Strs
namespace Go.Proofs.YthgbjhnknepefaaGreat
open Go.RowKit Go.Maps

theorem prs_none {s : Txt} (h : prs s = none) : (prsE s).2 ≠ 0 := by
  unfold prs at h
  split at h
  · cases h
  · assumption
theorem ex1_words : (wrdA ex1).2.2 = 0 := by decide +kernel
theorem ex1_err : (rdS ex1).settle.err = 0 := by decide +kernel
theorem ex2_words : (wrdA ex2).2.2 = 0 := by decide +kernel
theorem ex2_err : (rdS ex2).settle.err = 5 ∧ (rdS ex2).settle.pl = 3 := by decide +kernel
theorem prs_of {s : Txt} (h0 : (wrdA s).2.2 = 0) (he : (rdS s).settle.err = 0) : prs s = some (prsG s) := by
  have h1 : (prsE s).2 = 0 := by
    unfold prsE
    rw [if_pos h0]
    exact he
  unfold prs
  rw [if_pos h1]
theorem ex1_prs : prs ex1 = some (prsG ex1) := prs_of ex1_words ex1_err
theorem prsOK : PrsOK prs where
  yes s g u hs h := by
    obtain ⟨h0, he, -, rfl⟩ := prs_some h
    exact parseGood12 s u hs h0 he
  no s u hs h := by
    have h := prs_none h
    by_cases h0 : (wrdA s).2.2 = 0
    · have he : (rdS s).settle.err ≠ 0 := by
        unfold prsE at h
        rw [if_pos h0] at h
        exact h
      refine (parseFault12 s u hs h0 he).mono ?_
      rintro e w' ⟨rfl, hb⟩
      exact ⟨none, none, none, none, 0, 0, 0, 0, 0, _, _, rfl, he, hb⟩
    · refine (parseB s u hs h0).mono ?_
      rintro e w' ⟨rfl, hb⟩
      exact ⟨none, none, none, none, 0, 0, 0, 0, 0, _, _, rfl, h0, hb⟩
  ex := ⟨prsG ex1, ex1_prs, by decide +kernel, by decide +kernel, fun h => by
    have h1 : (prsG ex1).prods.map Pd.right = [[1, 2], []] := by decide +kernel
    have h2 : ((prsG ex1).prods.map Pd.right)[0]'(by rw [List.length_map]; exact h) = [1, 2] := by simp only [h1]; rfl
    rwa [List.getElem_map] at h2⟩
  bad u := by
    refine (parseFault12 ex2 u (by decide) ex2_words (by rw [ex2_err.1]; decide)).mono ?_
    rintro e w' ⟨rfl, hb⟩
    rw [ex2_err.1, ex2_err.2]
    exact ⟨none, none, none, none, 0, 0, 0, 0, 0, rfl, hb⟩
  bnd _ _ h := prs_bnd h
end Go.Proofs.YthgbjhnknepefaaGreat
namespace Go.Proofs.YthgbjhnknepefaaGreat
open Go.RowKit Go.Maps

theorem rdOK : RdOK prs := ⟨fun _ _ h => prs_sndG h⟩
theorem exOK : ExOK prs := by
  have sA := prs_sndG prs_exA
  have sB := prs_sndG prs_exB
  refine ⟨gmE1, gmE2, prs_exA, ?_, sA, prs_exB, ?_, sB⟩
  · refine ChkR.dry 1 sA (fun j hj => absurd hj (Nat.not_lt_zero _)) (by decide) (fun m h1 h2 => ?_) (by decide) (by decide) (fun h => ends_E1 h) (fun m h1 h2 => ?_)
    · have h1 : (0 : Int) < m := h1
      have h2 : m ≤ (1 : Int) := h2
      obtain rfl : m = 1 := by omega
      exact Rch.start (g := gmE1) (by decide)
    · have h1 : (0 : Int) < m := h1
      omega
  · refine ChkR.reach 2 sB (fun j hj => absurd hj (Nat.not_lt_zero _)) (by decide) (by decide) (by decide) (fun h => ?_) (fun m h1 h2 => ?_)
    · have := rch_E2 h
      omega
    · have h1 : (0 : Int) < m := h1
      obtain rfl : m = 1 := by omega
      exact Rch.start (g := gmE2) (by decide)
theorem wkOK13 : WkOK := wkOK prsOK exOK ckOK

end Go.Proofs.YthgbjhnknepefaaGreat
namespace Go.Proofs.YthgbjhnknepefaaGreat
open Go.ChangeShapes Go.WideShapes Go.ChangeAt Go.RowKit

theorem strT_of (s : ByteArray) : s = strT s.data.toList := by obtain ⟨⟨l⟩⟩ := s; rfl
set_option maxRecDepth 20000 in
theorem lst_of_trod {α : Type} [Inhabited α] {sz : Nat} {R : World → Nat → Nat → α → Prop} {t e : TypeId} (ht : Tryz.prog.underlying t = some (.slice e)) (hc : Tryz.prog.cellsOf e = sz) (hz : 0 < sz)
    {H : Type} {enc : TypeId × Value → H} {W : World}
    (hel : ∀ (fuel : Nat) (cs : List Value) (x : DataW H × List MemPlace) (b o : Nat), DataW.trod enc Tryz.prog W 0 (fun _ => true) true fuel e cs = some x → cs.length = sz → (∀ j, j < sz → W.cell? ⟨b, o + j, none⟩ = cs[j]?) → ∃ y : α, R W b o y)
    {fuel : Nat} {cs : List Value} {x : DataW H × List MemPlace} (hf : DataW.trod enc Tryz.prog W 0 (fun _ => true) true fuel t cs = some x) :
    ∃ (l : List α) (v : Value), cs = [v] ∧ Lst sz R W v l ∧ l.length ≤ 9223372036854775807 := by
  rcases Deep.open_slice ht hf with ⟨hcs, _⟩ | ⟨a, len, cap, m, n, D, Pl, hcs, _, hl, hm, hmm, _, hx⟩
  · exact ⟨[], _, hcs, Lst.nil _, by simp⟩
  · have hm' : m = cap := by simpa using hmm
    unfold maxLen at hm
    rcases Nat.eq_zero_or_pos len with h0 | h0
    · subst h0
      exact ⟨[], _, hcs, ⟨some a, cap, rfl, Nat.zero_le _, fun h => (by cases h), fun j hj => absurd hj (Nat.not_lt_zero _)⟩, by simp⟩
    have hpl : ∃ b o, a = ⟨b, o, none⟩ := by
      obtain ⟨cs', hc', ht'⟩ := hx 0 (by omega)
      rw [hc] at hc'
      have hcl := (World.cells?_some hc').2.1
      have hh := (World.cells?_some hc').2.2 0 (by omega)
      rw [List.getElem?_eq_getElem (by omega)] at hh
      obtain ⟨b, off, spot⟩ := a
      have hspot : spot = none := by simpa [Addr.add] using World.cell?_spot hh
      exact ⟨b, off, by rw [hspot]⟩
    obtain ⟨b, off, rfl⟩ := hpl
    have hone : ∀ i, i < len → ∃ y : α, b < W.heap.size ∧ R W b (off + i * sz) y := by
      intro i hi
      obtain ⟨cs', hc', ht'⟩ := hx i (by omega)
      rw [hc] at hc'
      have hcl := (World.cells?_some hc').2.1
      have hh := (World.cells?_some hc').2.2
      simp only [Go.WideShapes.add_plain] at hh
      obtain ⟨y, hy⟩ := hel _ _ _ b (off + i * sz) ht' hcl hh
      have h00 := hh 0 hz
      rw [List.getElem?_eq_getElem (by omega)] at h00
      exact ⟨y, World.block_lt_of_cell? _ _ h00, hy⟩
    obtain ⟨E, hE⟩ := Deep.choose_lt hone
    refine ⟨(List.range len).map E, _, by rw [hcs], ⟨some ⟨b, off, none⟩, cap, by simp, by simp; omega, fun h => (by cases h), fun j hj => ?_⟩, by simp; omega⟩
    have hj' : j < len := by simpa using hj
    refine ⟨b, off, rfl, (hE j hj').1, ?_⟩
    simp only [List.getElem_map, List.getElem_range]
    exact (hE j hj').2
instance : Inhabited Rl := ⟨⟨[], [], false⟩⟩
instance : Inhabited Pd := ⟨⟨0, [], 0⟩⟩
set_option maxRecDepth 20000 in
theorem Tryz.cellsOfSt : Tryz.prog.cellsOf 9 = 1 := by kernel_rfl
set_option maxRecDepth 20000 in
theorem Tryz.cellsOfBo : Tryz.prog.cellsOf 4 = 1 := by kernel_rfl
set_option maxRecDepth 20000 in
theorem Tryz.cellsOfRl : Tryz.prog.cellsOf 48 = 3 := by kernel_rfl
set_option maxRecDepth 20000 in
theorem Tryz.cellsOfLv : Tryz.prog.cellsOf 73 = 2 := by kernel_rfl
set_option maxRecDepth 20000 in
theorem Tryz.cellsOfPd : Tryz.prog.cellsOf 43 = 3 := by kernel_rfl
set_option maxRecDepth 20000 in
theorem Tryz.cellsOfSR : Tryz.prog.cellsOf 22 = 1 := by kernel_rfl
set_option maxRecDepth 20000 in
theorem Tryz.cellsOfST : Tryz.prog.cellsOf 23 = 1 := by kernel_rfl
set_option maxRecDepth 20000 in
theorem Tryz.cellsOfSL : Tryz.prog.cellsOf 24 = 1 := by kernel_rfl
set_option maxRecDepth 20000 in
theorem Tryz.cellsOfSP : Tryz.prog.cellsOf 25 = 1 := by kernel_rfl
set_option maxRecDepth 20000 in
theorem Tryz.cellsOfGm : Tryz.prog.cellsOf 27 = 5 := by kernel_rfl
variable {H : Type} {enc : TypeId × Value → H} {W : World}
set_option maxRecDepth 20000 in
theorem rl_el (fuel : Nat) (cs : List Value) (x : DataW H × List MemPlace) (b o : Nat) (hf : DataW.trod enc Tryz.prog W 0 (fun _ => true) true fuel 48 cs = some x) (hl : cs.length = 3) (hc : ∀ j, j < 3 → W.cell? ⟨b, o + j, none⟩ = cs[j]?) : ∃ y : Rl, RuleAt W b o y := by
  obtain ⟨y0, y1, y2, m, _, _, t0, t1, t2⟩ := Deep.trod_struct3 Tryz.underlying48 hf
  match cs, hl with
  | [c0, c1, c2], _ =>
    obtain ⟨s, e0, _, _⟩ := DataW.trod_string Tryz.underlying9 t0
    obtain ⟨l, v, e1, hC⟩ := cels_of_trod t1
    obtain ⟨k, e2, _⟩ := DataW.trod_bool Tryz.underlying4 t2
    simp [Tryz.cellsOfSt, Tryz.cellsOfBo, Tryz.cellsOf46] at e0 e1 e2
    subst e0 e1 e2
    refine ⟨⟨s.data.toList, l, k⟩, c1, ?_, hc 1 (by omega), hc 2 (by omega), hC⟩
    rw [← strT_of]
    exact hc 0 (by omega)
set_option maxRecDepth 20000 in
theorem tx_el (fuel : Nat) (cs : List Value) (x : DataW H × List MemPlace) (b o : Nat) (hf : DataW.trod enc Tryz.prog W 0 (fun _ => true) true fuel 9 cs = some x) (hl : cs.length = 1) (hc : ∀ j, j < 1 → W.cell? ⟨b, o + j, none⟩ = cs[j]?) : ∃ y : Txt, TxtAt W b o y := by
  obtain ⟨s, e0, _, _⟩ := DataW.trod_string Tryz.underlying9 hf
  subst e0
  refine ⟨s.data.toList, ?_⟩
  unfold TxtAt
  rw [← strT_of]
  exact hc 0 (by omega)
set_option maxRecDepth 20000 in
theorem lv_el (fuel : Nat) (cs : List Value) (x : DataW H × List MemPlace) (b o : Nat) (hf : DataW.trod enc Tryz.prog W 0 (fun _ => true) true fuel 73 cs = some x) (hl : cs.length = 2) (hc : ∀ j, j < 2 → W.cell? ⟨b, o + j, none⟩ = cs[j]?) : ∃ y : Int × Int, LevAt W b o y := by
  obtain ⟨y0, y1, m, _, _, t0, t1⟩ := trod_struct2 Tryz.underlying73 hf
  match cs, hl with
  | [c0, c1], _ =>
    obtain ⟨p, e0, _, _⟩ := DataW.trod_int Tryz.underlying3 t0
    obtain ⟨q, e1, _, _⟩ := DataW.trod_int Tryz.underlying3 t1
    simp [Tryz.cellsOf3] at e0 e1
    subst e0 e1
    exact ⟨(p, q), hc 0 (by omega), hc 1 (by omega)⟩
set_option maxRecDepth 20000 in
theorem pd_el (fuel : Nat) (cs : List Value) (x : DataW H × List MemPlace) (b o : Nat) (hf : DataW.trod enc Tryz.prog W 0 (fun _ => true) true fuel 43 cs = some x) (hl : cs.length = 3) (hc : ∀ j, j < 3 → W.cell? ⟨b, o + j, none⟩ = cs[j]?) : ∃ y : Pd, ProdAt W b o y := by
  obtain ⟨y0, y1, y2, m, _, _, t0, t1, t2⟩ := Deep.trod_struct3 Tryz.underlying43 hf
  match cs, hl with
  | [c0, c1, c2], _ =>
    obtain ⟨p, e0, _, _⟩ := DataW.trod_int Tryz.underlying3 t0
    obtain ⟨l, v, e1, hC, _⟩ := nums_of_trod t1
    obtain ⟨q, e2, _, _⟩ := DataW.trod_int Tryz.underlying3 t2
    simp [Tryz.cellsOf3, Tryz.cellsOf38] at e0 e1 e2
    subst e0 e1 e2
    exact ⟨⟨p, l, q⟩, c1, hc 0 (by omega), hc 1 (by omega), hc 2 (by omega), hC⟩
set_option maxRecDepth 20000 in
theorem open_gram {v : Value} {d : DataW H} {q : List MemPlace} {base : Nat} (hv : Value.okWide Tryz.prog W .any base 27 v) (h : DataW.Trod enc Tryz.prog W 0 (fun _ => true) true 27 v d q) :
    ∃ (g : Gm) (rv nv lv pv : Value), v = .agg #[rv, nv, lv, pv, .int .i64 g.start] ∧ GmV W rv nv lv pv g := by
  obtain ⟨cs, rfl, hcs⟩ := okWide_struct Tryz.underlying27 hv
  obtain ⟨fuel, hf⟩ := h
  rw [Tryz.cellsOfGm] at hcs
  obtain ⟨xs, n, _, _, hl, hlen, hfs⟩ := DataW.trod_struct Tryz.underlying27 hf
  have hce : Value.cells (.agg cs) = cs := rfl
  rw [hce] at hfs
  obtain ⟨cl⟩ := cs
  match cl, hcs with
  | [c0, c1, c2, c3, c4], _ =>
    match xs, hlen with
    | [y0, y1, y2, y3, y4], _ =>
      have t0 : DataW.trod enc Tryz.prog W 0 (fun _ => true) true n 22 [c0] = some y0 := by
        have h := hfs 0 _ rfl
        simpa [Tryz.cellsOfSR] using h
      have t1 : DataW.trod enc Tryz.prog W 0 (fun _ => true) true n 23 [c1] = some y1 := by
        have h := hfs 1 _ rfl
        simpa [Tryz.cellsOfST] using h
      have t2 : DataW.trod enc Tryz.prog W 0 (fun _ => true) true n 24 [c2] = some y2 := by
        have h := hfs 2 _ rfl
        simpa [Tryz.cellsOfSL] using h
      have t3 : DataW.trod enc Tryz.prog W 0 (fun _ => true) true n 25 [c3] = some y3 := by
        have h := hfs 3 _ rfl
        simpa [Tryz.cellsOfSP] using h
      have t4 : DataW.trod enc Tryz.prog W 0 (fun _ => true) true n 3 [c4] = some y4 := by
        have h := hfs 4 _ rfl
        simpa [Tryz.cellsOf3] using h
      obtain ⟨R, v0, e0, hR, _⟩ := lst_of_trod Tryz.underlying22 Tryz.cellsOfRl (by omega) rl_el t0
      obtain ⟨N, v1, e1, hN, _⟩ := lst_of_trod Tryz.underlying23 Tryz.cellsOfSt (by omega) tx_el t1
      obtain ⟨L, v2, e2, hL, _⟩ := lst_of_trod Tryz.underlying24 Tryz.cellsOfLv (by omega) lv_el t2
      obtain ⟨P, v3, e3, hP, _⟩ := lst_of_trod Tryz.underlying25 Tryz.cellsOfPd (by omega) pd_el t3
      obtain ⟨s, e4, _, _⟩ := DataW.trod_int Tryz.underlying3 t4
      simp only [List.cons.injEq, and_true] at e0 e1 e2 e3 e4
      subst e0 e1 e2 e3 e4
      exact ⟨⟨R, N, L, P, s⟩, c0, c1, c2, c3, rfl, ⟨hR, hN, hL, hP⟩⟩

end Go.Proofs.YthgbjhnknepefaaGreat
