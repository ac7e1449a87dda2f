/- What is asked of package gram stands: Parse, Terms, Name. topiaryref12.Same, of two grammars that are alike. gram.Show; what GramBack asks of it. The reference: Same. -/
import Derived.Test.YtcledgljbmepaaaGreatDoorJ39
import Derived.Test.YtcledgljbmepaaaGreatDoorJ31
import Derived.Test.YtcledgljbmepaaaGreatDoorJ15
import Derived.Test.YtcledgljbmepaaaGreatDoorJ32
import Derived.Test.YtcledgljbmepaaaGreatDoorJ4
import Derived.Deep.RegionHeld3
namespace Go.Proofs.YtcledgljbmepaaaGreatDoor
open Go.RowKit Go.Maps

theorem prs_none {s : Txt} (h : prs s = none) : (prsE s).2 ≠ 0 := by
  unfold prs at h
  split at h
  · cases h
  · assumption
theorem ex1_words : (wrdA ex1).2.2 = 0 := by decide +kernel
theorem ex1_err : (rdS ex1).settle.err = 0 := by decide +kernel
theorem ex2_words : (wrdA ex2).2.2 = 0 := by decide +kernel
theorem ex2_err : (rdS ex2).settle.err = 5 ∧ (rdS ex2).settle.pl = 3 := by decide +kernel
theorem prs_of {s : Txt} (h0 : (wrdA s).2.2 = 0) (he : (rdS s).settle.err = 0) : prs s = some (prsG s) := by
  have h1 : (prsE s).2 = 0 := by
    unfold prsE
    rw [if_pos h0]
    exact he
  unfold prs
  rw [if_pos h1]
theorem ex1_prs : prs ex1 = some (prsG ex1) := prs_of ex1_words ex1_err
theorem prsOK : PrsOK prs where
  yes s g u hs h := by
    obtain ⟨h0, he, -, rfl⟩ := prs_some h
    exact parseGood12 s u hs h0 he
  no s u hs h := by
    have h := prs_none h
    by_cases h0 : (wrdA s).2.2 = 0
    · have he : (rdS s).settle.err ≠ 0 := by
        unfold prsE at h
        rw [if_pos h0] at h
        exact h
      refine (parseFault12 s u hs h0 he).mono ?_
      rintro e w' ⟨rfl, hb⟩
      exact ⟨none, none, none, none, 0, 0, 0, 0, 0, _, _, rfl, he, hb⟩
    · refine (parseB s u (by omega) h0).mono ?_
      rintro e w' ⟨rfl, hb⟩
      exact ⟨none, none, none, none, 0, 0, 0, 0, 0, _, _, rfl, h0, hb⟩
  ex := ⟨prsG ex1, ex1_prs, by decide +kernel, by decide +kernel, fun h => by
    have h1 : (prsG ex1).prods.map Pd.right = [[1, 2], []] := by decide +kernel
    have h2 : ((prsG ex1).prods.map Pd.right)[0]'(by rw [List.length_map]; exact h) = [1, 2] := by simp only [h1]; rfl
    rwa [List.getElem_map] at h2⟩
  bad u := by
    refine (parseFault12 ex2 u (by decide) ex2_words (by rw [ex2_err.1]; decide)).mono ?_
    rintro e w' ⟨rfl, hb⟩
    rw [ex2_err.1, ex2_err.2]
    exact ⟨none, none, none, none, 0, 0, 0, 0, 0, rfl, hb⟩
  bnd _ _ h := prs_bnd h
end Go.Proofs.YtcledgljbmepaaaGreatDoor
namespace Go.Proofs.YtcledgljbmepaaaGreatDoor
open Go.RowKit Go.Maps Go.Sort

/-- what is asked of layer 6's reference -/
structure LowC : Prop where
  cels : ∀ (v v' : Value) (l : List Cel) (u : World), Cels u v l → Cels u v' l → l.length ≤ 1000000 → Calls Tryz.prog 16 #[v, v'] u fun e w' => e = .returned (.bool true) ∧ Below u.heap.size u w'
set_option maxRecDepth 20000 in
set_option maxHeartbeats 8000000 in
theorem sameYes (L : LowC) (LN : LowN) (rv nv lv pv rv' nv' lv' pv' : Value) (g : Gm) (w : World) (h : GmV w rv nv lv pv g) (h' : GmV w rv' nv' lv' pv' g) (hl1 : g.rules.length ≤ 1000000) (hl2 : g.nonts.length ≤ 1000000) (hl3 : g.levels.length ≤ 1000000) (hl4 : g.prods.length ≤ 1000000)
    (hr : ∀ r ∈ g.rules, r.re.length ≤ 1000000) (hp : ∀ p ∈ g.prods, p.right.length ≤ 1000000) :
    Calls Tryz.prog 7 #[gmA rv nv lv pv g.start, gmA rv' nv' lv' pv' g.start] w fun e w' => e = .returned (.bool true) ∧ Below w.heap.size w w' := by
  have hV := hid h
  have hV' := hid h'
  obtain ⟨a, c, rfl⟩ := h.rules.shape
  obtain ⟨na, nc, rfl⟩ := h.nonts.shape
  obtain ⟨la, lc, rfl⟩ := h.levels.shape
  obtain ⟨pa, pc, rfl⟩ := h.prods.shape
  obtain ⟨a', c', rfl⟩ := h'.rules.shape
  obtain ⟨na', nc', rfl⟩ := h'.nonts.shape
  obtain ⟨la', lc', rfl⟩ := h'.levels.shape
  obtain ⟨pa', pc', rfl⟩ := h'.prods.shape
  clear h h'
  have GC := hid (fun v v' l u h1 h2 h3 => L.cels v v' l u h1 h2 h3)
  have GU := hid (fun v v' l u h1 h2 h3 => LN.nums v v' l u h1 h2 h3)
  have hr := hid hr
  have hp := hid hp
  generalize g.start = st at *
  obtain ⟨rn, hrn⟩ : ∃ n, Hid (g.rules.length = n) := ⟨_, hid rfl⟩
  obtain ⟨nn, hnn⟩ : ∃ n, Hid (g.nonts.length = n) := ⟨_, hid rfl⟩
  obtain ⟨ll, hll⟩ : ∃ n, Hid (g.levels.length = n) := ⟨_, hid rfl⟩
  obtain ⟨pp, hpp⟩ : ∃ n, Hid (g.prods.length = n) := ⟨_, hid rfl⟩
  rw [hrn.out, hnn.out, hll.out, hpp.out] at hV hV' ⊢
  rw [hrn.out] at hl1
  rw [hnn.out] at hl2
  rw [hll.out] at hl3
  rw [hpp.out] at hl4
  obtain ⟨W1, hW1⟩ : ∃ x, w.alloc (.cells #[.slice a rn c, .slice na nn nc, .slice la ll lc, .slice pa pp pc, .int .i64 st] 28) = x := ⟨_, rfl⟩
  have hB1 : Hid (Below w.heap.size w W1) := by rw [← hW1]; exact hid (al' w _)
  have hk1 : Hid (W1.heap[w.heap.size]? = some (.cells #[.slice a rn c, .slice na nn nc, .slice la ll lc, .slice pa pp pc, .int .i64 st] 28)) := by rw [← hW1]; exact hid (heap_new w _)
  have hz1 : W1.heap.size = w.heap.size + 1 := by rw [← hW1]; exact World.size_alloc ..
  obtain ⟨W2, hW2⟩ : ∃ x, W1.alloc (.cells #[.slice a' rn c', .slice na' nn nc', .slice la' ll lc', .slice pa' pp pc', .int .i64 st] 28) = x := ⟨_, rfl⟩
  have hB2 : Hid (Below w.heap.size w W2) := by rw [← hW2]; exact hid (bl_step hB1.out (al' W1 _))
  have hk1 : Hid (W2.heap[w.heap.size]? = some (.cells #[.slice a rn c, .slice na nn nc, .slice la ll lc, .slice pa pp pc, .int .i64 st] 28)) := by rw [← hW2]; exact hid (hs_keep hk1.out (al' W1 _))
  have hk2 : Hid (W2.heap[w.heap.size + 1]? = some (.cells #[.slice a' rn c', .slice na' nn nc', .slice la' ll lc', .slice pa' pp pc', .int .i64 st] 28)) := by rw [← hW2, ← hz1]; exact hid (heap_new W1 _)
  have hV2 := hid (hV.out.keep hB2.out)
  have hV2' := hid (hV'.out.keep hB2.out)
  clear hV hV'
  have hBx : Hid (∀ u, Below W2.heap.size W2 u → (u.cell? ⟨w.heap.size, 0, none⟩ = some (.slice a rn c) ∧ u.cell? ⟨w.heap.size, 1, none⟩ = some (.slice na nn nc) ∧ u.cell? ⟨w.heap.size, 2, none⟩ = some (.slice la ll lc) ∧ u.cell? ⟨w.heap.size, 3, none⟩ = some (.slice pa pp pc) ∧ u.cell? ⟨w.heap.size, 4, none⟩ = some (.int .i64 st)) ∧ (u.cell? ⟨w.heap.size + 1, 0, none⟩ = some (.slice a' rn c') ∧ u.cell? ⟨w.heap.size + 1, 1, none⟩ = some (.slice na' nn nc') ∧ u.cell? ⟨w.heap.size + 1, 2, none⟩ = some (.slice la' ll lc') ∧ u.cell? ⟨w.heap.size + 1, 3, none⟩ = some (.slice pa' pp pc') ∧ u.cell? ⟨w.heap.size + 1, 4, none⟩ = some (.int .i64 st))) := hid (fun u hu => by
    have e1 := hs_keep hk1.out hu
    have e2 := hs_keep hk2.out hu
    exact ⟨⟨blk_cell e1 rfl, blk_cell e1 rfl, blk_cell e1 rfl, blk_cell e1 rfl, blk_cell e1 rfl⟩, ⟨blk_cell e2 rfl, blk_cell e2 rfl, blk_cell e2 rfl, blk_cell e2 rfl, blk_cell e2 rfl⟩⟩)
  obtain ⟨⟨b0, b1, b2, b3, b4⟩, ⟨d0, d1, d2, d3, d4⟩⟩ := hBx.out W2 (Below.refl _ _)
  clear hk1 hk2
  go_enter Tryz.func7, Tryz.ntmps7
  go_wp2
  clear hW1 hW2 hz1 b0 b1 b2 b3 b4 d0 d1 d2 d3 d4
  go_loopw [5] (fun i wr => ∃ k : Nat, k ≤ rn ∧ i = .int .i64 (k : Int) ∧ Hid (Below W2.heap.size W2 wr)) (fun i _ => rn - (intOf i).toNat)
  case atStart => exact ⟨0, Nat.zero_le _, rfl, hid (Below.refl _ _)⟩
  case round =>
    obtain ⟨k, hk, rfl, hw⟩ := hrel
    obtain ⟨⟨z0, z1, z2, z3, -⟩, ⟨q0, q1, q2, q3, -⟩⟩ := hBx.out wr hw.out
    by_cases hlt : k < rn
    · have hltz : (k : Int) < (rn : Int) := by omega
      have hkl : k < g.rules.length := by rw [hrn.out]; exact hlt
      obtain ⟨b, o, he, -, v, x0, x1, x2, hC⟩ := (hV2.out.keep hw.out).rules.at hkl
      obtain ⟨b', o', he', -, v', x0', x1', x2', hC'⟩ := (hV2'.out.keep hw.out).rules.at hkl
      subst he he'
      have hln := hr.out _ (List.getElem_mem hkl)
      have cA : Hid (∀ d os, Calls Tryz.prog 16 #[v, v'] (grow (redrawn wr d) os) fun e w'' => e = .returned (.bool true) ∧ ∃ p : Regrown, w'' = grow (redrawn wr p.d) p.os) := hid (fun d os => Calls.regrown_of (GC.out v v' _ _ (hC.keep (below_regrown wr d os)) (hC'.keep (below_regrown wr d os)) hln))
      generalize strT g.rules[k].name = U at *
      generalize g.rules[k].skip = sk at *
      have y0 := cell_regrown z0
      have y1 := cell_regrown q0
      have y2 := cell_regrown x0
      have y3 := cell_regrown x1
      have y4 := cell_regrown x2
      have y5 := cell_regrown x0'
      have y6 := cell_regrown x1'
      have y7 := cell_regrown x2'
      clear q0 x0 x1 x2 x0' x1' x2' hC hC' hln
      go_wp2_with fail
      refine wp_region_quiet_below (by kernel_rfl) (by kernel_rfl) ?_
      repeat (first | go_big_quiet_step (exact cA.out _ _) | quiet_step (exact cA.out _ _))
      refine wpQuiet_nil ?_
      intro _ hw'
      obtain ⟨⟨dq, osq⟩, hw''⟩ := hw'
      subst hw''
      have hwq := hid (bl_step hw.out (below_regrown wr dq osq))
      go_wp2
      go_roundw
      case rel => exact ⟨k + 1, by omega, by go_num, hwq⟩
      case measure => simp [intOf]; omega
    · have hltz : ¬ (k : Int) < (rn : Int) := by omega
      have hw5 := hw
      clear hk hlt
      go_wp2
      clear hltz z0 z1 z2 z3 q0 q1 q2 q3 hw
      go_loopw [6] (fun i wr => ∃ k : Nat, k ≤ nn ∧ i = .int .i64 (k : Int) ∧ Hid (Below W2.heap.size W2 wr)) (fun i _ => nn - (intOf i).toNat)
      case atStart => exact ⟨0, Nat.zero_le _, rfl, hw5⟩
      case round =>
        obtain ⟨k, hk, rfl, hw⟩ := hrel
        obtain ⟨⟨z0, z1, z2, z3, -⟩, ⟨q0, q1, q2, q3, -⟩⟩ := hBx.out wr hw.out
        by_cases hlt : k < nn
        · have hltz : (k : Int) < (nn : Int) := by omega
          have hkl : k < g.nonts.length := by rw [hnn.out]; exact hlt
          obtain ⟨b, o, he, -, x0⟩ := (hV2.out.keep hw.out).nonts.at hkl
          obtain ⟨b', o', he', -, x0'⟩ := (hV2'.out.keep hw.out).nonts.at hkl
          subst he he'
          unfold TxtAt at x0 x0'
          rw [Nat.mul_one] at x0 x0'
          generalize strT g.nonts[k] = U at *
          go_wp2_with fail
          go_region
          go_wp2
          go_roundw
          case rel => exact ⟨k + 1, by omega, by go_num, by first | exact hw | exact hid hw.out.drew⟩
          case measure => simp [intOf]; omega
        · have hltz : ¬ (k : Int) < (nn : Int) := by omega
          have hw6 := hw
          clear hk hlt
          go_wp2
          clear hltz z0 z1 z2 z3 q0 q1 q2 q3 hw
          go_loopw [7] (fun i wr => ∃ k : Nat, k ≤ ll ∧ i = .int .i64 (k : Int) ∧ Hid (Below W2.heap.size W2 wr)) (fun i _ => ll - (intOf i).toNat)
          case atStart => exact ⟨0, Nat.zero_le _, rfl, hw6⟩
          case round =>
            obtain ⟨k, hk, rfl, hw⟩ := hrel
            obtain ⟨⟨z0, z1, z2, z3, -⟩, ⟨q0, q1, q2, q3, -⟩⟩ := hBx.out wr hw.out
            by_cases hlt : k < ll
            · have hltz : (k : Int) < (ll : Int) := by omega
              have hkl : k < g.levels.length := by rw [hll.out]; exact hlt
              obtain ⟨b, o, he, -, x0, x1⟩ := (hV2.out.keep hw.out).levels.at hkl
              obtain ⟨b', o', he', -, x0', x1'⟩ := (hV2'.out.keep hw.out).levels.at hkl
              subst he he'
              generalize g.levels[k] = lv at *
              obtain ⟨l0, l1⟩ := lv
              dsimp only at x0 x1 x0' x1'
              go_wp2_with fail
              go_region
              go_wp2
              go_roundw
              case rel => exact ⟨k + 1, by omega, by go_num, by first | exact hw | exact hid hw.out.drew⟩
              case measure => simp [intOf]; omega
            · have hltz : ¬ (k : Int) < (ll : Int) := by omega
              have hw7 := hw
              clear hk hlt
              go_wp2
              clear hltz z0 z1 z2 z3 q0 q1 q2 q3 hw
              go_loopw [8] (fun i wr => ∃ k : Nat, k ≤ pp ∧ i = .int .i64 (k : Int) ∧ Hid (Below W2.heap.size W2 wr)) (fun i _ => pp - (intOf i).toNat)
              case atStart => exact ⟨0, Nat.zero_le _, rfl, hw7⟩
              case round =>
                obtain ⟨k, hk, rfl, hw⟩ := hrel
                obtain ⟨⟨z0, z1, z2, z3, -⟩, ⟨q0, q1, q2, q3, -⟩⟩ := hBx.out wr hw.out
                by_cases hlt : k < pp
                · have hltz : (k : Int) < (pp : Int) := by omega
                  have hkl : k < g.prods.length := by rw [hpp.out]; exact hlt
                  obtain ⟨b, o, he, -, v, x0, x1, x2, hC⟩ := (hV2.out.keep hw.out).prods.at hkl
                  obtain ⟨b', o', he', -, v', x0', x1', x2', hC'⟩ := (hV2'.out.keep hw.out).prods.at hkl
                  subst he he'
                  have hln := hp.out _ (List.getElem_mem hkl)
                  have cA : Hid (∀ d os, Calls Tryz.prog 8 #[v, v'] (grow (redrawn wr d) os) fun e w'' => e = .returned (.bool true) ∧ ∃ p : Regrown, w'' = grow (redrawn wr p.d) p.os) := hid (fun d os => Calls.regrown_of (GU.out v v' _ _ (hC.keep (below_regrown wr d os)) (hC'.keep (below_regrown wr d os)) hln))
                  generalize g.prods[k].left = U at *
                  generalize g.prods[k].prec = sk at *
                  have y0 := cell_regrown z3
                  have y1 := cell_regrown q3
                  have y2 := cell_regrown x0
                  have y3 := cell_regrown x1
                  have y4 := cell_regrown x2
                  have y5 := cell_regrown x0'
                  have y6 := cell_regrown x1'
                  have y7 := cell_regrown x2'
                  clear q3 x0 x1 x2 x0' x1' x2' hC hC' hln
                  go_wp2_with fail
                  refine wp_region_quiet_below (by kernel_rfl) (by kernel_rfl) ?_
                  repeat (first | go_big_quiet_step (exact cA.out _ _) | quiet_step (exact cA.out _ _))
                  refine wpQuiet_nil ?_
                  intro _ hw'
                  obtain ⟨⟨dq, osq⟩, hw''⟩ := hw'
                  subst hw''
                  have hwq := hid (bl_step hw.out (below_regrown wr dq osq))
                  go_wp2
                  go_roundw
                  case rel => exact ⟨k + 1, by omega, by go_num, hwq⟩
                  case measure => simp [intOf]; omega
                · have hltz : ¬ (k : Int) < (pp : Int) := by omega
                  have hw8 := hw
                  clear hk hlt
                  go_wp2
                  go_ret
                  exact ⟨rfl, bl_step hB2.out hw8.out⟩

end Go.Proofs.YtcledgljbmepaaaGreatDoor
namespace Go.Proofs.YtcledgljbmepaaaGreatDoor
open Go.RowKit Go.Maps Go.Sort

/-- what is asked of gram.Show: a text that is read to the grammar, or none -/
structure ShwK (prs : Txt → Option Gm) (shw : Gm → Option Txt) : Prop where
  shown : ∀ (s t : Txt) (g : Gm) (rv nv lv pv : Value) (u : World), Tab u → prs s = some g → shw g = some t → GmV u rv nv lv pv g → Calls Tryz.prog 6 #[gmA rv nv lv pv g.start] u fun e w' => e = .returned (.tuple #[.string (strT t), .int .i64 0]) ∧ Below u.heap.size u w'
  hidden : ∀ (s : Txt) (g : Gm) (rv nv lv pv : Value) (u : World), Tab u → prs s = some g → shw g = none → GmV u rv nv lv pv g → Calls Tryz.prog 6 #[gmA rv nv lv pv g.start] u fun e w' => e = .returned (.tuple #[.string ⟨#[]⟩, .int .i64 10]) ∧ Below u.heap.size u w'
  back : ∀ s t g, prs s = some g → shw g = some t → t.length ≤ 1000000 ∧ prs t = some g
noncomputable def shw (g : Gm) : Option Txt := if prs (shwT g) = some g then some (shwT g) else none
set_option maxRecDepth 20000 in
/-- gram.Parse of any text at all: a grammar, or an error -/
theorem parseFar (s : Txt) (u : World) (hs : s.length ≤ 100000000) (h : prs s = none) : Calls Tryz.prog 5 #[.string (strT s)] u fun e w' => ∃ er : Int, ∃ n : Int, er ≠ 0 ∧ e = .returned (.tuple #[gmZ, .int .i64 n, .int .i64 er]) ∧ Below u.heap.size u w' := by
  have h := prs_none h
  by_cases h0 : (wrdA s).2.2 = 0
  · have he : (rdS s).settle.err ≠ 0 := by
      unfold prsE at h
      rw [if_pos h0] at h
      exact h
    have hs4 : s.length ≤ 1000000 := by
      unfold wrdA at h0
      split at h0
      · cases h0
      · omega
    refine (parseFault12 s u hs4 h0 he).mono ?_
    rintro e w' ⟨rfl, hb⟩
    exact ⟨_, _, he, rfl, hb⟩
  · refine (parseB s u hs h0).mono ?_
    rintro e w' ⟨rfl, hb⟩
    exact ⟨_, _, h0, rfl, hb⟩
theorem prs_short {s : Txt} {g : Gm} (h : prs s = some g) : s.length ≤ 1000000 := by
  have h0 := (prs_some h).1
  unfold wrdA at h0
  split at h0
  · cases h0
  · omega
set_option maxRecDepth 20000 in
set_option maxHeartbeats 8000000 in
theorem showG (g : Gm) (rv nv lv pv : Value) (w : World) (hV : GmV w rv nv lv pv g) (hr : ReadG g) (hT : Tab w) :
    Calls Tryz.prog 6 #[gmA rv nv lv pv g.start] w fun e w' => e = .returned (.tuple (if prs (shwT g) = some g then #[.string (strT (shwT g)), .int .i64 0] else #[.string ⟨#[]⟩, .int .i64 10])) ∧ Below w.heap.size w w' := by
  have hlen := shwT_len hr
  obtain ⟨ra, rc, rfl⟩ := hV.rules.shape
  obtain ⟨na, nc, rfl⟩ := hV.nonts.shape
  obtain ⟨la, lc, rfl⟩ := hV.levels.shape
  obtain ⟨pa, pc, rfl⟩ := hV.prods.shape
  have hB1 := al' w (.cells #[.slice ra g.rules.length rc, .slice na g.nonts.length nc, .slice la g.levels.length lc, .slice pa g.prods.length pc, .int .i64 g.start] 28)
  have k1 := heap_new w (.cells #[.slice ra g.rules.length rc, .slice na g.nonts.length nc, .slice la g.levels.length lc, .slice pa g.prods.length pc, .int .i64 g.start] 28)
  obtain ⟨W, hW⟩ : ∃ x, w.alloc (.cells #[.slice ra g.rules.length rc, .slice na g.nonts.length nc, .slice la g.levels.length lc, .slice pa g.prods.length pc, .int .i64 g.start] 28) = x := ⟨_, rfl⟩
  rw [hW] at hB1 k1
  have hk1 := hid (fun u (hu : Below W.heap.size W u) => cells5m (hs_keep k1 hu))
  have hB := hid hB1
  have GF := hid (fun u (hu : Below w.heap.size w u) => fitsC g _ _ _ _ u (hV.keep hu) hr)
  have GL := hid (fun u (hu : Below w.heap.size w u) => linesC g _ _ _ _ u (hV.keep hu) hr (hT.keep hu))
  have GJ := hid (fun u B v (h : OwnT u B v (lnsT g)) => joinC h [10] (by have := hlen.1; omega) (by have := hlen.2; exact Nat.le_trans this (by decide)))
  have hj9 : Hid (Lib.join (lnsT g) [10] = shwT g) := hid rfl
  simp only [hj9.out] at GJ
  have e10 : strT [10] = ⟨#[10]⟩ := rfl
  rw [e10] at GJ
  have hkV := hid (fun u (hu : Below w.heap.size w u) => hV.keep hu)
  have hbn := hr.bnd
  obtain ⟨y0, y1, y2, y3, y4⟩ := hk1.out W (Below.refl _ _)
  cases hp : prs (shwT g) with
  | none =>
    have GP := hid (fun u => parseFar (shwT g) u (by have := hlen.2; omega) hp)
    rw [if_neg (fun e => by cases e)]
    clear hV hr hT hlen hB1 k1 hj9 e10 hbn hkV hp
    generalize strT (shwT g) = ST at *
    generalize lnsT g = LT at *
    generalize g.rules.length = rn at *
    generalize g.nonts.length = nn at *
    generalize g.levels.length = ll at *
    generalize g.prods.length = pp at *
    generalize g.start = st at *
    go_enter Tryz.func6, Tryz.ntmps6
    go_wp2_with (first
      | (go_at_call 12; refine (GF.out _ hB.out).mono ?_; clear GF; rintro e w1 ⟨rfl, hc1⟩; have h1 := hid hc1; obtain ⟨z0, z1, z2, z3, z4⟩ := hk1.out w1 hc1)
      | (go_at_call 14; refine (GL.out _ (bl_step hB.out h1.out)).mono ?_; clear GL; rintro e w2 ⟨v2, rfl, ⟨B2, hO2⟩, hc2⟩; have h2 := hid (bl_step h1.out hc2); have G2 := hid (GJ.out _ _ _ hO2); obtain ⟨a2, c2, e2⟩ := own_shape hO2; subst e2; clear hO2 GJ)
      | (go_at_call 13; refine G2.out.mono ?_; clear G2; rintro e w3 ⟨rfl, hc3⟩; have h3 := hid (bl_step h2.out hc3))
      | (go_at_call 5; refine (GP.out _).mono ?_; clear GP; rintro e w4 ⟨er, n4, her, rfl, hc4⟩; have herz : (er != 0) = true := bne_iff_ne.2 her; clear her; have h4 := hid (bl_step (bl_step h3.out hc4) (al' w4 (.cells #[.slice none 0 0, .slice none 0 0, .slice none 0 0, .slice none 0 0, .int .i64 0] 28)))))
    go_ret2
    exact ⟨rfl, bl_step hB.out h4.out⟩
  | some h =>
    have GP := hid (fun u => prsOK.yes (shwT g) h u (prs_short hp) hp)
    have hbh := prs_bnd hp
    have GS := hid (fun rv' nv' lv' pv' u (hu : Below w.heap.size w u) (hv : GmV u rv' nv' lv' pv' h) => sameC g h _ _ _ _ rv' nv' lv' pv' u (hkV.out u hu) hv hbn hbh)
    by_cases hgh : h = g
    · subst hgh
      rw [if_pos rfl]
      rw [decide_eq_true rfl] at GS
      clear hV hr hT hlen hB1 k1 hj9 e10 hbn hkV hp hbh
      generalize strT (shwT h) = ST at *
      generalize lnsT h = LT at *
      go_enter Tryz.func6, Tryz.ntmps6
      go_wp2_with (first
        | (go_at_call 12; refine (GF.out _ hB.out).mono ?_; clear GF; rintro e w1 ⟨rfl, hc1⟩; have h1 := hid hc1; obtain ⟨z0, z1, z2, z3, z4⟩ := hk1.out w1 hc1)
        | (go_at_call 14; refine (GL.out _ (bl_step hB.out h1.out)).mono ?_; clear GL; rintro e w2 ⟨v2, rfl, ⟨B2, hO2⟩, hc2⟩; have h2 := hid (bl_step h1.out hc2); have G2 := hid (GJ.out _ _ _ hO2); obtain ⟨a2, c2, e2⟩ := own_shape hO2; subst e2; clear hO2 GJ)
        | (go_at_call 13; refine G2.out.mono ?_; clear G2; rintro e w3 ⟨rfl, hc3⟩; have h3 := hid (bl_step h2.out hc3))
        | (go_at_call 5; refine (GP.out _).mono ?_; clear GP; rintro e w4 ⟨rv', nv', lv', pv', rfl, hV', hc4⟩; obtain ⟨ra', rc', hre⟩ := hV'.rules.shape; obtain ⟨na', nc', hne⟩ := hV'.nonts.shape; obtain ⟨la', lc', hle⟩ := hV'.levels.shape; obtain ⟨pa', pc', hpe⟩ := hV'.prods.shape; subst hre hne hle hpe; have hal4 := al' w4 (.cells #[.slice ra' h.rules.length rc', .slice na' h.nonts.length nc', .slice la' h.levels.length lc', .slice pa' h.prods.length pc', .int .i64 h.start] 28); have h4 := hid (bl_step (bl_step h3.out hc4) hal4); have G4 := hid (GS.out _ _ _ _ _ (bl_step hB.out h4.out) (hV'.keep hal4)); obtain ⟨s0, s1, s2, s3, s4⟩ := cells5m (heap_new w4 (.cells #[.slice ra' h.rules.length rc', .slice na' h.nonts.length nc', .slice la' h.levels.length lc', .slice pa' h.prods.length pc', .int .i64 h.start] 28)); obtain ⟨t0, t1, t2, t3, t4⟩ := hk1.out _ h4.out; clear hV' hal4 GS)
        | (go_at_call 15; refine G4.out.mono ?_; clear G4; rintro e w5 ⟨rfl, hc5⟩; have h5 := hid (bl_step h4.out hc5)))
      go_ret2
      exact ⟨rfl, bl_step hB.out h5.out⟩
    · rw [if_neg (fun e => hgh (by injection e))]
      rw [decide_eq_false (fun e => hgh e.symm)] at GS
      clear hV hr hT hlen hB1 k1 hj9 e10 hbn hkV hp hbh hgh
      generalize strT (shwT g) = ST at *
      generalize lnsT g = LT at *
      go_enter Tryz.func6, Tryz.ntmps6
      go_wp2_with (first
        | (go_at_call 12; refine (GF.out _ hB.out).mono ?_; clear GF; rintro e w1 ⟨rfl, hc1⟩; have h1 := hid hc1; obtain ⟨z0, z1, z2, z3, z4⟩ := hk1.out w1 hc1)
        | (go_at_call 14; refine (GL.out _ (bl_step hB.out h1.out)).mono ?_; clear GL; rintro e w2 ⟨v2, rfl, ⟨B2, hO2⟩, hc2⟩; have h2 := hid (bl_step h1.out hc2); have G2 := hid (GJ.out _ _ _ hO2); obtain ⟨a2, c2, e2⟩ := own_shape hO2; subst e2; clear hO2 GJ)
        | (go_at_call 13; refine G2.out.mono ?_; clear G2; rintro e w3 ⟨rfl, hc3⟩; have h3 := hid (bl_step h2.out hc3))
        | (go_at_call 5; refine (GP.out _).mono ?_; clear GP; rintro e w4 ⟨rv', nv', lv', pv', rfl, hV', hc4⟩; obtain ⟨ra', rc', hre⟩ := hV'.rules.shape; obtain ⟨na', nc', hne⟩ := hV'.nonts.shape; obtain ⟨la', lc', hle⟩ := hV'.levels.shape; obtain ⟨pa', pc', hpe⟩ := hV'.prods.shape; subst hre hne hle hpe; have hal4 := al' w4 (.cells #[.slice ra' h.rules.length rc', .slice na' h.nonts.length nc', .slice la' h.levels.length lc', .slice pa' h.prods.length pc', .int .i64 h.start] 28); have h4 := hid (bl_step (bl_step h3.out hc4) hal4); have G4 := hid (GS.out _ _ _ _ _ (bl_step hB.out h4.out) (hV'.keep hal4)); obtain ⟨s0, s1, s2, s3, s4⟩ := cells5m (heap_new w4 (.cells #[.slice ra' h.rules.length rc', .slice na' h.nonts.length nc', .slice la' h.levels.length lc', .slice pa' h.prods.length pc', .int .i64 h.start] 28)); obtain ⟨t0, t1, t2, t3, t4⟩ := hk1.out _ h4.out; clear hV' hal4 GS)
        | (go_at_call 15; refine G4.out.mono ?_; clear G4; rintro e w5 ⟨rfl, hc5⟩; have h5 := hid (bl_step h4.out hc5)))
      go_ret2
      exact ⟨rfl, bl_step hB.out h5.out⟩
theorem shwK : ShwK prs shw where
  shown s t g rv nv lv pv u hT hp hs hV := by
    refine (showG g rv nv lv pv u hV (prs_read hp) hT).mono ?_
    rintro e w' ⟨rfl, hb⟩
    unfold shw at hs
    split at hs
    · rename_i h
      injection hs with hs
      rw [if_pos h, hs]
      exact ⟨rfl, hb⟩
    · cases hs
  hidden s g rv nv lv pv u hT hp hs hV := by
    refine (showG g rv nv lv pv u hV (prs_read hp) hT).mono ?_
    rintro e w' ⟨rfl, hb⟩
    unfold shw at hs
    split at hs
    · cases hs
    · rename_i h
      rw [if_neg h]
      exact ⟨rfl, hb⟩
  back s t g hp hs := by
    unfold shw at hs
    split at hs
    · rename_i h
      injection hs with hs
      rw [hs] at h
      exact ⟨prs_short h, h⟩
    · cases hs

end Go.Proofs.YtcledgljbmepaaaGreatDoor
namespace Go.Proofs.YtcledgljbmepaaaGreatDoor
open Go.RowKit

set_option maxRecDepth 20000 in
theorem Tryz.fields112 : (Tryz.prog.fieldsOf 112).toList.map (fun f => (f.name, f.type, f.offset)) = [("Op", 3, 0), ("Set", 110, 1)] := by kernel_rfl
set_option maxRecDepth 20000 in
theorem fields_two : ∃ f g, (Tryz.prog.fieldsOf 112).toList = [f, g] ∧ f.name = "Op" ∧ f.type = 3 ∧ f.offset = 0 ∧ g.name = "Set" ∧ g.type = 110 ∧ g.offset = 1 := by
  have h := Tryz.fields112
  generalize (Tryz.prog.fieldsOf 112).toList = L at h ⊢
  match L, h with
  | [], h => simp at h
  | [_], h => simp at h
  | _ :: _ :: _ :: _, h => simp at h
  | [f, g], h =>
    simp only [List.map_cons, List.map_nil, List.cons.injEq, Prod.mk.injEq, and_true] at h
    exact ⟨f, g, rfl, h.1.1, h.1.2.1, h.1.2.2, h.2.1, h.2.2.1, h.2.2.2⟩
theorem cel_eq (o o' : Int) (S S' : W4) : decide ((⟨o, S⟩ : Cel) = ⟨o', S'⟩) = ((o == o') && decide (S = S')) := by
  rw [Bool.eq_iff_iff]
  simp
set_option maxRecDepth 20000 in
theorem equal5 (d : Nat) (o o' : Int) (a b c e a' b' c' e' : Nat) (w : World) :
    (Op.equalIn (d + 3) 112 (.agg #[.int .i64 o, .int .u64 (a : Int), .int .u64 (b : Int), .int .u64 (c : Int), .int .u64 (e : Int)]) (.agg #[.int .i64 o', .int .u64 (a' : Int), .int .u64 (b' : Int), .int .u64 (c' : Int), .int .u64 (e' : Int)])).run Tryz.prog w = .ok (decide ((⟨o, ⟨a, b, c, e⟩⟩ : Cel) = ⟨o', ⟨a', b', c', e'⟩⟩)) w := by
  obtain ⟨f, g, hf, f1, f2, f3, g1, g2, g3⟩ := fields_two
  have p0 : ∀ x0 x1 x2 x3 x4 : Value, (part 3 #[x0, x1, x2, x3, x4] 0).run Tryz.prog w = .ok x0 w := fun _ _ _ _ _ => by simp [part, isAgg, run_underlying Tryz.underlying3]
  have p1 : ∀ x0 x1 x2 x3 x4 : Value, (part 110 #[x0, x1, x2, x3, x4] 1).run Tryz.prog w = .ok (.agg #[x1, x2, x3, x4]) w := fun _ _ _ _ _ => by simp [part, Tryz.isAgg110, Tryz.sizeOf110]
  have ht : Tryz.prog.underlying 112 = some (.struct (Tryz.prog.fieldsOf 112)) := by unfold Program.fieldsOf; rw [Tryz.underlying112]
  rw [run_equalIn_struct w (d + 2) 112 _ _ ht (by kernel_rfl), hf, cel_eq]
  have n1 : ("Op" : String) ≠ "_" := by decide
  have n2 : ("Set" : String) ≠ "_" := by decide
  simp only [Op.eqFields, f1, f2, f3, g1, g2, g3, if_pos n1, if_pos n2, Sem.run_bind, p0, Result.andThen_ok]
  rw [run_equalIn_int w (d + 1) 3 .i64 .i64 _ _ Tryz.underlying3]
  simp only [Result.andThen_ok]
  cases h1 : (o == o') with
  | false => simp
  | true =>
    have h4 := equal4 d a b c e a' b' c' e' w
    simp only [valB] at h4
    simp [p1, h4]
    cases hd : decide ((⟨a, b, c, e⟩ : W4) = ⟨a', b', c', e'⟩) <;> simp_all

set_option maxRecDepth 20000 in
set_option maxHeartbeats 2000000 in
theorem sameQ (v v' : Value) (l m : List Cel) (w : World) (hl : l.length ≤ 1000000) (hA : Cels w v l) (hB : Cels w v' m) : Calls Tryz.prog 16 #[v, v'] w fun e w' => e = .returned (.bool (decide (l = m))) ∧ Below w.heap.size w w' := by
  obtain ⟨av, cv, rfl, _, _, _, hAt⟩ := hA
  obtain ⟨bv, dv, rfl, _, _, _, hBt⟩ := hB
  have hAt := hid hAt
  have hBt := hid hBt
  by_cases hlen : l.length = m.length
  · have hlz : ((l.length : Int) == (m.length : Int)) = true := beq_iff_eq.2 (by omega)
    have hend : Hid ((∀ j (h : j < l.length) (h' : j < m.length), l[j] = m[j]) → decide (l = m) = true) := hid (fun h => decide_eq_true (List.ext_getElem hlen h))
    have hno : Hid (∀ j (h : j < l.length) (h' : j < m.length), l[j] ≠ m[j] → decide (l = m) = false) := hid (fun j h h' hne => decide_eq_false (fun e => hne (by subst e; rfl)))
    generalize decide (l = m) = R at hend hno ⊢
    rw [← hlen] at hlz ⊢
    have hlen' := hid hlen
    clear hlen
    go_enter Tryz.func16, Tryz.ntmps16
    go_wp2
    go_loopw [5] (fun i wr => ∃ k : Nat, k ≤ l.length ∧ i = .int .i64 k ∧ Hid (∀ j (h : j < l.length) (h' : j < m.length), j < k → l[j] = m[j]) ∧ Below w.heap.size w wr) (fun i _ => l.length - (intOf i).toNat)
    case atStart => exact ⟨0, Nat.zero_le _, rfl, hid (fun j _ _ h => absurd h (Nat.not_lt_zero _)), Below.refl _ _⟩
    case round =>
      obtain ⟨k, hk, rfl, hlow, hbl⟩ := hrel
      by_cases hlt : k < l.length
      · have hltz : (k : Int) < (l.length : Int) := by omega
        obtain ⟨b1, o1, rfl, _, h5⟩ := hAt.out k hlt
        obtain ⟨b2, o2, rfl, _, h6⟩ := hBt.out k (by have := hlen'.out; omega)
        have h5 := h5.keep (bl_step hbl (Below.refl _ _).drew)
        have h6 := h6.keep (bl_step hbl (Below.refl _ _).drew)
        have hno1 := hid (hno.out k hlt (by have := hlen'.out; omega))
        have hkm : k < m.length := by have := hlen'.out; omega
        have hyes : Hid (l[k] = m[k] → ∀ j (h : j < l.length) (h' : j < m.length), j < k + 1 → l[j] = m[j]) := hid (fun e j h h' hj => by
          by_cases e' : j = k
          · subst e'; exact e
          · exact hlow.out j h h' (by omega))
        generalize l[k] = c at h5 hno1 hyes
        generalize m[k] = c' at h6 hno1 hyes
        obtain ⟨op, a1, a2, a3, a4⟩ := c
        obtain ⟨op', a1', a2', a3', a4'⟩ := c'
        obtain ⟨d0, d1, d2, d3, d4⟩ := h5
        obtain ⟨e0, e1, e2, e3, e4⟩ := h6
        simp only at d0 d1 d2 d3 d4 e0 e1 e2 e3 e4
        have hgt := Tryz.eqGuardType112
        cases hc : decide ((⟨op, ⟨a1, a2, a3, a4⟩⟩ : Cel) = ⟨op', ⟨a1', a2', a3', a4'⟩⟩) with
        | true =>
          have he : ∀ u, (Op.equalIn 10000 112 (.agg #[.int .i64 op, .int .u64 (a1 : Int), .int .u64 (a2 : Int), .int .u64 (a3 : Int), .int .u64 (a4 : Int)]) (.agg #[.int .i64 op', .int .u64 (a1' : Int), .int .u64 (a2' : Int), .int .u64 (a3' : Int), .int .u64 (a4' : Int)])).run Tryz.prog u = .ok true u := fun u => (equal5 9997 op op' a1 a2 a3 a4 a1' a2' a3' a4' u).trans (by rw [hc])
          have hy := hid (hyes.out (of_decide_eq_true hc))
          clear hc hno1 hyes
          go_wp2_with fail
          go_region_with (fail)
          all_goals
            go_wp2
            exact ⟨⟨k + 1, by omega, by go_num, hy, bl_step hbl (Below.refl _ _).drew⟩, by simp [intOf]; omega⟩
        | false =>
          have he : ∀ u, (Op.equalIn 10000 112 (.agg #[.int .i64 op, .int .u64 (a1 : Int), .int .u64 (a2 : Int), .int .u64 (a3 : Int), .int .u64 (a4 : Int)]) (.agg #[.int .i64 op', .int .u64 (a1' : Int), .int .u64 (a2' : Int), .int .u64 (a3' : Int), .int .u64 (a4' : Int)])).run Tryz.prog u = .ok false u := fun u => (equal5 9997 op op' a1 a2 a3 a4 a1' a2' a3' a4' u).trans (by rw [hc])
          have hR : R = false := hno1.out (of_decide_eq_false hc)
          clear hc hno1 hyes
          subst hR
          go_wp2_with fail
          go_region_with (fail)
          all_goals
            go_wp2
            go_ret
            exact ⟨rfl, bl_step hbl (Below.refl _ _).drew⟩
      · have hltz : ¬ (k : Int) < (l.length : Int) := by omega
        have hR : R = true := hend.out (fun j h h' => hlow.out j h h' (by omega))
        subst hR
        go_wp2
        go_ret
        exact ⟨rfl, hbl⟩
  · have hlz : ((l.length : Int) == (m.length : Int)) = false := beq_eq_false_iff_ne.2 (by omega)
    have e : decide (l = m) = false := decide_eq_false (fun e => hlen (by rw [e]))
    rw [e]
    go_enter Tryz.func16, Tryz.ntmps16
    go_wp2
    go_ret
    exact ⟨rfl, Below.refl _ _⟩

end Go.Proofs.YtcledgljbmepaaaGreatDoor
