/- gram.Parse: its own walk. gram.Name. topiarylaw12.long. GramNames' walk, of what is asked of package gram. -/
import Derived.Test.YtcledgljbmepaaaGreatJ28
import Derived.Test.YtcledgljbmepaaaGreatJ29
import Derived.Test.YtcledgljbmepaaaGreatJ20
import Derived.Test.YtcledgljbmepaaaGreatJ12
import Derived.Test.YtcledgljbmepaaaGreatJ15
import Derived.Test.YtcledgljbmepaaaGreatJ14
import Derived.Test.YtcledgljbmepaaaGreatJ16
namespace Go.Proofs.YtcledgljbmepaaaGreat
open Go.RowKit Go.Maps

abbrev put5 (V : World) (R : Nat) (v0 v1 v2 v3 v4 : Value) : World := ((((V.setCell ⟨R, 0, none⟩ v0).setCell ⟨R, 1, none⟩ v1).setCell ⟨R, 2, none⟩ v2).setCell ⟨R, 3, none⟩ v3).setCell ⟨R, 4, none⟩ v4
theorem kept5 (V : World) (R : Nat) (v0 v1 v2 v3 v4 : Value) : Kept (oneBlk R) V (put5 V R v0 v1 v2 v3 v4) :=
  (((((Kept.refl (oneBlk R) V).setCell (a := ⟨R, 0, none⟩) (fun _ => rfl)).setCell (a := ⟨R, 1, none⟩) (fun _ => rfl)).setCell (a := ⟨R, 2, none⟩) (fun _ => rfl)).setCell (a := ⟨R, 3, none⟩) (fun _ => rfl)).setCell (a := ⟨R, 4, none⟩) (fun _ => rfl)
theorem below5 {V w : World} {R : Nat} (h : Below w.heap.size w V) (hR : w.heap.size ≤ R) (v0 v1 v2 v3 v4 : Value) : Below w.heap.size w (put5 V R v0 v1 v2 v3 v4) :=
  bl_set (bl_set (bl_set (bl_set (bl_set h _ _ _ hR) _ _ _ hR) _ _ _ hR) _ _ _ hR) _ _ _ hR
theorem Chg.low {T : Nat → Nat} {w V : World} (h : Chg (fun _ => 0) T w V) : Below w.heap.size w V := (h.kept.mono (G := noBlk) (fun _ _ e => absurd rfl e.1)).none
theorem PaF.good {s : Txt} {w V : World} {rb : Nat} (h : PaF s w rb V) (he : (rdS s).settle.err = 0) : ∃ ra rc na nc la lc pa pc, V.heap[w.heap.size]? = some gm0 ∧ V.cell? ⟨rb, 1, none⟩ = some (.slice ra (prsG s).rules.length rc) ∧ V.cell? ⟨rb, 2, none⟩ = some (.slice na (prsG s).nonts.length nc) ∧ V.cell? ⟨rb, 3, none⟩ = some (.slice la (prsG s).levels.length lc) ∧ V.cell? ⟨rb, 4, none⟩ = some (.slice pa (prsG s).prods.length pc) ∧ V.cell? ⟨rb, 5, none⟩ = some (.int .i64 (prsG s).start) ∧ V.cell? ⟨rb, 17, none⟩ = some (.int .i64 0) ∧
    GmV (put5 V w.heap.size (.slice ra (prsG s).rules.length rc) (.slice na (prsG s).nonts.length nc) (.slice la (prsG s).levels.length lc) (.slice pa (prsG s).prods.length pc) (.int .i64 (prsG s).start)) (.slice ra (prsG s).rules.length rc) (.slice na (prsG s).nonts.length nc) (.slice la (prsG s).levels.length lc) (.slice pa (prsG s).prods.length pc) (prsG s) ∧ Below w.heap.size w (put5 V w.heap.size (.slice ra (prsG s).rules.length rc) (.slice na (prsG s).nonts.length nc) (.slice la (prsG s).levels.length lc) (.slice pa (prsG s).prods.length pc) (.int .i64 (prsG s).start)) := by
  obtain ⟨ra, rc, na, nc, la, lc, pa, pc, T, X, rs, mp, ⟨c0, c1, c2, c3, c4, c5, -, c7⟩, e1, e2, e4, hr, hc, hT⟩ := h.out
  rw [he] at c7
  refine ⟨ra, rc, na, nc, la, lc, pa, pc, c0, c1, c2, c3, c4, c5, c7, ?_, below5 hc.low (Nat.le_refl _) _ _ _ _ _⟩
  have h9 := (hr.wrote (kept5 V w.heap.size (.slice ra (prsG s).rules.length rc) (.slice na (prsG s).nonts.length nc) (.slice la (prsG s).levels.length lc) (.slice pa (prsG s).prods.length pc) (.int .i64 (prsG s).start)) hT).gm (setL_err _ _ _ he)
  rw [e1, e2, e4] at h9
  exact h9
theorem PaF.fault {s : Txt} {w V : World} {rb : Nat} (h : PaF s w rb V) : V.heap[w.heap.size]? = some gm0 ∧ V.cell? ⟨rb, 16, none⟩ = some (.int .i64 ((rdS s).settle.pl : Int)) ∧ V.cell? ⟨rb, 17, none⟩ = some (.int .i64 (rdS s).settle.err) ∧ (put5 V w.heap.size (.slice none 0 0) (.slice none 0 0) (.slice none 0 0) (.slice none 0 0) (.int .i64 0)).cell? ⟨rb, 16, none⟩ = some (.int .i64 ((rdS s).settle.pl : Int)) ∧ (put5 V w.heap.size (.slice none 0 0) (.slice none 0 0) (.slice none 0 0) (.slice none 0 0) (.int .i64 0)).cell? ⟨rb, 17, none⟩ = some (.int .i64 (rdS s).settle.err) ∧ Below w.heap.size w (put5 V w.heap.size (.slice none 0 0) (.slice none 0 0) (.slice none 0 0) (.slice none 0 0) (.int .i64 0)) := by
  obtain ⟨ra, rc, na, nc, la, lc, pa, pc, T, X, rs, mp, ⟨c0, c1, c2, c3, c4, c5, c6, c7⟩, e1, e2, e4, hr, hc, hT⟩ := h.out
  have h9 := hr.wrote (kept5 V w.heap.size (.slice none 0 0) (.slice none 0 0) (.slice none 0 0) (.slice none 0 0) (.int .i64 0)) hT
  exact ⟨c0, c6, c7, blk_cell h9.blk rfl, blk_cell h9.blk rfl, below5 hc.low (Nat.le_refl _) _ _ _ _ _⟩
set_option maxRecDepth 20000 in
theorem parseP (s : Txt) (w : World) (hs : s.length ≤ 1000000) (h0 : (wrdA s).2.2 = 0) :
    ∀ u v, WdM (w.alloc gm0) u v (wrdA s).1 → ∃ A n C u6, (Builtin.append_ #[48, 48] 48 #[v, .slice (some ⟨u.heap.size, 0, none⟩) 1 1]).run Tryz.prog (u.alloc (.cells #[.int .i64 0, .int .i64 ((strT s).size : Int), .string ⟨#[]⟩] 52)) = .ok (.slice A n C) u6 ∧
      Calls Tryz.prog 19 #[ptr0 u6.heap.size] (u6.alloc (.cells #[.slice A n C, .slice none 0 0, .slice none 0 0, .slice none 0 0, .slice none 0 0, .int .i64 0, .int .i64 0, .int .i64 0, .slice none 0 0, .slice none 0 0, .slice none 0 0, .int .u32 0, .int .i32 0, .int .u32 0, .map none, .slice none 0 0, .int .i64 0, .int .i64 0] 70)) fun r u => r = .returned (.tuple #[]) ∧ Calls Tryz.prog 20 #[ptr0 u6.heap.size] u fun r V => r = .returned (.tuple #[]) ∧ PaF s w u6.heap.size V := fun u v hW => by
  have hsz := strT_size s
  obtain ⟨A, C, u6, h1, T, X, hr, hc, hT, hR⟩ := parseA s w hs h0 u v hW
  rw [hsz]
  exact ⟨A, _, C, u6, h1, parseT s w hs h0 (rdS_ok s hs h0) hr hc hT hR⟩
set_option maxRecDepth 20000 in
set_option maxHeartbeats 8000000 in
theorem parseGood12 (s : Txt) (w : World) (hs : s.length ≤ 1000000) (h0 : (wrdA s).2.2 = 0) (he : (rdS s).settle.err = 0) :
    Calls Tryz.prog 12 #[.string (strT s)] w fun e w' => ∃ rv nv lv pv, e = .returned (.tuple #[gmA rv nv lv pv (prsG s).start, .int .i64 0, .int .i64 0]) ∧ GmV w' rv nv lv pv (prsG s) ∧ Below w.heap.size w w' := by
  have hP := hid (parseP s w hs h0)
  obtain ⟨W, hW⟩ : ∃ y, w.alloc gm0 = y := ⟨_, rfl⟩
  rw [hW] at hP
  have G := hid (allC s W (by omega))
  rw [h0] at G
  have hfin := hid (fun rb V (h : PaF s w rb V) => h.good he)
  clear he h0
  generalize (wrdA s).1 = l at *
  generalize (wrdA s).2.1 = ap at *
  generalize strT s = S at *
  go_enter Tryz.func12, Tryz.ntmps12
  go_wp2_with (first
    | (go_at_call 18; refine G.out.mono ?_; clear G; rintro e u ⟨v, rfl, hM⟩; obtain ⟨A, n, C, u6, hrun, hI⟩ := hP.out u v hM; clear hP hM; have hI := hid hI)
    | (at_builtin; refine wp_run _ rfl _ _ _ rfl _ _ rfl rfl hrun ?_; clear hrun)
    | (go_at_call 19; refine hI.out.mono ?_; clear hI; rintro e u7 ⟨rfl, hI2⟩; have hI2 := hid hI2)
    | (go_at_call 20; refine hI2.out.mono ?_; clear hI2; rintro e V ⟨rfl, hF⟩; obtain ⟨ra, rc, na, nc, la, lc, pa, pc, c0, c1, c2, c3, c4, c5, c7, hG, hB⟩ := hfin.out _ _ hF; clear hfin hF; have hG := hid hG; have hB := hid hB; obtain ⟨⟨q0, q1⟩, ⟨q2, q3⟩, ⟨q4, q5⟩, ⟨q6, q7⟩, ⟨q8, q9⟩, q10⟩ := putT5 c0 (.slice ra (prsG s).rules.length rc) (.slice na (prsG s).nonts.length nc) (.slice la (prsG s).levels.length lc) (.slice pa (prsG s).prods.length pc) (.int .i64 (prsG s).start); obtain ⟨y0, y1, y2, y3, y4⟩ := cells5m q10; clear q10 c0))
  refine bodyPost_ret (v := .tuple #[gmA (.slice ra (prsG s).rules.length rc) (.slice na (prsG s).nonts.length nc) (.slice la (prsG s).levels.length lc) (.slice pa (prsG s).prods.length pc) (prsG s).start, .int .i64 0, .int .i64 0]) (by simp [results, Tryz.results12, go_sem, y0, y1, y2, y3, y4]) rfl ⟨_, _, _, _, rfl, hG.out, hB.out⟩
set_option maxRecDepth 20000 in
set_option maxHeartbeats 8000000 in
theorem parseFault12 (s : Txt) (w : World) (hs : s.length ≤ 1000000) (h0 : (wrdA s).2.2 = 0) (he : (rdS s).settle.err ≠ 0) :
    Calls Tryz.prog 12 #[.string (strT s)] w fun e w' => e = .returned (.tuple #[gmZ, .int .i64 ((rdS s).settle.pl : Int), .int .i64 (rdS s).settle.err]) ∧ Below w.heap.size w w' := by
  have hP := hid (parseP s w hs h0)
  obtain ⟨W, hW⟩ : ∃ y, w.alloc gm0 = y := ⟨_, rfl⟩
  rw [hW] at hP
  have G := hid (allC s W (by omega))
  rw [h0] at G
  have hfin := hid (fun rb V (h : PaF s w rb V) => h.fault)
  have hez : ((rdS s).settle.err != 0) = true := bne_iff_ne.2 he
  clear he h0
  generalize (wrdA s).1 = l at *
  generalize (wrdA s).2.1 = ap at *
  generalize strT s = S at *
  generalize (rdS s).settle.err = er at *
  generalize (rdS s).settle.pl = pl at *
  go_enter Tryz.func12, Tryz.ntmps12
  go_wp2_with (first
    | (go_at_call 18; refine G.out.mono ?_; clear G; rintro e u ⟨v, rfl, hM⟩; obtain ⟨A, n, C, u6, hrun, hI⟩ := hP.out u v hM; clear hP hM; have hI := hid hI)
    | (at_builtin; refine wp_run _ rfl _ _ _ rfl _ _ rfl rfl hrun ?_; clear hrun)
    | (go_at_call 19; refine hI.out.mono ?_; clear hI; rintro e u7 ⟨rfl, hI2⟩; have hI2 := hid hI2)
    | (go_at_call 20; refine hI2.out.mono ?_; clear hI2; rintro e V ⟨rfl, hF⟩; obtain ⟨c0, c6, c7, d6, d7, hB⟩ := hfin.out _ _ hF; clear hfin hF; have hB := hid hB; obtain ⟨⟨q0, q1⟩, ⟨q2, q3⟩, ⟨q4, q5⟩, ⟨q6, q7⟩, ⟨q8, q9⟩, q10⟩ := putT5 c0 (.slice none 0 0) (.slice none 0 0) (.slice none 0 0) (.slice none 0 0) (.int .i64 0); obtain ⟨y0, y1, y2, y3, y4⟩ := cells5m q10; clear q10 c0))
  go_region
  all_goals
    go_wp2
    refine bodyPost_ret (v := .tuple #[gmZ, .int .i64 (pl : Int), .int .i64 er]) (by simp [results, Tryz.results12, go_sem, y0, y1, y2, y3, y4]) rfl ⟨rfl, hB.out.drew⟩

end Go.Proofs.YtcledgljbmepaaaGreat
namespace Go.Proofs.YtcledgljbmepaaaGreat
open Go.RowKit Go.Maps

theorem nms_at {l : List Rl} {k : Nat} (hk : k < l.length) (hs : l[k].skip = false) : (nmsK l l.length)[trmK l k + 1]? = some l[k].name := by
  have h1 : nmsK l l.length = nmsK l (k + 1) ++ ((l.drop (k + 1)).filter fun r => !r.skip).map Rl.name := by
    unfold nmsK
    rw [List.cons_append, ← List.map_append, ← List.filter_append, List.take_append_drop, List.take_length]
  have h2 := nmsK_succ hk
  rw [hs, if_neg (by decide)] at h2
  have h3 := nmsK_len l k
  rw [h1, h2, List.append_assoc, List.getElem?_append_right (by omega), h3, Nat.sub_self]
  rfl
theorem gname_rule {g : Gm} {k : Nat} (hk : k < g.rules.length) (hs : g.rules[k].skip = false) {n : Int} (hn : n = (trmK g.rules k : Int) + 1) : g.name n = g.rules[k].name := by
  unfold Gm.name Gm.names
  have h3 := nmsK_len g.rules g.rules.length
  have h4 := nms_at hk hs
  have h5 := (List.getElem?_eq_some_iff.1 h4).1
  rw [if_neg (by omega), show n.toNat = trmK g.rules k + 1 by omega, List.getD_eq_getElem?_getD, List.getElem?_append_left h5, h4]
  rfl
theorem gname_none {g : Gm} {n : Int} (hn : (g.terms : Int) + (g.nonts.length : Int) < n) : g.name n = [] := by
  unfold Gm.name Gm.names
  have h3 := nmsK_len g.rules g.rules.length
  unfold Gm.terms at hn
  rw [if_neg (by omega), List.getD_eq_getElem?_getD, List.getElem?_eq_none (by rw [List.length_append, h3]; omega)]
  rfl
theorem gname_nont {g : Gm} {j : Nat} (hj : j < g.nonts.length) {n : Int} (hn : n = (g.terms : Int) + 1 + (j : Int)) : g.name n = g.nonts[j] := by
  unfold Gm.name Gm.names
  have h3 := nmsK_len g.rules g.rules.length
  unfold Gm.terms at hn
  rw [if_neg (by omega), List.getD_eq_getElem?_getD, List.getElem?_append_right (by omega), show n.toNat - (nmsK g.rules g.rules.length).length = j by omega, List.getElem?_eq_getElem hj]
  rfl
set_option maxRecDepth 20000 in
set_option maxHeartbeats 8000000 in
theorem gnameC (g : Gm) (n : Int) (rv nv lv pv : Value) (w : World) (hV : GmV w rv nv lv pv g) (hn : n ≤ 9223372036854775807) (hr : g.rules.length ≤ 1000000) (_hN : g.nonts.length ≤ 1000000) :
    Calls Tryz.prog 17 #[gmA rv nv lv pv g.start, .int .i64 n] w fun e w' => e = .returned (.string (strT (g.name n))) ∧ Below w.heap.size w w' := by
  have h0 : Hid (∀ u, Below w.heap.size w u → RulL u rv g.rules ∧ Lst 1 TxtAt u nv g.nonts) := hid (fun u hu => ⟨(rulL_of hV.rules).keep hu, (hV.keep hu).nonts⟩)
  obtain ⟨a, c, rfl⟩ := hV.rules.shape
  obtain ⟨na, nc, rfl⟩ := hV.nonts.shape
  clear hV
  have hA : Hid (∀ k (hk : k < g.rules.length), g.rules[k].skip = false → n = (trmK g.rules k : Int) + 1 → strT (g.name n) = strT g.rules[k].name) := hid (fun k hk hs h => by rw [gname_rule hk hs h])
  have hB : Hid ((g.terms : Int) + (g.nonts.length : Int) < n → strT (g.name n) = ⟨#[]⟩) := hid (fun h => by rw [gname_none h]; rfl)
  have hC : Hid (∀ j (hj : j < g.nonts.length), n = (g.terms : Int) + 1 + (j : Int) → strT (g.name n) = strT g.nonts[j]) := hid (fun j hj h => by rw [gname_nont hj h])
  have hZ : Hid (n = 0 → strT (g.name n) = ⟨#[36]⟩) := hid (fun h => by subst h; rfl)
  have hY : Hid (n < 0 → strT (g.name n) = ⟨#[]⟩) := hid (fun h => by unfold Gm.name; rw [if_pos h]; rfl)
  have hT : Hid (g.terms = trmK g.rules g.rules.length) := hid rfl
  have hB1 : Hid (Below w.heap.size w (w.alloc (.cells #[.slice a g.rules.length c, .slice na g.nonts.length nc, lv, pv, .int .i64 g.start] 27))) := hid (al' w _)
  have hk1 := heap_new w (.cells #[.slice a g.rules.length c, .slice na g.nonts.length nc, lv, pv, .int .i64 g.start] 27)
  generalize strT (g.name n) = U at *
  generalize g.terms = tm at *
  obtain ⟨W1, hW1⟩ : ∃ x, w.alloc (.cells #[.slice a g.rules.length c, .slice na g.nonts.length nc, lv, pv, .int .i64 g.start] 27) = x := ⟨_, rfl⟩
  rw [hW1] at hB1 hk1
  have c0 : W1.cell? ⟨w.heap.size, 0, none⟩ = some (.slice a g.rules.length c) := blk_cell hk1 rfl
  have hk1 := hid hk1
  generalize hl : g.rules = l at *
  generalize hns : g.nonts = ns at *
  obtain ⟨m, hm⟩ : ∃ n, Hid (l.length = n) := ⟨_, hid rfl⟩
  obtain ⟨nn, hnn⟩ : ∃ n, Hid (ns.length = n) := ⟨_, hid rfl⟩
  rw [hm.out] at hr c0 hW1 hk1 hT h0 ⊢
  rw [hnn.out] at hW1 hk1 hB h0 ⊢
  clear hl hns
  rcases Int.lt_trichotomy n 0 with hneg | hzero | hpos
  · have h9 := hY.out hneg
    subst h9
    have hne : (n == 0) = false := by simp; omega
    clear hA hB hC hZ hY hT h0 hk1 c0
    go_enter Tryz.func17, Tryz.ntmps17
    go_wp2
    go_ret
    exact ⟨rfl, hB1.out⟩
  · have h9 := hZ.out hzero
    subst h9 hzero
    clear hA hB hC hZ hY hT h0 hk1 c0
    go_enter Tryz.func17, Tryz.ntmps17
    go_wp2
    go_ret
    exact ⟨rfl, hB1.out⟩
  · have hne : (n == 0) = false := by simp; omega
    have hnl : ¬ n < 0 := by omega
    clear hZ hY
    go_enter Tryz.func17, Tryz.ntmps17
    go_wp2
    clear hW1 c0 hne hnl
    go_loopw [1, 14] (fun x i wr => ∃ (k : Nat) (y : Int), k ≤ m ∧ i = .int .i64 (k : Int) ∧ x = .int .i64 y ∧ 0 < y ∧ y ≤ 9223372036854775807 ∧ Hid (y + (trmK l k : Int) = n) ∧ Hid (Below W1.heap.size W1 wr)) (fun _ i _ => m - (intOf i).toNat)
    case atStart => exact ⟨0, n, Nat.zero_le _, rfl, rfl, hpos, hn, hid (by unfold trmK; simp), hid (Below.refl _ _)⟩
    case round =>
      obtain ⟨k, y, hk, rfl, rfl, hy0, hy1, hyn, hw⟩ := hrel
      by_cases hlt : k < m
      · have hltz : (k : Int) < (m : Int) := by omega
        have hkl : k < l.length := by rw [hm.out]; exact hlt
        obtain ⟨b, o, xa, xm, xc, he, x0, x1, x2⟩ := (h0.out wr (bl_step hB1.out hw.out)).1.at hkl
        subst he
        have hs := trmK_succ hkl
        have hwn := hid (bl_step hw.out (al' wr (.cells #[.string (strT l[k].name), .slice xa xm xc, .bool l[k].skip] 40)))
        cases hsk : l[k].skip with
        | true =>
          rw [hsk] at x2 hs hwn
          rw [if_pos rfl, Nat.add_zero] at hs
          have hsH := hid hs
          clear hs
          go_wp2
          go_roundw
          case rel => exact ⟨k + 1, y, by omega, by go_num, rfl, hy0, hy1, hid (by rw [hsH.out]; exact hyn.out), hwn⟩
          case measure => simp [intOf]; omega
        | false =>
          rw [hsk] at x2 hs hwn
          rw [if_neg (by decide)] at hs
          have hsH := hid hs
          clear hs
          by_cases h1 : y = 1
          · have hU := hA.out k hkl hsk (by have := hyn.out; omega)
            subst h1
            rw [← hU] at x0 hwn
            clear hU
            go_wp2
            go_ret
            exact ⟨rfl, bl_step hB1.out hwn.out⟩
          · have h2 : (y - 1 == 0) = false := by simp; omega
            go_wp2
            go_roundw
            case rel => exact ⟨k + 1, y - 1, by omega, by go_num, by go_num, by omega, by omega, hid (by rw [hsH.out]; have := hyn.out; omega), hwn⟩
            case measure => simp [intOf]; omega
      · have hltz : ¬ (k : Int) < (m : Int) := by omega
        obtain rfl : k = m := by omega
        have hkk := hs_keep hk1.out hw.out
        have c1 : wr.cell? ⟨w.heap.size, 1, none⟩ = some (.slice na nn nc) := blk_cell hkk rfl
        clear hkk
        have hyt : Hid (y + (tm : Int) = n) := hid (by rw [hT.out]; exact hyn.out)
        by_cases hgt : (nn : Int) < y
        · have hU := hB.out (by have := hyt.out; omega)
          subst hU
          go_wp2
          go_ret
          exact ⟨rfl, bl_step hB1.out hw.out⟩
        · obtain ⟨j, hj⟩ : ∃ j : Nat, y = (j : Int) + 1 := ⟨(y - 1).toNat, by omega⟩
          have hjn : j < ns.length := by rw [hnn.out]; omega
          have hU := hC.out j hjn (by have := hyt.out; omega)
          obtain ⟨b, o, he, -, hx⟩ := (h0.out wr (bl_step hB1.out hw.out)).2.at hjn
          subst he
          have hx : wr.cell? ⟨b, o + j * 1, none⟩ = some (.string (strT ns[j])) := hx
          rw [Nat.mul_one] at hx
          rw [← hU] at hx
          clear hU hyt hyn
          subst hj
          go_wp2
          go_ret
          exact ⟨rfl, bl_step hB1.out hw.out⟩

end Go.Proofs.YtcledgljbmepaaaGreat
namespace Go.Proofs.YtcledgljbmepaaaGreat
open Go.RowKit Go.Maps

/-- no list of a grammar is longer than the laws take -/
structure Fits12 (g : Gm) : Prop where
  rules : g.rules.length ≤ 40
  nonts : g.nonts.length ≤ 40
  levels : g.levels.length ≤ 100
  prods : g.prods.length ≤ 100
  rule : ∀ j (h : j < g.rules.length), g.rules[j].re.length ≤ 100 ∧ g.rules[j].name.length ≤ 100
  nont : ∀ j (h : j < g.nonts.length), g.nonts[j].length ≤ 100
  prod : ∀ j (h : j < g.prods.length), g.prods[j].right.length ≤ 30
/-- what long answers: false just of a grammar that fits -/
def LngA (g : Gm) (w : World) (e : Ending) (w' : World) : Prop := ∃ b, e = .returned (.bool b) ∧ (b = false ↔ Fits12 g) ∧ Below w.heap.size w w'
theorem LngA.yes {g : Gm} {w w' : World} (h : Below w.heap.size w w') (hf : ¬ Fits12 g) : LngA g w (.returned (.bool true)) w' := ⟨true, rfl, ⟨fun h => (by cases h), fun h => absurd h hf⟩, h⟩
theorem LngA.no {g : Gm} {w w' : World} (h : Below w.heap.size w w') (hf : Fits12 g) : LngA g w (.returned (.bool false)) w' := ⟨false, rfl, ⟨fun _ => hf, fun _ => rfl⟩, h⟩
set_option maxRecDepth 20000 in
set_option maxHeartbeats 2000000 in
theorem long12 (rv nv lv pv : Value) (g : Gm) (w : World) (h : GmV w rv nv lv pv g) :
    Calls Tryz.prog 6 #[gmA rv nv lv pv g.start] w (LngA g w) := by
  obtain ⟨a, c, rfl⟩ := h.rules.shape
  obtain ⟨na, nc, rfl⟩ := h.nonts.shape
  obtain ⟨la, lc, rfl⟩ := h.levels.shape
  obtain ⟨pa, pc, rfl⟩ := h.prods.shape
  have hV := hid h
  clear h
  obtain ⟨st, hst⟩ : ∃ x, g.start = x := ⟨_, rfl⟩
  rw [hst]
  obtain ⟨n, hn⟩ : ∃ n, Hid (g.rules.length = n) := ⟨_, hid rfl⟩
  obtain ⟨nn, hnn⟩ : ∃ n, Hid (g.nonts.length = n) := ⟨_, hid rfl⟩
  obtain ⟨nl, hnl⟩ : ∃ n, Hid (g.levels.length = n) := ⟨_, hid rfl⟩
  obtain ⟨np, hnp⟩ : ∃ n, Hid (g.prods.length = n) := ⟨_, hid rfl⟩
  rw [hn.out, hnn.out, hnl.out, hnp.out] at hV ⊢
  obtain ⟨W1, hW1⟩ : ∃ x, w.alloc (.cells #[.slice a n c, .slice na nn nc, .slice la nl lc, .slice pa np pc, .int .i64 st] 27) = x := ⟨_, rfl⟩
  have hB1 : Hid (Below w.heap.size w W1) := by rw [← hW1]; exact hid (al' w _)
  have hk1 : Hid (W1.heap[w.heap.size]? = some (.cells #[.slice a n c, .slice na nn nc, .slice la nl lc, .slice pa np pc, .int .i64 st] 27)) := by rw [← hW1]; exact hid (heap_new w _)
  have y0 : W1.cell? ⟨w.heap.size, 0, none⟩ = some (.slice a n c) := blk_cell hk1.out rfl
  have y1 : W1.cell? ⟨w.heap.size, 1, none⟩ = some (.slice na nn nc) := blk_cell hk1.out rfl
  have y2 : W1.cell? ⟨w.heap.size, 2, none⟩ = some (.slice la nl lc) := blk_cell hk1.out rfl
  have y3 : W1.cell? ⟨w.heap.size, 3, none⟩ = some (.slice pa np pc) := blk_cell hk1.out rfl
  have hV1 := hid (hV.out.keep hB1.out)
  clear hV hk1 hst
  by_cases hbig : n ≤ 40 ∧ nn ≤ 40 ∧ nl ≤ 100 ∧ np ≤ 100
  · obtain ⟨b1, b2, b3, b4⟩ := hbig
    have c1 : ¬ (40 : Int) < (n : Int) := by omega
    have c2 : ¬ (40 : Int) < (nn : Int) := by omega
    have c3 : ¬ (100 : Int) < (nl : Int) := by omega
    have c4 : ¬ (100 : Int) < (np : Int) := by omega
    go_enter Tryz.func6, Tryz.ntmps6
    go_wp2
    clear hW1 c1 c2 c3 c4
    go_loopw [31] (fun i wr => ∃ k : Nat, k ≤ n ∧ i = .int .i64 (k : Int) ∧ Hid (∀ j (h : j < g.rules.length), j < k → g.rules[j].re.length ≤ 100 ∧ g.rules[j].name.length ≤ 100) ∧ wr = W1) (fun i _ => n - (intOf i).toNat)
    case atStart => exact ⟨0, Nat.zero_le _, rfl, hid (fun j _ hj => absurd hj (Nat.not_lt_zero _)), rfl⟩
    case round =>
      obtain ⟨k, hk, rfl, hS, hwr⟩ := hrel
      subst wr
      by_cases hlt : k < n
      · have hltz : (k : Int) < (n : Int) := by omega
        have hkl : k < g.rules.length := by rw [hn.out]; exact hlt
        obtain ⟨b, o, he, -, v, x0, x1, -, hC⟩ := hV1.out.rules.at hkl
        subst he
        obtain ⟨ra, rc, rfl, -⟩ := hC
        have hsz := strT_size g.rules[k].name
        have hS1 : Hid (g.rules[k].re.length ≤ 100 → g.rules[k].name.length ≤ 100 → ∀ j (h : j < g.rules.length), j < k + 1 → g.rules[j].re.length ≤ 100 ∧ g.rules[j].name.length ≤ 100) := hid (fun p1 p2 j h hj => by
          rcases Nat.lt_or_ge j k with h8 | h8
          · exact hS.out j h h8
          · obtain rfl : j = k := by omega
            exact ⟨p1, p2⟩)
        have hF1 : Hid (100 < g.rules[k].re.length → ¬ Fits12 g) := hid (fun h9 h8 => absurd (h8.rule k hkl).1 (by omega))
        have hF2 : Hid (100 < g.rules[k].name.length → ¬ Fits12 g) := hid (fun h9 h8 => absurd (h8.rule k hkl).2 (by omega))
        generalize g.rules[k].re.length = rl at *
        generalize g.rules[k].name = T at *
        by_cases h1 : 100 < rl
        · have h1z : (100 : Int) < (rl : Int) := by omega
          clear hS1
          go_wp2
          go_ret
          exact LngA.yes hB1.out (hF1.out h1)
        · have h1z : ¬ (100 : Int) < (rl : Int) := by omega
          by_cases h2 : 100 < T.length
          · have h2z : (100 : Int) < (T.length : Int) := by omega
            clear hS1
            go_wp2
            go_ret
            exact LngA.yes hB1.out (hF2.out h2)
          · have h2z : ¬ (100 : Int) < (T.length : Int) := by omega
            have hS2 := hid (hS1.out (by omega) (by omega))
            clear hS1
            go_wp2
            go_roundw
            case rel => exact ⟨k + 1, by omega, by go_num, hS2, by first | rfl | trivial⟩
            case measure => simp [intOf]; omega
      · have hltz : ¬ (k : Int) < (n : Int) := by omega
        obtain rfl : k = n := by omega
        go_wp2
        have hS9 := hid (fun j (h : j < g.rules.length) => hS.out j h (by rw [← hn.out]; exact h))
        clear hS hlt hltz hk
        go_loopw [56] (fun i wr => ∃ q : Nat, q ≤ nn ∧ i = .int .i64 (q : Int) ∧ Hid (∀ j (h : j < g.nonts.length), j < q → g.nonts[j].length ≤ 100) ∧ wr = W1) (fun i _ => nn - (intOf i).toNat)
        case atStart => exact ⟨0, Nat.zero_le _, rfl, hid (fun j _ hj => absurd hj (Nat.not_lt_zero _)), by first | rfl | trivial⟩
        case round =>
          obtain ⟨q, hk, rfl, hS, hwr⟩ := hrel
          subst wr
          by_cases hlt : q < nn
          · have hltz : (q : Int) < (nn : Int) := by omega
            have hkl : q < g.nonts.length := by rw [hnn.out]; exact hlt
            obtain ⟨b, o, he, -, x0⟩ := hV1.out.nonts.at hkl
            subst he
            rw [Nat.mul_one] at x0
            unfold TxtAt at x0
            have hsz := strT_size g.nonts[q]
            have hS1 : Hid (g.nonts[q].length ≤ 100 → ∀ j (h : j < g.nonts.length), j < q + 1 → g.nonts[j].length ≤ 100) := hid (fun p1 j h hj => by
              rcases Nat.lt_or_ge j q with h8 | h8
              · exact hS.out j h h8
              · obtain rfl : j = q := by omega
                exact p1)
            have hF1 : Hid (100 < g.nonts[q].length → ¬ Fits12 g) := hid (fun h9 h8 => absurd (h8.nont q hkl) (by omega))
            generalize g.nonts[q] = T at *
            by_cases h2 : 100 < T.length
            · have h2z : (100 : Int) < (T.length : Int) := by omega
              clear hS1
              go_wp2
              go_ret
              exact LngA.yes hB1.out (hF1.out h2)
            · have h2z : ¬ (100 : Int) < (T.length : Int) := by omega
              have hS2 := hid (hS1.out (by omega))
              clear hS1
              go_wp2
              go_roundw
              case rel => exact ⟨q + 1, by omega, by go_num, hS2, by first | rfl | trivial⟩
              case measure => simp [intOf]; omega
          · have hltz : ¬ (q : Int) < (nn : Int) := by omega
            obtain rfl : q = nn := by omega
            go_wp2
            have hN9 := hid (fun j (h : j < g.nonts.length) => hS.out j h (by rw [← hnn.out]; exact h))
            clear hS hlt hltz hk
            go_loopw [70] (fun i wr => ∃ r : Nat, r ≤ np ∧ i = .int .i64 (r : Int) ∧ Hid (∀ j (h : j < g.prods.length), j < r → g.prods[j].right.length ≤ 30) ∧ wr = W1) (fun i _ => np - (intOf i).toNat)
            case atStart => exact ⟨0, Nat.zero_le _, rfl, hid (fun j _ hj => absurd hj (Nat.not_lt_zero _)), by first | rfl | trivial⟩
            case round =>
              obtain ⟨r, hk, rfl, hS, hwr⟩ := hrel
              subst wr
              by_cases hlt : r < np
              · have hltz : (r : Int) < (np : Int) := by omega
                have hkl : r < g.prods.length := by rw [hnp.out]; exact hlt
                obtain ⟨b, o, he, -, v, -, x1, -, hC⟩ := hV1.out.prods.at hkl
                subst he
                obtain ⟨ra, rc, rfl, -⟩ := hC
                have hS1 : Hid (g.prods[r].right.length ≤ 30 → ∀ j (h : j < g.prods.length), j < r + 1 → g.prods[j].right.length ≤ 30) := hid (fun p1 j h hj => by
                  rcases Nat.lt_or_ge j r with h8 | h8
                  · exact hS.out j h h8
                  · obtain rfl : j = r := by omega
                    exact p1)
                have hF1 : Hid (30 < g.prods[r].right.length → ¬ Fits12 g) := hid (fun h9 h8 => absurd (h8.prod r hkl) (by omega))
                generalize g.prods[r].right.length = rl at *
                by_cases h2 : 30 < rl
                · have h2z : (30 : Int) < (rl : Int) := by omega
                  clear hS1
                  go_wp2
                  go_ret
                  exact LngA.yes hB1.out (hF1.out h2)
                · have h2z : ¬ (30 : Int) < (rl : Int) := by omega
                  have hS2 := hid (hS1.out (by omega))
                  clear hS1
                  go_wp2
                  go_roundw
                  case rel => exact ⟨r + 1, by omega, by go_num, hS2, by first | rfl | trivial⟩
                  case measure => simp [intOf]; omega
              · have hltz : ¬ (r : Int) < (np : Int) := by omega
                obtain rfl : r = np := by omega
                have hfit : Hid (Fits12 g) := hid ⟨by rw [hn.out]; exact b1, by rw [hnn.out]; exact b2, by rw [hnl.out]; exact b3, by rw [hnp.out]; exact b4, hS9.out, hN9.out, fun j h => hS.out j h (by rw [← hnp.out]; exact h)⟩
                go_wp2
                go_ret
                exact LngA.no hB1.out hfit.out
  · have hb' : (40 : Int) < (n : Int) ∨ (¬ (40 : Int) < (n : Int) ∧ (40 : Int) < (nn : Int)) ∨ (¬ (40 : Int) < (n : Int) ∧ ¬ (40 : Int) < (nn : Int) ∧ (100 : Int) < (nl : Int)) ∨ (¬ (40 : Int) < (n : Int) ∧ ¬ (40 : Int) < (nn : Int) ∧ ¬ (100 : Int) < (nl : Int) ∧ (100 : Int) < (np : Int)) := by omega
    have hNF : Hid (¬ Fits12 g) := hid (fun h9 => hbig ⟨by rw [← hn.out]; exact h9.rules, by rw [← hnn.out]; exact h9.nonts, by rw [← hnl.out]; exact h9.levels, by rw [← hnp.out]; exact h9.prods⟩)
    clear hbig
    rcases hb' with c1 | ⟨c1, c2⟩ | ⟨c1, c2, c3⟩ | ⟨c1, c2, c3, c4⟩
    · go_enter Tryz.func6, Tryz.ntmps6
      go_wp2
      go_ret
      exact LngA.yes hB1.out hNF.out
    · go_enter Tryz.func6, Tryz.ntmps6
      go_wp2
      go_ret
      exact LngA.yes hB1.out hNF.out
    · go_enter Tryz.func6, Tryz.ntmps6
      go_wp2
      go_ret
      exact LngA.yes hB1.out hNF.out
    · go_enter Tryz.func6, Tryz.ntmps6
      go_wp2
      go_ret
      exact LngA.yes hB1.out hNF.out

set_option maxRecDepth 20000 in
theorem longYes (rv nv lv pv : Value) (g : Gm) (w : World) (h : GmV w rv nv lv pv g) (hf : ¬ Fits12 g) : Calls Tryz.prog 6 #[gmA rv nv lv pv g.start] w fun e w' => e = .returned (.bool true) ∧ Below w.heap.size w w' :=
  (long12 rv nv lv pv g w h).mono (by
    rintro e w' ⟨b, rfl, hb, hw⟩
    cases b with
    | true => exact ⟨rfl, hw⟩
    | false => exact absurd (hb.1 rfl) hf)
set_option maxRecDepth 20000 in
theorem longNo (rv nv lv pv : Value) (g : Gm) (w : World) (h : GmV w rv nv lv pv g) (hf : Fits12 g) : Calls Tryz.prog 6 #[gmA rv nv lv pv g.start] w fun e w' => e = .returned (.bool false) ∧ Below w.heap.size w w' :=
  (long12 rv nv lv pv g w h).mono (by
    rintro e w' ⟨b, rfl, hb, hw⟩
    rw [hb.2 hf]
    exact ⟨rfl, hw⟩)

end Go.Proofs.YtcledgljbmepaaaGreat
namespace Go.Proofs.YtcledgljbmepaaaGreat
open Go.RowKit Go.Maps Go.Sort

set_option maxRecDepth 20000 in
theorem Fits12.bnd {g : Gm} (h : Fits12 g) : BndG g where
  rules := by have := h.rules; omega
  nonts := by have := h.nonts; omega
  levels := by have := h.levels; omega
  prods := by have := h.prods; omega
  re r hr := by
    obtain ⟨j, hj, e⟩ := List.getElem_of_mem hr
    have := (h.rule j hj).1
    rw [e] at this
    omega
  right p hp := by
    obtain ⟨j, hj, e⟩ := List.getElem_of_mem hp
    have := h.prod j hj
    rw [e] at this
    omega
/-- what is asked of gram.Terms, gram.Name -/
structure NamK : Prop where
  terms : ∀ (g : Gm) (rv nv lv pv : Value) (u : World), BndG g → GmV u rv nv lv pv g → Calls Tryz.prog 7 #[gmA rv nv lv pv g.start] u fun e w' => e = .returned (.int .i64 (g.terms : Int)) ∧ Below u.heap.size u w'
  name : ∀ (g : Gm) (n : Int) (rv nv lv pv : Value) (u : World), n ≤ 9223372036854775807 → Fits12 g → GmV u rv nv lv pv g → Calls Tryz.prog 10 #[gmA rv nv lv pv g.start, .int .i64 n] u fun e w' => e = .returned (.string (strT (g.name n))) ∧ Below u.heap.size u w'
set_option maxRecDepth 20000 in
set_option maxHeartbeats 8000000 in
theorem gramNamesWalk {prs : Txt → Option Gm} (L : LowN) (H : PrsOK prs) (HM : NamK) (rv nv lv pv : Value) (g : Gm) (n : Int) (w : World) (hn9 : n ≤ 9223372036854775807) (h : GmV w rv nv lv pv g) : Calls Tryz.prog 3 #[gmA rv nv lv pv g.start, .int .i64 n] w fun e w' => e = .returned (.bool true) ∧ Below w.heap.size w w' := by
  have GW := hid (fun u => wakes12 L H u)
  have hV := hid h
  obtain ⟨a, c, rfl⟩ := h.rules.shape
  obtain ⟨na, nc, rfl⟩ := h.nonts.shape
  obtain ⟨la, lc, rfl⟩ := h.levels.shape
  obtain ⟨pa, pc, rfl⟩ := h.prods.shape
  have hKp := hid (fun u (hu : Below w.heap.size w u) => hV.out.keep hu)
  obtain ⟨W1, hW1⟩ : ∃ x, w.alloc (.cells #[.slice a g.rules.length c, .slice na g.nonts.length nc, .slice la g.levels.length lc, .slice pa g.prods.length pc, .int .i64 g.start] 27) = x := ⟨_, rfl⟩
  have hB1 : Hid (Below w.heap.size w W1) := by rw [← hW1]; exact hid (al' w _)
  have hk1 : Hid (W1.heap[w.heap.size]? = some (.cells #[.slice a g.rules.length c, .slice na g.nonts.length nc, .slice la g.levels.length lc, .slice pa g.prods.length pc, .int .i64 g.start] 27)) := by rw [← hW1]; exact hid (heap_new w _)
  clear h
  by_cases hf : Fits12 g
  · have GL := hid (fun u (hu : Below w.heap.size w u) => longNo _ _ _ _ g u (hKp.out u hu) hf)
    have GC := hid (fun u (hu : Below w.heap.size w u) => copied12 _ _ _ _ g u (hKp.out u hu) hf.bnd)
    have GT := hid (fun rv nv lv pv u (hv : GmV u rv nv lv pv g) => HM.terms g rv nv lv pv u hf.bnd hv)
    have GN := hid (fun rv nv lv pv u (hv : GmV u rv nv lv pv g) => HM.name g n rv nv lv pv u hn9 hf hv)
    have RT := hid (fun u (hu : Below w.heap.size w u) => refTermsC _ _ _ _ g u (hKp.out u hu) (by have := hf.rules; omega))
    have RN := hid (fun u (hu : Below w.heap.size w u) => refNameC _ _ _ _ g n u (hKp.out u hu) (by have := hf.rules; omega) (by have := hf.nonts; omega))
    clear L H HM hV hf hn9
    generalize g.terms = tm at *
    generalize strT (g.name n) = U at *
    generalize g.rules.length = rn at *
    generalize g.nonts.length = nn at *
    generalize g.levels.length = ll at *
    generalize g.prods.length = pp at *
    generalize g.start = st at *
    go_enter Tryz.func3, Tryz.ntmps3
    go_wp2_with (go_at_call 5; refine (GW.out W1).mono ?_; clear GW; rintro e w1 ⟨rfl, hc1⟩; have hw1 := hid (bl_step hB1.out hc1); have hk2 := hid (hs_keep hk1.out hc1); clear hc1 hk1)
    clear hW1
    obtain ⟨z0, z1, z2, z3, z4⟩ := cells5m (hs_keep hk2.out ((Below.refl _ w1).drew))
    have hcur := hid (show Below w.heap.size w w1.drew from hw1.out.drew)
    have hkc := hid (show w1.drew.heap[w.heap.size]? = _ from hk2.out)
    clear hw1 hk2
    go_region_held3 (fun w' => w'.cell? ⟨w.heap.size, 0, none⟩ = some (.slice a rn c) ∧ w'.cell? ⟨w.heap.size, 1, none⟩ = some (.slice na nn nc) ∧ w'.cell? ⟨w.heap.size, 2, none⟩ = some (.slice la ll lc) ∧ w'.cell? ⟨w.heap.size, 3, none⟩ = some (.slice pa pp pc) ∧ w'.cell? ⟨w.heap.size, 4, none⟩ = some (.int .i64 st)) (go_keep) ((first
      | (go_at_call 6; refine (GL.out _ hcur.out).mono ?_; rintro e w2 ⟨rfl, hc⟩; have hn := hid (bl_step hcur.out hc); have hk := hid (hs_keep hkc.out hc); clear hcur hkc z0 z1 z2 z3 z4; have hcur := hn; have hkc := hk; clear hn hk hc; obtain ⟨z0, z1, z2, z3, z4⟩ := cells5m hkc.out)
      | (go_at_call 8; refine (GC.out _ hcur.out).mono ?_; rintro e w3 ⟨rv', nv', lv', pv', rfl, hG, hc⟩; obtain ⟨ra', rc', h1⟩ := hG.rules.shape; obtain ⟨na', nc', h2⟩ := hG.nonts.shape; obtain ⟨la', lc', h3⟩ := hG.levels.shape; obtain ⟨pa', pc', h4⟩ := hG.prods.shape; subst h1 h2 h3 h4; have hGM := hid hG; clear hG; have hn := hid (bl_step hcur.out hc); have hk := hid (hs_keep hkc.out hc); clear hcur hkc z0 z1 z2 z3 z4; have hcur := hn; have hkc := hk; clear hn hk hc; obtain ⟨z0, z1, z2, z3, z4⟩ := cells5m hkc.out)
      | (go_at_call 7; refine (GT.out _ _ _ _ _ hGM.out).mono ?_; rintro e w4 ⟨rfl, hc⟩; clear hGM; have hn := hid (bl_step hcur.out hc); have hk := hid (hs_keep hkc.out hc); clear hcur hkc z0 z1 z2 z3 z4; have hcur := hn; have hkc := hk; clear hn hk hc; obtain ⟨z0, z1, z2, z3, z4⟩ := cells5m hkc.out)
      | (go_at_call 10; refine (GN.out _ _ _ _ _ hGM.out).mono ?_; rintro e w4 ⟨rfl, hc⟩; clear hGM; have hn := hid (bl_step hcur.out hc); have hk := hid (hs_keep hkc.out hc); clear hcur hkc z0 z1 z2 z3 z4; have hcur := hn; have hkc := hk; clear hn hk hc; obtain ⟨z0, z1, z2, z3, z4⟩ := cells5m hkc.out)
      | (go_at_call 9; refine (RT.out _ hcur.out).mono ?_; rintro e w5 ⟨rfl, hc⟩; have hG5 := hid (hGM.out.keep hc); clear hGM; have hGM := hG5; clear hG5; have hn := hid (bl_step hcur.out hc); have hk := hid (hs_keep hkc.out hc); clear hcur hkc z0 z1 z2 z3 z4; have hcur := hn; have hkc := hk; clear hn hk hc; obtain ⟨z0, z1, z2, z3, z4⟩ := cells5m hkc.out)
      | (go_at_call 9; refine (RT.out _ hcur.out).mono ?_; rintro e w5 ⟨rfl, hc⟩; have hn := hid (bl_step hcur.out hc); have hk := hid (hs_keep hkc.out hc); clear hcur hkc z0 z1 z2 z3 z4; have hcur := hn; have hkc := hk; clear hn hk hc; obtain ⟨z0, z1, z2, z3, z4⟩ := cells5m hkc.out)
      | (go_at_call 11; refine (RN.out _ hcur.out).mono ?_; rintro e w5 ⟨rfl, hc⟩; have hG5 := hid (hGM.out.keep hc); clear hGM; have hGM := hG5; clear hG5; have hn := hid (bl_step hcur.out hc); have hk := hid (hs_keep hkc.out hc); clear hcur hkc z0 z1 z2 z3 z4; have hcur := hn; have hkc := hk; clear hn hk hc; obtain ⟨z0, z1, z2, z3, z4⟩ := cells5m hkc.out)
      | (go_at_call 11; refine (RN.out _ hcur.out).mono ?_; rintro e w5 ⟨rfl, hc⟩; have hn := hid (bl_step hcur.out hc); have hk := hid (hs_keep hkc.out hc); clear hcur hkc z0 z1 z2 z3 z4; have hcur := hn; have hkc := hk; clear hn hk hc; obtain ⟨z0, z1, z2, z3, z4⟩ := cells5m hkc.out)))
    all_goals
      go_wp2
      go_ret
      exact ⟨by simp, hcur.out⟩
  · have GL := hid (fun u (hu : Below w.heap.size w u) => longYes _ _ _ _ g u (hKp.out u hu) hf)
    clear L H HM hV hf hn9
    generalize g.rules.length = rn at *
    generalize g.nonts.length = nn at *
    generalize g.levels.length = ll at *
    generalize g.prods.length = pp at *
    generalize g.start = st at *
    go_enter Tryz.func3, Tryz.ntmps3
    go_wp2_with (go_at_call 5; refine (GW.out W1).mono ?_; clear GW; rintro e w1 ⟨rfl, hc1⟩; have hw1 := hid (bl_step hB1.out hc1); have hk2 := hid (hs_keep hk1.out hc1); clear hc1 hk1)
    clear hW1
    obtain ⟨y0, y1, y2, y3, y4⟩ := cells5m hk2.out
    have z0 := cell_regrown y0
    have z1 := cell_regrown y1
    have z2 := cell_regrown y2
    have z3 := cell_regrown y3
    have z4 := cell_regrown y4
    have cA : Hid (∀ d os, Calls Tryz.prog 6 #[gmA (.slice a rn c) (.slice na nn nc) (.slice la ll lc) (.slice pa pp pc) st] (grow (redrawn w1 d) os) fun e w'' => e = .returned (.bool true) ∧ ∃ p : Regrown, w'' = grow (redrawn w1 p.d) p.os) := hid (fun d os => Calls.regrown_of (GL.out _ (bl_step hw1.out (below_regrown w1 d os))))
    refine wp_region_quiet_below (by kernel_rfl) (by kernel_rfl) ?_
    repeat (first | go_big_quiet_step (exact cA.out _ _) | quiet_step (exact cA.out _ _))
    refine wpQuiet_nil ?_
    intro _ hw'
    obtain ⟨⟨dq, osq⟩, hw''⟩ := hw'
    subst hw''
    go_wp2
    go_ret
    exact ⟨rfl, bl_step hw1.out (below_regrown w1 dq osq)⟩

end Go.Proofs.YtcledgljbmepaaaGreat
