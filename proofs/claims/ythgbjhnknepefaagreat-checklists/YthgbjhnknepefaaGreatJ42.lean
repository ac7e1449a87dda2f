/- gram.Parse: read to the end. What settle asks of the reader. gram.Parse: its own walk. gram.Name. -/
import Derived.Test.YthgbjhnknepefaaGreatJ41
import Derived.Test.YthgbjhnknepefaaGreatJ34
import Derived.Test.YthgbjhnknepefaaGreatJ38
import Derived.Test.YthgbjhnknepefaaGreatJ40
import Derived.Test.YthgbjhnknepefaaGreatJ20
import Derived.Test.YthgbjhnknepefaaGreatJ12
import Derived.Test.YthgbjhnknepefaaGreatJ16
namespace Go.Proofs.YthgbjhnknepefaaGreat
open Go.RowKit Go.Maps

/-- what is known behind settle -/
def PaF (s : Txt) (w : World) (rb : Nat) (V : World) : Prop := ∃ T X lv rs mp, RdW w.heap.size T V rb X (rdS s) (rdS s).settle lv rs mp ∧ Chg (fun _ => 0) T w V ∧ T w.heap.size = 77 ∧ V.heap[w.heap.size]? = some gm0
set_option maxRecDepth 20000 in
theorem parseT (s : Txt) (w : World) (_hs : s.length ≤ 1000000) (h0 : (wrdA s).2.2 = 0) (ho : StOk (rdS s)) {rb : Nat} {W : World} {T : Nat → Nat} {X : RX} (hr : RdV w.heap.size T W rb X (RS.init (wsE s))) (hc : Chg (fun _ => 0) T w W) (hT : T w.heap.size = 77) (hR : W.heap[w.heap.size]? = some gm0) :
    Calls Tryz.prog 23 #[ptr0 rb] W fun r u => r = .returned (.tuple #[]) ∧ Calls Tryz.prog 24 #[ptr0 rb] u fun r V => r = .returned (.tuple #[]) ∧ PaF s w rb V := by
  have hlen := wrdA_len s h0
  have hp : (RS.init (wsE s)).pot ≤ 80000 := by
    rw [init_pot]
    unfold wsE
    rw [List.length_append, List.length_singleton]
    omega
  have hlt := blk_lt hR
  refine (itemsC hr hp).mono ?_
  rintro r u ⟨e, T1, X1, hr1, hc1⟩
  have hT1 : T1 w.heap.size = 77 := (hc1.tag _ hlt).trans hT
  have hR1 : u.heap[w.heap.size]? = some gm0 := hc1.kept.blk hR (fun e => e.2 hT)
  refine ⟨e, (settleC (st := rdS s) hr1 ho).mono ?_⟩
  rintro r V ⟨e2, lv, T2, rs, mp, hr2, hc2⟩
  have hlt1 := blk_lt hR1
  exact ⟨e2, T2, X1, lv, rs, mp, hr2, (hc.trans hc1).trans hc2, (hc2.tag _ hlt1).trans hT1, hc2.kept.blk hR1 (fun e => e.2 hT1)⟩
theorem PaF.out {s : Txt} {w V : World} {rb : Nat} (h : PaF s w rb V) : ∃ ra rc na nc la lc pa pc T X rs mp, (V.heap[w.heap.size]? = some gm0 ∧ V.cell? ⟨rb, 1, none⟩ = some (.slice ra (rdS s).rules.length rc) ∧ V.cell? ⟨rb, 2, none⟩ = some (.slice na (rdS s).nonts.length nc) ∧ V.cell? ⟨rb, 3, none⟩ = some (.slice la (rdS s).settle.levels.length lc) ∧ V.cell? ⟨rb, 4, none⟩ = some (.slice pa (rdS s).settle.prods.length pc) ∧ V.cell? ⟨rb, 5, none⟩ = some (.int .i64 (rdS s).settle.start) ∧ V.cell? ⟨rb, 16, none⟩ = some (.int .i64 ((rdS s).settle.pl : Int)) ∧ V.cell? ⟨rb, 17, none⟩ = some (.int .i64 (rdS s).settle.err)) ∧
    X.rv = .slice ra (rdS s).rules.length rc ∧ X.nv = .slice na (rdS s).nonts.length nc ∧ X.pv = .slice pa (rdS s).settle.prods.length pc ∧ RdW w.heap.size T V rb X (rdS s) (rdS s).settle (.slice la (rdS s).settle.levels.length lc) rs mp ∧ Chg (fun _ => 0) T w V ∧ T w.heap.size = 77 := by
  obtain ⟨T, X, lv, rs, mp, hr, hc, hT, hR⟩ := h
  obtain ⟨ra, rc, h1⟩ := own_shape hr.rules.1
  obtain ⟨na, nc, h2⟩ := own_shape hr.nonts.1
  obtain ⟨la, lc, h3⟩ := own_shape hr.levels.1
  obtain ⟨pa, pc, h4⟩ := own_shape hr.prods.1
  subst h3
  exact ⟨ra, rc, na, nc, la, lc, pa, pc, T, X, rs, mp, ⟨hR, by rw [← h1]; exact blk_cell hr.blk rfl, by rw [← h2]; exact blk_cell hr.blk rfl, blk_cell hr.blk rfl, by rw [← h4]; exact blk_cell hr.blk rfl, blk_cell hr.blk rfl, blk_cell hr.blk rfl, blk_cell hr.blk rfl⟩, h1, h2, h4, hr, hc, hT⟩

end Go.Proofs.YthgbjhnknepefaaGreat
namespace Go.Proofs.YthgbjhnknepefaaGreat

theorem rdS_ok (s : Txt) (hs : s.length ≤ 1000000) (h0 : (wrdA s).2.2 = 0) : StOk (rdS s) := by
  have hI := rdS_inv s (P := fun x => x.2.2.length ≤ 1000000) (Nat.zero_le _) (fun x hx => Nat.le_trans ((wsE_words s).1 x hx) hs)
  have hA := rdS_ia s
  have hp : (rdS s).pot ≤ 80000 := by
    refine Nat.le_trans (items_pot _ _) ?_
    rw [init_pot]
    have := wrdA_len s h0
    unfold wsE
    rw [List.length_append, List.length_singleton]
    omega
  have hl : (rdS s).rules.length + (rdS s).nonts.length + (rdS s).prods.length + (rdS s).skips.length + (rdS s).terms.length + (rdS s).nons.length + (rdS s).later.length + (rdS s).levels + (rdS s).starts ≤ 80000 := by
    unfold RS.pot RS.lens at hp
    omega
  refine ⟨⟨by omega, by omega, by omega, hI.sk, hI.te, hI.no⟩, fun x hx => (hI.la x hx).1, fun x hx => (hI.la x hx).2, fun t => ?_, fun l hl' => ?_, by omega, by omega, by omega⟩
  · rw [hA.trm]
    have := (fnd_good (rdS s) t).1
    omega
  · have := hI.pr l hl'
    omega

end Go.Proofs.YthgbjhnknepefaaGreat
namespace Go.Proofs.YthgbjhnknepefaaGreat
open Go.RowKit Go.Maps

abbrev put5 (V : World) (R : Nat) (v0 v1 v2 v3 v4 : Value) : World := ((((V.setCell ⟨R, 0, none⟩ v0).setCell ⟨R, 1, none⟩ v1).setCell ⟨R, 2, none⟩ v2).setCell ⟨R, 3, none⟩ v3).setCell ⟨R, 4, none⟩ v4
theorem kept5 (V : World) (R : Nat) (v0 v1 v2 v3 v4 : Value) : Kept (oneBlk R) V (put5 V R v0 v1 v2 v3 v4) :=
  (((((Kept.refl (oneBlk R) V).setCell (a := ⟨R, 0, none⟩) (fun _ => rfl)).setCell (a := ⟨R, 1, none⟩) (fun _ => rfl)).setCell (a := ⟨R, 2, none⟩) (fun _ => rfl)).setCell (a := ⟨R, 3, none⟩) (fun _ => rfl)).setCell (a := ⟨R, 4, none⟩) (fun _ => rfl)
theorem below5 {V w : World} {R : Nat} (h : Below w.heap.size w V) (hR : w.heap.size ≤ R) (v0 v1 v2 v3 v4 : Value) : Below w.heap.size w (put5 V R v0 v1 v2 v3 v4) :=
  bl_set (bl_set (bl_set (bl_set (bl_set h _ _ _ hR) _ _ _ hR) _ _ _ hR) _ _ _ hR) _ _ _ hR
theorem Chg.low {T : Nat → Nat} {w V : World} (h : Chg (fun _ => 0) T w V) : Below w.heap.size w V := (h.kept.mono (G := noBlk) (fun _ _ e => absurd rfl e.1)).none
theorem PaF.good {s : Txt} {w V : World} {rb : Nat} (h : PaF s w rb V) (he : (rdS s).settle.err = 0) : ∃ ra rc na nc la lc pa pc, V.heap[w.heap.size]? = some gm0 ∧ V.cell? ⟨rb, 1, none⟩ = some (.slice ra (prsG s).rules.length rc) ∧ V.cell? ⟨rb, 2, none⟩ = some (.slice na (prsG s).nonts.length nc) ∧ V.cell? ⟨rb, 3, none⟩ = some (.slice la (prsG s).levels.length lc) ∧ V.cell? ⟨rb, 4, none⟩ = some (.slice pa (prsG s).prods.length pc) ∧ V.cell? ⟨rb, 5, none⟩ = some (.int .i64 (prsG s).start) ∧ V.cell? ⟨rb, 17, none⟩ = some (.int .i64 0) ∧
    GmV (put5 V w.heap.size (.slice ra (prsG s).rules.length rc) (.slice na (prsG s).nonts.length nc) (.slice la (prsG s).levels.length lc) (.slice pa (prsG s).prods.length pc) (.int .i64 (prsG s).start)) (.slice ra (prsG s).rules.length rc) (.slice na (prsG s).nonts.length nc) (.slice la (prsG s).levels.length lc) (.slice pa (prsG s).prods.length pc) (prsG s) ∧ Below w.heap.size w (put5 V w.heap.size (.slice ra (prsG s).rules.length rc) (.slice na (prsG s).nonts.length nc) (.slice la (prsG s).levels.length lc) (.slice pa (prsG s).prods.length pc) (.int .i64 (prsG s).start)) := by
  obtain ⟨ra, rc, na, nc, la, lc, pa, pc, T, X, rs, mp, ⟨c0, c1, c2, c3, c4, c5, -, c7⟩, e1, e2, e4, hr, hc, hT⟩ := h.out
  rw [he] at c7
  refine ⟨ra, rc, na, nc, la, lc, pa, pc, c0, c1, c2, c3, c4, c5, c7, ?_, below5 hc.low (Nat.le_refl _) _ _ _ _ _⟩
  have h9 := (hr.wrote (kept5 V w.heap.size (.slice ra (prsG s).rules.length rc) (.slice na (prsG s).nonts.length nc) (.slice la (prsG s).levels.length lc) (.slice pa (prsG s).prods.length pc) (.int .i64 (prsG s).start)) hT).gm (setL_err _ _ _ he)
  rw [e1, e2, e4] at h9
  exact h9
theorem PaF.fault {s : Txt} {w V : World} {rb : Nat} (h : PaF s w rb V) : V.heap[w.heap.size]? = some gm0 ∧ V.cell? ⟨rb, 16, none⟩ = some (.int .i64 ((rdS s).settle.pl : Int)) ∧ V.cell? ⟨rb, 17, none⟩ = some (.int .i64 (rdS s).settle.err) ∧ (put5 V w.heap.size (.slice none 0 0) (.slice none 0 0) (.slice none 0 0) (.slice none 0 0) (.int .i64 0)).cell? ⟨rb, 16, none⟩ = some (.int .i64 ((rdS s).settle.pl : Int)) ∧ (put5 V w.heap.size (.slice none 0 0) (.slice none 0 0) (.slice none 0 0) (.slice none 0 0) (.int .i64 0)).cell? ⟨rb, 17, none⟩ = some (.int .i64 (rdS s).settle.err) ∧ Below w.heap.size w (put5 V w.heap.size (.slice none 0 0) (.slice none 0 0) (.slice none 0 0) (.slice none 0 0) (.int .i64 0)) := by
  obtain ⟨ra, rc, na, nc, la, lc, pa, pc, T, X, rs, mp, ⟨c0, c1, c2, c3, c4, c5, c6, c7⟩, e1, e2, e4, hr, hc, hT⟩ := h.out
  have h9 := hr.wrote (kept5 V w.heap.size (.slice none 0 0) (.slice none 0 0) (.slice none 0 0) (.slice none 0 0) (.int .i64 0)) hT
  exact ⟨c0, c6, c7, blk_cell h9.blk rfl, blk_cell h9.blk rfl, below5 hc.low (Nat.le_refl _) _ _ _ _ _⟩
set_option maxRecDepth 20000 in
theorem parseP (s : Txt) (w : World) (hs : s.length ≤ 1000000) (h0 : (wrdA s).2.2 = 0) :
    ∀ u v, WdM (w.alloc gm0) u v (wrdA s).1 → ∃ A n C u6, (Builtin.append_ #[49, 49] 49 #[v, .slice (some ⟨u.heap.size, 0, none⟩) 1 1]).run Tryz.prog (u.alloc (.cells #[.int .i64 0, .int .i64 ((strT s).size : Int), .string ⟨#[]⟩] 53)) = .ok (.slice A n C) u6 ∧
      Calls Tryz.prog 23 #[ptr0 u6.heap.size] (u6.alloc (.cells #[.slice A n C, .slice none 0 0, .slice none 0 0, .slice none 0 0, .slice none 0 0, .int .i64 0, .int .i64 0, .int .i64 0, .slice none 0 0, .slice none 0 0, .slice none 0 0, .int .u32 0, .int .i32 0, .int .u32 0, .map none, .slice none 0 0, .int .i64 0, .int .i64 0] 71)) fun r u => r = .returned (.tuple #[]) ∧ Calls Tryz.prog 24 #[ptr0 u6.heap.size] u fun r V => r = .returned (.tuple #[]) ∧ PaF s w u6.heap.size V := fun u v hW => by
  have hsz := strT_size s
  obtain ⟨A, C, u6, h1, T, X, hr, hc, hT, hR⟩ := parseA s w hs h0 u v hW
  rw [hsz]
  exact ⟨A, _, C, u6, h1, parseT s w hs h0 (rdS_ok s hs h0) hr hc hT hR⟩
set_option maxRecDepth 20000 in
set_option maxHeartbeats 8000000 in
theorem parseGood12 (s : Txt) (w : World) (hs : s.length ≤ 1000000) (h0 : (wrdA s).2.2 = 0) (he : (rdS s).settle.err = 0) :
    Calls Tryz.prog 10 #[.string (strT s)] w fun e w' => ∃ rv nv lv pv, e = .returned (.tuple #[gmA rv nv lv pv (prsG s).start, .int .i64 0, .int .i64 0]) ∧ GmV w' rv nv lv pv (prsG s) ∧ Below w.heap.size w w' := by
  have hP := hid (parseP s w hs h0)
  obtain ⟨W, hW⟩ : ∃ y, w.alloc gm0 = y := ⟨_, rfl⟩
  rw [hW] at hP
  have G := hid (allC s W (by omega))
  rw [h0] at G
  have hfin := hid (fun rb V (h : PaF s w rb V) => h.good he)
  clear he h0
  generalize (wrdA s).1 = l at *
  generalize (wrdA s).2.1 = ap at *
  generalize strT s = S at *
  go_enter Tryz.func10, Tryz.ntmps10
  go_wp2_with (first
    | (go_at_call 22; refine G.out.mono ?_; clear G; rintro e u ⟨v, rfl, hM⟩; obtain ⟨A, n, C, u6, hrun, hI⟩ := hP.out u v hM; clear hP hM; have hI := hid hI)
    | (at_builtin; refine wp_run _ rfl _ _ _ rfl _ _ rfl rfl hrun ?_; clear hrun)
    | (go_at_call 23; refine hI.out.mono ?_; clear hI; rintro e u7 ⟨rfl, hI2⟩; have hI2 := hid hI2)
    | (go_at_call 24; refine hI2.out.mono ?_; clear hI2; rintro e V ⟨rfl, hF⟩; obtain ⟨ra, rc, na, nc, la, lc, pa, pc, c0, c1, c2, c3, c4, c5, c7, hG, hB⟩ := hfin.out _ _ hF; clear hfin hF; have hG := hid hG; have hB := hid hB; obtain ⟨⟨q0, q1⟩, ⟨q2, q3⟩, ⟨q4, q5⟩, ⟨q6, q7⟩, ⟨q8, q9⟩, q10⟩ := putT5 c0 (.slice ra (prsG s).rules.length rc) (.slice na (prsG s).nonts.length nc) (.slice la (prsG s).levels.length lc) (.slice pa (prsG s).prods.length pc) (.int .i64 (prsG s).start); obtain ⟨y0, y1, y2, y3, y4⟩ := cells5m q10; clear q10 c0))
  refine bodyPost_ret (v := .tuple #[gmA (.slice ra (prsG s).rules.length rc) (.slice na (prsG s).nonts.length nc) (.slice la (prsG s).levels.length lc) (.slice pa (prsG s).prods.length pc) (prsG s).start, .int .i64 0, .int .i64 0]) (by simp [results, Tryz.results10, go_sem, y0, y1, y2, y3, y4]) rfl ⟨_, _, _, _, rfl, hG.out, hB.out⟩
set_option maxRecDepth 20000 in
set_option maxHeartbeats 8000000 in
theorem parseFault12 (s : Txt) (w : World) (hs : s.length ≤ 1000000) (h0 : (wrdA s).2.2 = 0) (he : (rdS s).settle.err ≠ 0) :
    Calls Tryz.prog 10 #[.string (strT s)] w fun e w' => e = .returned (.tuple #[gmZ, .int .i64 ((rdS s).settle.pl : Int), .int .i64 (rdS s).settle.err]) ∧ Below w.heap.size w w' := by
  have hP := hid (parseP s w hs h0)
  obtain ⟨W, hW⟩ : ∃ y, w.alloc gm0 = y := ⟨_, rfl⟩
  rw [hW] at hP
  have G := hid (allC s W (by omega))
  rw [h0] at G
  have hfin := hid (fun rb V (h : PaF s w rb V) => h.fault)
  have hez : ((rdS s).settle.err != 0) = true := bne_iff_ne.2 he
  clear he h0
  generalize (wrdA s).1 = l at *
  generalize (wrdA s).2.1 = ap at *
  generalize strT s = S at *
  generalize (rdS s).settle.err = er at *
  generalize (rdS s).settle.pl = pl at *
  go_enter Tryz.func10, Tryz.ntmps10
  go_wp2_with (first
    | (go_at_call 22; refine G.out.mono ?_; clear G; rintro e u ⟨v, rfl, hM⟩; obtain ⟨A, n, C, u6, hrun, hI⟩ := hP.out u v hM; clear hP hM; have hI := hid hI)
    | (at_builtin; refine wp_run _ rfl _ _ _ rfl _ _ rfl rfl hrun ?_; clear hrun)
    | (go_at_call 23; refine hI.out.mono ?_; clear hI; rintro e u7 ⟨rfl, hI2⟩; have hI2 := hid hI2)
    | (go_at_call 24; refine hI2.out.mono ?_; clear hI2; rintro e V ⟨rfl, hF⟩; obtain ⟨c0, c6, c7, d6, d7, hB⟩ := hfin.out _ _ hF; clear hfin hF; have hB := hid hB; obtain ⟨⟨q0, q1⟩, ⟨q2, q3⟩, ⟨q4, q5⟩, ⟨q6, q7⟩, ⟨q8, q9⟩, q10⟩ := putT5 c0 (.slice none 0 0) (.slice none 0 0) (.slice none 0 0) (.slice none 0 0) (.int .i64 0); obtain ⟨y0, y1, y2, y3, y4⟩ := cells5m q10; clear q10 c0))
  go_region
  all_goals
    go_wp2
    refine bodyPost_ret (v := .tuple #[gmZ, .int .i64 (pl : Int), .int .i64 er]) (by simp [results, Tryz.results10, go_sem, y0, y1, y2, y3, y4]) rfl ⟨rfl, hB.out.drew⟩

end Go.Proofs.YthgbjhnknepefaaGreat
namespace Go.Proofs.YthgbjhnknepefaaGreat
open Go.RowKit Go.Maps

end Go.Proofs.YthgbjhnknepefaaGreat
