/- The reference: Of, of grammars that aren't both sound. The contract of topiaryref04.Of: the least one that isn't told yet, again and again; of topiaryref04.Is. The contracts of topiaryref04.Union, Both, Less. The reference: Of, of two sound grammars. -/
import Derived.Test.YtloaikjealcbmaaGreatK18
import Derived.Test.YtloaikjealcbmaaGreatK17
import Derived.Test.YtloaikjealcbmaaGreatK10
import Derived.Deep.RegionHeld3
import Derived.Deep.AppendLies
namespace Go.Proofs.YtloaikjealcbmaaGreat
open Go.RowKit Go.Maps Go.Sort

set_option maxRecDepth 20000 in
set_option maxHeartbeats 16000000 in
theorem refOfNo (g h : Gm) (rv nv lv pv rv' nv' lv' pv' : Value) (w : World) (bg : Bd14 g) (bh : Bd14 h) (hV : GmV w rv nv lv pv g) (hV' : GmV w rv' nv' lv' pv' h) (hno : ¬ (SndG g ∧ SndG h)) :
 Calls Tryz.prog 13 #[gmA rv nv lv pv g.start, gmA rv' nv' lv' pv' h.start] w (OfA g h w) := by
 obtain ⟨W, hW, hB1, hrb, hBx9⟩ := boxes3 w rv nv lv pv rv' nv' lv' pv' g.start h.start
 have hB := hid hB1
 have hBx := hid hBx9
 have G1 := hid (fun u (hu : Below W.heap.size W u) => refSound g rv nv lv pv u (hV.keep (bl_step hB1 hu)) bg.bnd bg.nam)
 have G2 := hid (fun u (hu : Below W.heap.size W u) => refSound h rv' nv' lv' pv' u (hV'.keep (bl_step hB1 hu)) bh.bnd bh.nam)
 obtain ⟨⟨z0, z1, z2, z3, z4⟩, ⟨q0, q1, q2, q3, q4⟩⟩ := hBx.out W (Below.refl _ _)
 have hend : Hid (∀ u, Below W.heap.size W u → OfA g h w (.returned (.tuple #[.agg #[.slice none 0 0, .slice none 0 0, .slice none 0 0, .bool false, .bool false, .bool false], .int .i64 10])) (put6 u (w.heap.size + 1 + 1) (.slice none 0 0) (.slice none 0 0) (.slice none 0 0) (.bool false) (.bool false) (.bool false))) := hid (fun u hu => by
  refine ⟨.slice none 0 0, .slice none 0 0, .slice none 0 0, ?_, ?_, ?_⟩
  · rw [chgG_no hno, chgE_no hno]; rfl
  · rw [chgG_no hno]; exact ⟨Lst.nil _, Nums.nil _, Nums.nil _⟩
  · exact (bl_step hB1 hu).trans ((put6_kept ..).below (fun k e => by rw [show k = w.heap.size + 1 + 1 from e]; omega) (Nat.le_trans hB1.size hu.size)))
 have hrbu : Hid (∀ u, Below W.heap.size W u → u.heap[w.heap.size + 1 + 1]? = some (.cells #[.slice none 0 0, .slice none 0 0, .slice none 0 0, .bool false, .bool false, .bool false] 34)) := hid (fun u hu => hs_keep hrb hu)
 generalize OfA g h w = Q at *
 have hcase : SndG g → ¬ SndG h := fun h1 h2 => hno ⟨h1, h2⟩
 clear hV hV' hB1 hBx9 hrb bg bh hno
 generalize g.start = st at *
 generalize h.start = st' at *
 by_cases hg : SndG g
 · have hh := hcase hg
   rw [soundB_yes hg] at G1
   rw [soundB_no hh] at G2
   clear hcase hg hh
   go_enter Tryz.func13, Tryz.ntmps13
   go_wp2_with (first
    | (go_at_call 15; refine (G1.out W (Below.refl _ _)).mono ?_; clear G1; rintro e w1 ⟨rfl, hc1⟩; have h1 := hid hc1; clear z0 z1 z2 z3 z4 q0 q1 q2 q3 q4 hW; obtain ⟨⟨z0, z1, z2, z3, z4⟩, ⟨q0, q1, q2, q3, q4⟩⟩ := hBx.out w1 hc1; clear hc1)
    | (go_at_call 15; refine (G2.out w1 h1.out).mono ?_; clear G2; rintro e w2 ⟨rfl, hc2⟩; have h2 := hid (bl_step h1.out hc2); clear hc2 z0 z1 z2 z3 z4 q0 q1 q2 q3 q4; obtain ⟨U1, U2, U3, U4, U5, U6, hU1, hU2, hU3, hU4, hU5, hU6, hU7, ⟨j0, f0, j1, f1, j2, f2, j3, f3, j4, f4, j5, f5⟩, ⟨v0, v1, v2, v3, v4, v5⟩⟩ := put6_walk (hrbu.out w2 h2.out) (.slice none 0 0) (.slice none 0 0) (.slice none 0 0) (.bool false) (.bool false) (.bool false); have hfin := hend.out w2 h2.out; rw [hU7] at hfin; have hf9 := hid hfin; clear hfin hU7))
   refine bodyPost_ret (v := .tuple #[.agg #[.slice none 0 0, .slice none 0 0, .slice none 0 0, .bool false, .bool false, .bool false], .int .i64 10]) (by simp [results, Tryz.results13, go_sem, v0, v1, v2, v3, v4, v5]) rfl ?_
   exact hf9.out
 · rw [soundB_no hg] at G1
   clear hcase hg G2
   go_enter Tryz.func13, Tryz.ntmps13
   go_wp2_with (go_at_call 15; refine (G1.out W (Below.refl _ _)).mono ?_; clear G1; rintro e w1 ⟨rfl, hc1⟩; have h1 := hid hc1; clear hc1 z0 z1 z2 z3 z4 q0 q1 q2 q3 q4 hW; obtain ⟨U1, U2, U3, U4, U5, U6, hU1, hU2, hU3, hU4, hU5, hU6, hU7, ⟨j0, f0, j1, f1, j2, f2, j3, f3, j4, f4, j5, f5⟩, ⟨v0, v1, v2, v3, v4, v5⟩⟩ := put6_walk (hrbu.out w1 h1.out) (.slice none 0 0) (.slice none 0 0) (.slice none 0 0) (.bool false) (.bool false) (.bool false); have hfin := hend.out w1 h1.out; rw [hU7] at hfin; have hf9 := hid hfin; clear hfin hU7)
   refine bodyPost_ret (v := .tuple #[.agg #[.slice none 0 0, .slice none 0 0, .slice none 0 0, .bool false, .bool false, .bool false], .int .i64 10]) (by simp [results, Tryz.results13, go_sem, v0, v1, v2, v3, v4, v5]) rfl ?_
   exact hf9.out

end Go.Proofs.YtloaikjealcbmaaGreat
namespace Go.Proofs.YtloaikjealcbmaaGreat
open Go.RowKit

end Go.Proofs.YtloaikjealcbmaaGreat
namespace Go.Proofs.YtloaikjealcbmaaGreat
open Go.RowKit

set_option maxRecDepth 20000 in
theorem numHas (v : Value) (l : List Int) (n : Int) (w : World) (hl : l.length ≤ 1000000) (hA : Nums w v l) :
 Calls Tryz.prog 33 #[v, .int .i64 n] w fun e w' => e = .returned (.bool (l.contains n)) ∧ w' = w := by
 obtain ⟨aa, ca, rfl, _, _, hA⟩ := hA
 obtain ⟨r, hr⟩ : ∃ r, Hid (l.contains n = r) := ⟨_, hid rfl⟩
 rw [show l.contains n = r from hr.out]
 go_enter Tryz.func33, Tryz.ntmps33
 go_wp2
 go_loop [5] (fun i => ∃ k : Nat, k ≤ l.length ∧ i = .int .i64 k ∧ ¬ n ∈ l.take k) (fun i => l.length - (intOf i).toNat)
 case atStart => exact ⟨0, Nat.zero_le _, rfl, by simp⟩
 case round =>
  obtain ⟨k, hk, rfl, hn⟩ := hrel
  by_cases hlt : k < l.length
  · have hltz : (k : Int) < (l.length : Int) := by omega
    obtain ⟨b1, o1, rfl, hb1, hc1⟩ := hA k hlt
    clear hA
    by_cases h : l[k] = n
    · have hres : r = true := by rw [← hr.out]; rw [List.contains_iff_mem, ← h]; exact List.getElem_mem hlt
      have hb : (l[k] == n) = true := beq_iff_eq.2 h
      generalize l[k] = x at hc1 hb
      clear h hn
      go_wp2
      go_ret
      exact ⟨by first | rfl | (rw [hres]; rfl), rfl⟩
    · have hn' : ¬ n ∈ l.take (k + 1) := by
       rw [List.take_succ_eq_append_getElem hlt, List.mem_append, List.mem_singleton]
       rintro (e | e)
       · exact hn e
       · exact h e.symm
      have hb : (l[k] == n) = false := beq_eq_false_iff_ne.2 h
      generalize l[k] = x at hc1 hb
      clear h hn
      go_wp2
      go_round
      case rel => exact ⟨k + 1, by omega, by go_num, hn'⟩
      case measure => simp [intOf]; omega
  · have hltz : ¬ (k : Int) < (l.length : Int) := by omega
    have hres : r = false := by
     rw [← hr.out]
     rw [List.take_of_length_le (by omega)] at hn
     rw [← Bool.not_eq_true, List.contains_iff_mem]; exact hn
    clear hA hn
    go_wp2
    go_ret
    exact ⟨by first | rfl | (rw [hres]; rfl), rfl⟩

end Go.Proofs.YtloaikjealcbmaaGreat
namespace Go.Proofs.YtloaikjealcbmaaGreat
open Go.RowKit Go.Maps Go.Sort

theorem collapseVD {R F : World → Nat → Prop} {G : Prop} (h : (∀ V q, F V q → R V q) → G) (pf : ∀ V q, F V q → R V q) : G := h pf
abbrev boxCh (a b s : Bool) : Obj := .cells #[.slice none 0 0, .slice none 0 0, .slice none 0 0, .bool a, .bool b, .bool s] 34
structure BxV (W V : World) (q : Nat) (a b s : Bool) : Prop where
 blk : V.heap[q]? = some (boxCh a b s)
 low : W.heap.size ≤ q
 bel : Below W.heap.size W V
theorem BxV.last {W u : World} (h : Below W.heap.size W u) (a b s : Bool) : BxV W (u.alloc (boxCh a b s)) u.heap.size a b s := ⟨heap_new u _, h.size, bl_step h (al' u _)⟩
theorem BxV.put {W u : World} {q : Nat} {a b s : Bool} (h : BxV W u q a b s) (a' b' s' : Bool) : BxV W (put6 u q (.slice none 0 0) (.slice none 0 0) (.slice none 0 0) (.bool a') (.bool b') (.bool s')) q a' b' s' :=
 ⟨put6_blk h.blk .., h.low, h.bel.trans ((put6_kept ..).below (fun k e => by rw [show k = q from e]; exact h.low) h.bel.size)⟩
theorem BxV.keep {W u v : World} {q : Nat} {a b s : Bool} (h : BxV W u q a b s) (hv : Below u.heap.size u v) : BxV W v q a b s := ⟨hs_keep h.blk hv, h.low, bl_step h.bel hv⟩
def foI : Option Nat → Int
 | none => -1
 | some k => (k : Int)
theorem fst_down {T : List Txt} {kept : List Int} {t : Txt} {n j : Nat} (hj : j < n) : ((T.getD j [] = t ∧ (j : Int) ∉ kept) → fstK T kept t (n - j) j = some j) ∧ (¬ (T.getD j [] = t ∧ (j : Int) ∉ kept) → fstK T kept t (n - j) j = fstK T kept t (n - (j + 1)) (j + 1)) := by
 have e : n - j = (n - (j + 1)) + 1 := by omega
 constructor
 · intro h
   rw [e, fstK, if_pos h]
 · intro h
   rw [e, fstK, if_neg h]
theorem SndG.nm {g : Gm} (h : SndG g) : Nm100 g := fun n => by
 have h16 : ∀ t ∈ g.allN, t.length ≤ 100 := fun t ht => by
  have := h.named t ht
  unfold namB at this
  simp only [Bool.and_eq_true, decide_eq_true_eq] at this
  have := this.1.1.1
  omega
 have hall : ∀ t ∈ g.names, t.length ≤ 100 := fun t ht => by
  unfold Gm.names nmsK at ht
  rw [List.mem_append, List.mem_cons, List.mem_map] at ht
  rcases ht with (rfl | ⟨r, hr, rfl⟩) | ht
  · decide
  · have hr := (List.mem_filter.1 hr).1
    rw [List.take_length] at hr
    exact h16 _ (List.mem_append_left _ (List.mem_map.2 ⟨r, hr, rfl⟩))
  · exact h16 _ (List.mem_append_right _ ht)
 unfold Gm.name
 split
 · exact Nat.zero_le _
 · rw [List.getD_eq_getElem?_getD]
   cases hq : g.names[n.toNat]? with
   | none => exact Nat.zero_le _
   | some t => exact hall t (List.mem_of_getElem? hq)
theorem SndG.r8 {g : Gm} (h : SndG g) {k : Nat} (hk : k < g.prods.length) : g.prods[k].right.length ≤ 30 := by
 have := h.prod _ (List.getElem_mem hk)
 unfold pdB at this
 simp only [Bool.and_eq_true, decide_eq_true_eq] at this
 have := this.1.1.1.2
 omega
set_option maxRecDepth 20000 in
theorem Tryz.infoP2 : (Tryz.prog.info? 41).map (fun i => (i.zero, i.size, i.bytes)) = some (some (.agg #[.int .i64 0, .int .i64 0]), 2, 16) := by kernel_rfl
theorem ChO.done {τ : Nat → Nat} {W wr U : World} {q rb : Nat} {tv kv gv nv : Value} {kept : List Int} {prs : List (Int × Int)} {gone new : List Int} {a b s : Bool} (h : ChO τ W wr q tv kv gv nv kept prs gone new a b s) (hrb : rb < W.heap.size) (hk : Kept (oneBlk rb) wr U) : Prs U kv prs ∧ Nums U gv gone ∧ Nums U nv new := by
 have hne : ∀ k, W.heap.size ≤ k → ¬ oneBlk rb k := fun k h1 e => by have : k = rb := e; omega
 exact ⟨Prs.of_row (own_keep h.pr fun k e => hk.block k (h.pr.lt k e).2 (hne k (h.pr.lt k e).1)), Nums.of_row (own_keep h.go fun k e => hk.block k (h.go.lt k e).2 (hne k (h.go.lt k e).1)), Nums.of_row (own_keep h.nw fun k e => hk.block k (h.nw.lt k e).2 (hne k (h.nw.lt k e).1))⟩
theorem step_callD {P : Program} {ops : Array Oper} {o : Oper} {a : Act} {w : World} {K : Act → World → Prop} {Q : Exit → Act → World → Prop} {E : Prop} (hw : Region.wanted o (yielded ops a.tmps) = true) (f : FuncId) (args : Array Value)
 (hrun : (execOp a.eval o).run P w = .ok (.enter f args) w) {R : Ending → World → Prop} (hc : Calls P f args w R) (h : ∀ e w', R e w' → ∃ v, e = .returned v ∧ K (a.put o.dst v) w') :
 if Region.wanted o (yielded ops a.tmps) = true then Oper.wp P o a w K Q else E := by
 rw [if_pos hw]
 unfold Oper.wp
 rw [hrun, Oper.upon_enter]
 refine hc.mono fun e w' hr => ?_
 obtain ⟨v, rfl, hk⟩ := h e w' hr
 exact hk
theorem BxV.flag {W u : World} {q : Nat} {a b s : Bool} (h : BxV W u q a b s) (s' : Bool) : BxV W (u.setCell ⟨q, 5, none⟩ (.bool s')) q a b s' := ⟨by rw [heap_setCell h.blk]; rfl, h.low, bl_set h.bel _ _ _ h.low⟩
set_option maxRecDepth 20000 in
set_option maxHeartbeats 16000000 in
theorem refOfYes (g h : Gm) (rv nv lv pv rv' nv' lv' pv' : Value) (w : World) (bg : Bd14 g) (bh : Bd14 h) (hV : GmV w rv nv lv pv g) (hV' : GmV w rv' nv' lv' pv' h) (hg : SndG g) (hh : SndG h) :
 Calls Tryz.prog 13 #[gmA rv nv lv pv g.start, gmA rv' nv' lv' pv' h.start] w (OfA g h w) := by
 have e1 := hg.rules
 have e2 := hg.nonts
 have e3 := hh.rules
 have e4 := hh.nonts
 obtain ⟨W, hW, hB1, hrb, hBx9⟩ := boxes3 w rv nv lv pv rv' nv' lv' pv' g.start h.start
 have hB := hid hB1
 have hBx := hid hBx9
 have G1 := hid (fun u (hu : Below W.heap.size W u) => refSound g rv nv lv pv u (hV.keep (bl_step hB1 hu)) bg.bnd bg.nam)
 have G2 := hid (fun u (hu : Below W.heap.size W u) => refSound h rv' nv' lv' pv' u (hV'.keep (bl_step hB1 hu)) bh.bnd bh.nam)
 rw [soundB_yes hg] at G1
 rw [soundB_yes hh] at G2
 have GR := hid (fun u (hu : Below W.heap.size W u) => refRulesC rv nv lv pv rv' nv' lv' pv' g h u (hV.keep (bl_step hB1 hu)) (hV'.keep (bl_step hB1 hu)) (by omega) (by omega) (fun r hr => Nat.le_trans (bg.bnd.re r hr) (by omega)))
 have GI := hid (fun u (hu : Below W.heap.size W u) => refInsideC rv nv lv pv rv' nv' lv' pv' g h u (hV.keep (bl_step hB1 hu)) (hV'.keep (bl_step hB1 hu)) (by omega) (by omega) (by omega) (by omega) hg.levels hh.levels)
 have GJ := hid (fun u (hu : Below W.heap.size W u) => refInsideC rv' nv' lv' pv' rv nv lv pv h g u (hV'.keep (bl_step hB1 hu)) (hV.keep (bl_step hB1 hu)) (by omega) (by omega) (by omega) (by omega) hh.levels hg.levels)
 have GN := hid (fun u (hu : Below W.heap.size W u) => refNameC rv nv lv pv g g.start u (hV.keep (bl_step hB1 hu)) (by omega) (by omega))
 have GN' := hid (fun u (hu : Below W.heap.size W u) => refNameC rv' nv' lv' pv' h h.start u (hV'.keep (bl_step hB1 hu)) (by omega) (by omega))
 have GX : Hid (∀ k (hk : k < g.prods.length) u, Below W.heap.size W u → Calls Tryz.prog 16 #[gmA rv nv lv pv g.start, .int .i64 (k : Int)] u fun e w' => e = .returned (.string (strT ((txtsG g).getD k []))) ∧ Below u.heap.size u w') := hid (fun k hk u hu => by
  rw [txtsG_at hk]
  exact refTextC _ _ _ _ g k u (hV.keep (bl_step hB1 hu)) hk (by omega) (by omega) (by have := hg.prods; omega) hg.nm (hg.r8 hk))
 have GY : Hid (∀ k (hk : k < h.prods.length) u, Below W.heap.size W u → Calls Tryz.prog 16 #[gmA rv' nv' lv' pv' h.start, .int .i64 (k : Int)] u fun e w' => e = .returned (.string (strT ((txtsG h).getD k []))) ∧ Below u.heap.size u w') := hid (fun k hk u hu => by
  rw [txtsG_at hk]
  exact refTextC _ _ _ _ h k u (hV'.keep (bl_step hB1 hu)) hk (by omega) (by omega) (by have := hh.prods; omega) hh.nm (hh.r8 hk))
 have hpe := hid hV.prods.shape
 have hpe' := hid hV'.prods.shape
 have l1 := hg.prods
 have l2 := hh.prods
 have hTG := hid (txtsG_len g)
 have hTH := hid (txtsG_len h)
 have hrbl : w.heap.size + 1 + 1 < W.heap.size := blk_lt hrb
 have hrbu : Hid (∀ u, Below W.heap.size W u → u.heap[w.heap.size + 1 + 1]? = some (boxCh false false false)) := hid (fun u hu => hs_keep hrb hu)
 have hend : Hid (∀ u kv gv nv2, Below w.heap.size w u → Prs u kv (dfPrs (txtsG g) (txtsG h)) → Nums u gv (dfGone (txtsG g) (txtsG h)) → Nums u nv2 (dfNew (txtsG g) (txtsG h)) → OfA g h w (.returned (.tuple #[.agg #[kv, gv, nv2, .bool (!rulB g.rules h.rules), .bool (!insB g h || !insB h g), .bool (!decide (g.name g.start = h.name h.start))], .int .i64 0])) u) := hid (fun u kv gv nv2 hu h1 h2 h3 => by
  refine ⟨kv, gv, nv2, ?_, ?_, hu⟩
  · rw [chgG_yes hg hh, chgE_yes hg hh]; rfl
  · rw [chgG_yes hg hh]; exact ⟨h1, h2, h3⟩)
 have hD := strT_beqT (g.name g.start) (h.name h.start)
 generalize strT (g.name g.start) = S1 at *
 generalize strT (h.name h.start) = S2 at *
 generalize decide (g.name g.start = h.name h.start) = D at *
 obtain ⟨⟨z0, z1, z2, z3, z4⟩, ⟨q0, q1, q2, q3, q4⟩⟩ := hBx.out W (Below.refl _ _)
 generalize OfA g h w = Q at *
 clear hV hV' hB1 hBx9 bg bh hg hh e1 e2 e3 e4 hrb
 generalize g.start = st at *
 generalize h.start = st' at *
 obtain ⟨pn, hpn⟩ : ∃ n, Hid (g.prods.length = n) := ⟨_, hid rfl⟩
 obtain ⟨pm, hpm⟩ : ∃ n, Hid (h.prods.length = n) := ⟨_, hid rfl⟩
 rw [hpn.out] at GX hpe l1 hTG
 rw [hpm.out] at GY hpe' l2 hTH
 generalize txtsG g = TG at *
 generalize txtsG h = TH at *
 generalize rulB g.rules h.rules = B1 at *
 generalize insB g h = I1 at *
 generalize insB h g = I2 at *
 cases I1 with
 | false =>
  go_enter Tryz.func13, Tryz.ntmps13
  go_wp2_with (first
   | (go_at_call 15; refine (G1.out W (Below.refl _ _)).mono ?_; clear G1; rintro e w1 ⟨rfl, hc1⟩; have h1 := hid hc1; clear z0 z1 z2 z3 z4 q0 q1 q2 q3 q4 hW; obtain ⟨⟨z0, z1, z2, z3, z4⟩, ⟨q0, q1, q2, q3, q4⟩⟩ := hBx.out w1 hc1; clear hc1)
   | (go_at_call 15; refine (G2.out w1 h1.out).mono ?_; clear G2; rintro e w2 ⟨rfl, hc2⟩; have h2 := hid (bl_step h1.out hc2); clear hc2 z0 z1 z2 z3 z4 q0 q1 q2 q3 q4 h1))
  have hcur := hid (show Below W.heap.size W w2.drew from h2.out.drew)
  obtain ⟨⟨z0, z1, z2, z3, z4⟩, ⟨q0, q1, q2, q3, q4⟩⟩ := hBx.out _ hcur.out
  clear h2
  apply collapseVD (F := fun V q => BxV W V q (!B1) true false)
  case h =>
   intro rest
   have hcu := hcur.out
   refine wp_region_held_drew (S := (fun w' => w'.cell? ⟨w.heap.size, 0, none⟩ = some rv ∧ w'.cell? ⟨w.heap.size, 1, none⟩ = some nv ∧ w'.cell? ⟨w.heap.size, 2, none⟩ = some lv ∧ w'.cell? ⟨w.heap.size, 3, none⟩ = some pv ∧ w'.cell? ⟨w.heap.size, 4, none⟩ = some (.int .i64 st) ∧ w'.cell? ⟨w.heap.size + 1, 0, none⟩ = some rv' ∧ w'.cell? ⟨w.heap.size + 1, 1, none⟩ = some nv' ∧ w'.cell? ⟨w.heap.size + 1, 2, none⟩ = some lv' ∧ w'.cell? ⟨w.heap.size + 1, 3, none⟩ = some pv' ∧ w'.cell? ⟨w.heap.size + 1, 4, none⟩ = some (.int .i64 st'))) (by kernel_rfl) ⟨z0, z1, z2, z3, z4, q0, q1, q2, q3, q4⟩ (fun hHeld => ?_)
   refine wpAnyH_take (i := 0) (oi := { dst := some 21, op := .load 27 (.tmp 2), type := 27, pos := "ref.go:59", after := #[], guard := none }) (v := ?_) rfl (by kernel_rfl) (by kernel_rfl) (by kernel_rfl) (fun _ _ _ h => h) (Or.inl ⟨by rfl, ?_⟩) (by assumption) ?_
   rotate_left
   · (intro w hSw; (try dsimp only at hSw); go_simp; try with_reducible rfl)
   try simp only [Act.put, List.setIfInBounds_toArray, List.set_cons_zero, List.set_cons_succ]
   refine wpAnyH_take (i := 1) (oi := { dst := some 22, op := .load 27 (.tmp 3), type := 27, pos := "ref.go:59", after := #[], guard := none }) (v := ?_) rfl (by kernel_rfl) (by kernel_rfl) (by kernel_rfl) (fun _ _ _ h => h) (Or.inl ⟨by rfl, ?_⟩) (by assumption) ?_
   rotate_left
   · (intro w hSw; (try dsimp only at hSw); go_simp; try with_reducible rfl)
   try simp only [Act.put, List.setIfInBounds_toArray, List.set_cons_zero, List.set_cons_succ]
   refine wpAnyH_take (i := 4) (oi := { dst := some 25, op := .load 27 (.tmp 2), type := 27, pos := "ref.go:59", after := #[], guard := none }) (v := ?_) rfl (by kernel_rfl) (by kernel_rfl) (by kernel_rfl) (fun _ _ _ h => h) (Or.inl ⟨by rfl, ?_⟩) (by assumption) ?_
   rotate_left
   · (intro w hSw; (try dsimp only at hSw); go_simp; try with_reducible rfl)
   try simp only [Act.put, List.setIfInBounds_toArray, List.set_cons_zero, List.set_cons_succ]
   refine wpAnyH_take (i := 5) (oi := { dst := some 26, op := .load 27 (.tmp 3), type := 27, pos := "ref.go:59", after := #[], guard := none }) (v := ?_) rfl (by kernel_rfl) (by kernel_rfl) (by kernel_rfl) (fun _ _ _ h => h) (Or.inl ⟨by rfl, ?_⟩) (by assumption) ?_
   rotate_left
   · (intro w hSw; (try dsimp only at hSw); go_simp; try with_reducible rfl)
   try simp only [Act.put, List.setIfInBounds_toArray, List.set_cons_zero, List.set_cons_succ]
   refine wpAnyH_ready (rs := [2, 15]) (by kernel_rfl) (by simp) ?_
   refine AllReadyH.cons (o := { dst := some 23, op := .call { callee := .value (.func 30), args := #[.tmp 21, .tmp 22], argTypes := #[27, 27] }, type := 4, pos := "ref.go:59", after := #[{ on := 0, ground := .data }, { on := 1, ground := .data }], guard := none }) rfl (fun K hK => ?_) (AllReadyH.cons (o := { dst := some 6, op := .alloc 34, type := 0, pos := "ref.go:59", after := #[], guard := none }) rfl (fun K hK => ?_) AllReadyH.nil)
   · refine step_callD (by rfl) 30 #[gmA rv nv lv pv st, gmA rv' nv' lv' pv' st'] (by (go_simp; done)) (GR.out _ hcu) ?_
     rintro e w3 ⟨rfl, hc⟩
     have hc3 := bl_step hcu hc
     obtain ⟨⟨z0, z1, z2, z3, z4⟩, ⟨q0, q1, q2, q3, q4⟩⟩ := hBx.out w3 hc3
     refine ⟨_, rfl, hK.out _ _ ⟨z0, z1, z2, z3, z4, q0, q1, q2, q3, q4⟩ (fun hHeld => ?_)⟩
     clear hK
     try simp only [Act.put, List.setIfInBounds_toArray, List.set_cons_zero, List.set_cons_succ]
     refine wpAnyH_take (i := 3) (oi := { dst := some 24, op := .unOp .not 4 (.tmp 23), type := 4, pos := "ref.go:59", after := #[{ on := 2, ground := .data }], guard := none }) (v := ?_) rfl (by kernel_rfl) (by kernel_rfl) (by kernel_rfl) (fun _ _ _ h => h) (Or.inl ⟨by rfl, ?_⟩) (by assumption) ?_
     rotate_left
     · (intro w hSw; (try dsimp only at hSw); go_simp; try with_reducible rfl)
     try simp only [Act.put, List.setIfInBounds_toArray, List.set_cons_zero, List.set_cons_succ]
     refine wpAnyH_ready (rs := [6, 15]) (by kernel_rfl) (by simp) ?_
     refine AllReadyH.cons (o := { dst := some 27, op := .call { callee := .value (.func 31), args := #[.tmp 25, .tmp 26], argTypes := #[27, 27] }, type := 4, pos := "ref.go:59", after := #[{ on := 4, ground := .data }, { on := 5, ground := .data }, { on := 2, ground := .chain }], guard := none }) rfl (fun K hK => ?_) (AllReadyH.cons (o := { dst := some 6, op := .alloc 34, type := 0, pos := "ref.go:59", after := #[], guard := none }) rfl (fun K hK => ?_) AllReadyH.nil)
     · refine step_callD (by rfl) 31 #[gmA rv nv lv pv st, gmA rv' nv' lv' pv' st'] (by (go_simp; done)) (GI.out _ hc3) ?_
       rintro e w4 ⟨rfl, hc⟩
       have hc4 := bl_step hc3 hc
       obtain ⟨⟨z0, z1, z2, z3, z4⟩, ⟨q0, q1, q2, q3, q4⟩⟩ := hBx.out w4 hc4
       refine ⟨_, rfl, hK.out _ _ ⟨z0, z1, z2, z3, z4, q0, q1, q2, q3, q4⟩ (fun hHeld => ?_)⟩
       clear hK
       try simp only [Act.put, List.setIfInBounds_toArray, List.set_cons_zero, List.set_cons_succ]
       refine wpAnyH_take (i := 7) (oi := { dst := some 28, op := .unOp .not 4 (.tmp 27), type := 4, pos := "ref.go:59", after := #[{ on := 6, ground := .data }], guard := none }) (v := ?_) rfl (by kernel_rfl) (by kernel_rfl) (by kernel_rfl) (fun _ _ _ h => h) (Or.inl ⟨by rfl, ?_⟩) (by assumption) ?_
       rotate_left
       · (intro w hSw; (try dsimp only at hSw); go_simp; try with_reducible rfl)
       try simp only [Act.put, List.setIfInBounds_toArray, List.set_cons_zero, List.set_cons_succ]
       refine wpAnyH_take (i := 8) (oi := { dst := some 29, op := .move (.tmp 28), type := 4, pos := "ref.go:59", after := #[{ on := 7, ground := .data }, { on := 6, ground := .chain }], guard := none }) (v := ?_) rfl (by kernel_rfl) (by kernel_rfl) (by kernel_rfl) (fun _ _ _ h => h) (Or.inl ⟨by rfl, ?_⟩) (by assumption) ?_
       rotate_left
       · (intro w hSw; (try dsimp only at hSw); go_simp; try with_reducible rfl)
       try simp only [Act.put, List.setIfInBounds_toArray, List.set_cons_zero, List.set_cons_succ]
       refine wpAnyH_take (i := 9) (oi := { dst := some 30, op := .load 27 (.tmp 3), type := 27, pos := "ref.go:59", after := #[{ on := 8, ground := .guard }], guard := some (8, false) }) (v := undef) rfl (by kernel_rfl) (by kernel_rfl) (by kernel_rfl) (fun _ _ _ h => h) (Or.inr ⟨by rfl, rfl⟩) (by assumption) ?_
       try simp only [Act.put, List.setIfInBounds_toArray, List.set_cons_zero, List.set_cons_succ]
       refine wpAnyH_take (i := 10) (oi := { dst := some 31, op := .load 27 (.tmp 2), type := 27, pos := "ref.go:59", after := #[{ on := 8, ground := .guard }], guard := some (8, false) }) (v := undef) rfl (by kernel_rfl) (by kernel_rfl) (by kernel_rfl) (fun _ _ _ h => h) (Or.inr ⟨by rfl, rfl⟩) (by assumption) ?_
       try simp only [Act.put, List.setIfInBounds_toArray, List.set_cons_zero, List.set_cons_succ]
       refine wpAnyH_take (i := 11) (oi := { dst := some 32, op := .call { callee := .value (.func 31), args := #[.tmp 30, .tmp 31], argTypes := #[27, 27] }, type := 4, pos := "ref.go:59", after := #[{ on := 9, ground := .data }, { on := 10, ground := .data }, { on := 8, ground := .chain }, { on := 8, ground := .guard }], guard := some (8, false) }) (v := undef) rfl (by kernel_rfl) (by kernel_rfl) (by kernel_rfl) (fun _ _ _ h => h) (Or.inr ⟨by rfl, rfl⟩) (by assumption) ?_
       try simp only [Act.put, List.setIfInBounds_toArray, List.set_cons_zero, List.set_cons_succ]
       refine wpAnyH_take (i := 12) (oi := { dst := some 33, op := .unOp .not 4 (.tmp 32), type := 4, pos := "ref.go:59", after := #[{ on := 11, ground := .data }, { on := 8, ground := .guard }], guard := some (8, false) }) (v := undef) rfl (by kernel_rfl) (by kernel_rfl) (by kernel_rfl) (fun _ _ _ h => h) (Or.inr ⟨by rfl, rfl⟩) (by assumption) ?_
       try simp only [Act.put, List.setIfInBounds_toArray, List.set_cons_zero, List.set_cons_succ]
       refine wpAnyH_take (i := 13) (oi := { dst := some 34, op := .pick (.tmp 29) (.const (.bool true)) (.tmp 33), type := 4, pos := "ref.go:59", after := #[{ on := 8, ground := .data }, { on := 12, ground := .data }], guard := none }) (v := ?_) rfl (by kernel_rfl) (by kernel_rfl) (by kernel_rfl) (fun _ _ _ h => h) (Or.inl ⟨by rfl, ?_⟩) (by assumption) ?_
       rotate_left
       · (intro w hSw; (try dsimp only at hSw); go_simp; try with_reducible rfl)
       try simp only [Act.put, List.setIfInBounds_toArray, List.set_cons_zero, List.set_cons_succ]
       refine wpAnyH_take (i := 14) (oi := { dst := some 35, op := .build 34 #[(3, .tmp 24), (4, .tmp 34)], type := 34, pos := "ref.go:59", after := #[{ on := 3, ground := .data }, { on := 13, ground := .data }], guard := none }) (v := ?_) rfl (by kernel_rfl) (by kernel_rfl) (by kernel_rfl) (fun _ _ _ h => h) (Or.inl ⟨by rfl, ?_⟩) (by assumption) ?_
       rotate_left
       · (intro w hSw; (try dsimp only at hSw); go_simp; try with_reducible rfl)
       try simp only [Act.put, List.setIfInBounds_toArray, List.set_cons_zero, List.set_cons_succ]
       refine wpAnyH_ready (rs := [15]) (by kernel_rfl) (by simp) ?_
       refine AllReadyH.cons (o := { dst := some 6, op := .alloc 34, type := 0, pos := "ref.go:59", after := #[], guard := none }) rfl (fun K hK => ?_) AllReadyH.nil
       go_simp
       obtain ⟨X4, eX4⟩ : ∃ x, w4.alloc (boxCh false false false) = x := ⟨_, rfl⟩
       have hq4 : BxV W X4 w4.heap.size false false false := by rw [← eX4]; exact BxV.last hc4 false false false
       have hX4 := hq4.bel
       obtain ⟨⟨z0, z1, z2, z3, z4⟩, ⟨q0, q1, q2, q3, q4⟩⟩ := hBx.out X4 hX4
       rw [eX4]
       refine hK.out _ _ ⟨z0, z1, z2, z3, z4, q0, q1, q2, q3, q4⟩ (fun hHeld => ?_)
       clear hK eX4
       try simp only [Act.put, List.setIfInBounds_toArray, List.set_cons_zero, List.set_cons_succ]
       refine wpAnyH_ready (rs := [16]) (by kernel_rfl) (by simp) ?_
       refine AllReadyH.cons (o := { dst := none, op := .store 34 (.tmp 6) (.tmp 35), type := 0, pos := "ref.go:59", after := #[{ on := 15, ground := .data }, { on := 14, ground := .data }, { on := 11, ground := .chain }, { on := 0, ground := .phase }, { on := 1, ground := .phase }, { on := 2, ground := .phase }, { on := 3, ground := .phase }, { on := 4, ground := .phase }, { on := 5, ground := .phase }, { on := 6, ground := .phase }, { on := 7, ground := .phase }, { on := 8, ground := .phase }, { on := 9, ground := .phase }, { on := 10, ground := .phase }, { on := 11, ground := .phase }, { on := 12, ground := .phase }, { on := 13, ground := .phase }, { on := 14, ground := .phase }, { on := 15, ground := .phase }], guard := none }) rfl (fun K hK => ?_) AllReadyH.nil
       obtain ⟨U1, U2, U3, U4, U5, U6, hU1, hU2, hU3, hU4, hU5, hU6, hU7, ⟨j0, f0, j1, f1, j2, f2, j3, f3, j4, f4, j5, f5⟩, -⟩ := put6_walk hq4.blk (.slice none 0 0) (.slice none 0 0) (.slice none 0 0) (.bool (!B1)) (.bool true) (.bool false)
       have hq9 := hq4.put (!B1) true false
       rw [hU7] at hq9
       obtain ⟨⟨z0, z1, z2, z3, z4⟩, ⟨q0, q1, q2, q3, q4⟩⟩ := hBx.out U6 hq9.bel
       go_simp
       refine hK.out _ _ ⟨z0, z1, z2, z3, z4, q0, q1, q2, q3, q4⟩ (fun hHeld => ?_)
       refine wpAnyH_done (by kernel_rfl) ?_ _
       try simp only [Act.put, List.setIfInBounds_toArray, List.set_cons_zero, List.set_cons_succ]
       generalize w4.heap.size = qq at hq9 ⊢
       exact rest U6 qq hq9
     · go_simp
       obtain ⟨X3, eX3⟩ : ∃ x, w3.alloc (boxCh false false false) = x := ⟨_, rfl⟩
       have hq3 : BxV W X3 w3.heap.size false false false := by rw [← eX3]; exact BxV.last hc3 false false false
       have hX3 := hq3.bel
       obtain ⟨⟨z0, z1, z2, z3, z4⟩, ⟨q0, q1, q2, q3, q4⟩⟩ := hBx.out X3 hX3
       rw [eX3]
       refine hK.out _ _ ⟨z0, z1, z2, z3, z4, q0, q1, q2, q3, q4⟩ (fun hHeld => ?_)
       clear hK eX3
       try simp only [Act.put, List.setIfInBounds_toArray, List.set_cons_zero, List.set_cons_succ]
       refine wpAnyH_ready (rs := [6]) (by kernel_rfl) (by simp) ?_
       refine AllReadyH.cons (o := { dst := some 27, op := .call { callee := .value (.func 31), args := #[.tmp 25, .tmp 26], argTypes := #[27, 27] }, type := 4, pos := "ref.go:59", after := #[{ on := 4, ground := .data }, { on := 5, ground := .data }, { on := 2, ground := .chain }], guard := none }) rfl (fun K hK => ?_) AllReadyH.nil
       refine step_callD (by rfl) 31 #[gmA rv nv lv pv st, gmA rv' nv' lv' pv' st'] (by (go_simp; done)) (GI.out _ hX3) ?_
       rintro e w4 ⟨rfl, hc⟩
       have hc4 := bl_step hX3 hc
       have hq4 := hq3.keep hc
       obtain ⟨⟨z0, z1, z2, z3, z4⟩, ⟨q0, q1, q2, q3, q4⟩⟩ := hBx.out w4 hc4
       refine ⟨_, rfl, hK.out _ _ ⟨z0, z1, z2, z3, z4, q0, q1, q2, q3, q4⟩ (fun hHeld => ?_)⟩
       clear hK
       try simp only [Act.put, List.setIfInBounds_toArray, List.set_cons_zero, List.set_cons_succ]
       refine wpAnyH_take (i := 7) (oi := { dst := some 28, op := .unOp .not 4 (.tmp 27), type := 4, pos := "ref.go:59", after := #[{ on := 6, ground := .data }], guard := none }) (v := ?_) rfl (by kernel_rfl) (by kernel_rfl) (by kernel_rfl) (fun _ _ _ h => h) (Or.inl ⟨by rfl, ?_⟩) (by assumption) ?_
       rotate_left
       · (intro w hSw; (try dsimp only at hSw); go_simp; try with_reducible rfl)
       try simp only [Act.put, List.setIfInBounds_toArray, List.set_cons_zero, List.set_cons_succ]
       refine wpAnyH_take (i := 8) (oi := { dst := some 29, op := .move (.tmp 28), type := 4, pos := "ref.go:59", after := #[{ on := 7, ground := .data }, { on := 6, ground := .chain }], guard := none }) (v := ?_) rfl (by kernel_rfl) (by kernel_rfl) (by kernel_rfl) (fun _ _ _ h => h) (Or.inl ⟨by rfl, ?_⟩) (by assumption) ?_
       rotate_left
       · (intro w hSw; (try dsimp only at hSw); go_simp; try with_reducible rfl)
       try simp only [Act.put, List.setIfInBounds_toArray, List.set_cons_zero, List.set_cons_succ]
       refine wpAnyH_take (i := 9) (oi := { dst := some 30, op := .load 27 (.tmp 3), type := 27, pos := "ref.go:59", after := #[{ on := 8, ground := .guard }], guard := some (8, false) }) (v := undef) rfl (by kernel_rfl) (by kernel_rfl) (by kernel_rfl) (fun _ _ _ h => h) (Or.inr ⟨by rfl, rfl⟩) (by assumption) ?_
       try simp only [Act.put, List.setIfInBounds_toArray, List.set_cons_zero, List.set_cons_succ]
       refine wpAnyH_take (i := 10) (oi := { dst := some 31, op := .load 27 (.tmp 2), type := 27, pos := "ref.go:59", after := #[{ on := 8, ground := .guard }], guard := some (8, false) }) (v := undef) rfl (by kernel_rfl) (by kernel_rfl) (by kernel_rfl) (fun _ _ _ h => h) (Or.inr ⟨by rfl, rfl⟩) (by assumption) ?_
       try simp only [Act.put, List.setIfInBounds_toArray, List.set_cons_zero, List.set_cons_succ]
       refine wpAnyH_take (i := 11) (oi := { dst := some 32, op := .call { callee := .value (.func 31), args := #[.tmp 30, .tmp 31], argTypes := #[27, 27] }, type := 4, pos := "ref.go:59", after := #[{ on := 9, ground := .data }, { on := 10, ground := .data }, { on := 8, ground := .chain }, { on := 8, ground := .guard }], guard := some (8, false) }) (v := undef) rfl (by kernel_rfl) (by kernel_rfl) (by kernel_rfl) (fun _ _ _ h => h) (Or.inr ⟨by rfl, rfl⟩) (by assumption) ?_
       try simp only [Act.put, List.setIfInBounds_toArray, List.set_cons_zero, List.set_cons_succ]
       refine wpAnyH_take (i := 12) (oi := { dst := some 33, op := .unOp .not 4 (.tmp 32), type := 4, pos := "ref.go:59", after := #[{ on := 11, ground := .data }, { on := 8, ground := .guard }], guard := some (8, false) }) (v := undef) rfl (by kernel_rfl) (by kernel_rfl) (by kernel_rfl) (fun _ _ _ h => h) (Or.inr ⟨by rfl, rfl⟩) (by assumption) ?_
       try simp only [Act.put, List.setIfInBounds_toArray, List.set_cons_zero, List.set_cons_succ]
       refine wpAnyH_take (i := 13) (oi := { dst := some 34, op := .pick (.tmp 29) (.const (.bool true)) (.tmp 33), type := 4, pos := "ref.go:59", after := #[{ on := 8, ground := .data }, { on := 12, ground := .data }], guard := none }) (v := ?_) rfl (by kernel_rfl) (by kernel_rfl) (by kernel_rfl) (fun _ _ _ h => h) (Or.inl ⟨by rfl, ?_⟩) (by assumption) ?_
       rotate_left
       · (intro w hSw; (try dsimp only at hSw); go_simp; try with_reducible rfl)
       try simp only [Act.put, List.setIfInBounds_toArray, List.set_cons_zero, List.set_cons_succ]
       refine wpAnyH_take (i := 14) (oi := { dst := some 35, op := .build 34 #[(3, .tmp 24), (4, .tmp 34)], type := 34, pos := "ref.go:59", after := #[{ on := 3, ground := .data }, { on := 13, ground := .data }], guard := none }) (v := ?_) rfl (by kernel_rfl) (by kernel_rfl) (by kernel_rfl) (fun _ _ _ h => h) (Or.inl ⟨by rfl, ?_⟩) (by assumption) ?_
       rotate_left
       · (intro w hSw; (try dsimp only at hSw); go_simp; try with_reducible rfl)
       try simp only [Act.put, List.setIfInBounds_toArray, List.set_cons_zero, List.set_cons_succ]
       refine wpAnyH_ready (rs := [16]) (by kernel_rfl) (by simp) ?_
       refine AllReadyH.cons (o := { dst := none, op := .store 34 (.tmp 6) (.tmp 35), type := 0, pos := "ref.go:59", after := #[{ on := 15, ground := .data }, { on := 14, ground := .data }, { on := 11, ground := .chain }, { on := 0, ground := .phase }, { on := 1, ground := .phase }, { on := 2, ground := .phase }, { on := 3, ground := .phase }, { on := 4, ground := .phase }, { on := 5, ground := .phase }, { on := 6, ground := .phase }, { on := 7, ground := .phase }, { on := 8, ground := .phase }, { on := 9, ground := .phase }, { on := 10, ground := .phase }, { on := 11, ground := .phase }, { on := 12, ground := .phase }, { on := 13, ground := .phase }, { on := 14, ground := .phase }, { on := 15, ground := .phase }], guard := none }) rfl (fun K hK => ?_) AllReadyH.nil
       obtain ⟨U1, U2, U3, U4, U5, U6, hU1, hU2, hU3, hU4, hU5, hU6, hU7, ⟨j0, f0, j1, f1, j2, f2, j3, f3, j4, f4, j5, f5⟩, -⟩ := put6_walk hq4.blk (.slice none 0 0) (.slice none 0 0) (.slice none 0 0) (.bool (!B1)) (.bool true) (.bool false)
       have hq9 := hq4.put (!B1) true false
       rw [hU7] at hq9
       obtain ⟨⟨z0, z1, z2, z3, z4⟩, ⟨q0, q1, q2, q3, q4⟩⟩ := hBx.out U6 hq9.bel
       go_simp
       refine hK.out _ _ ⟨z0, z1, z2, z3, z4, q0, q1, q2, q3, q4⟩ (fun hHeld => ?_)
       refine wpAnyH_done (by kernel_rfl) ?_ _
       try simp only [Act.put, List.setIfInBounds_toArray, List.set_cons_zero, List.set_cons_succ]
       generalize w3.heap.size = qq at hq9 ⊢
       exact rest U6 qq hq9
   · go_simp
     obtain ⟨X2, eX2⟩ : ∃ x, w2.drew.alloc (boxCh false false false) = x := ⟨_, rfl⟩
     have hq2 : BxV W X2 w2.heap.size false false false := by rw [← eX2]; exact BxV.last hcu false false false
     have hX2 := hq2.bel
     obtain ⟨⟨z0, z1, z2, z3, z4⟩, ⟨q0, q1, q2, q3, q4⟩⟩ := hBx.out X2 hX2
     first | rw [eX2] | (have e9 : (w2.alloc (boxCh false false false)).drew = X2 := eX2; rw [e9])
     refine hK.out _ _ ⟨z0, z1, z2, z3, z4, q0, q1, q2, q3, q4⟩ (fun hHeld => ?_)
     clear hK eX2
     try simp only [Act.put, List.setIfInBounds_toArray, List.set_cons_zero, List.set_cons_succ]
     refine wpAnyH_ready (rs := [2]) (by kernel_rfl) (by simp) ?_
     refine AllReadyH.cons (o := { dst := some 23, op := .call { callee := .value (.func 30), args := #[.tmp 21, .tmp 22], argTypes := #[27, 27] }, type := 4, pos := "ref.go:59", after := #[{ on := 0, ground := .data }, { on := 1, ground := .data }], guard := none }) rfl (fun K hK => ?_) AllReadyH.nil
     refine step_callD (by rfl) 30 #[gmA rv nv lv pv st, gmA rv' nv' lv' pv' st'] (by (go_simp; done)) (GR.out _ hX2) ?_
     rintro e w3 ⟨rfl, hc⟩
     have hc3 := bl_step hX2 hc
     have hq3 := hq2.keep hc
     obtain ⟨⟨z0, z1, z2, z3, z4⟩, ⟨q0, q1, q2, q3, q4⟩⟩ := hBx.out w3 hc3
     refine ⟨_, rfl, hK.out _ _ ⟨z0, z1, z2, z3, z4, q0, q1, q2, q3, q4⟩ (fun hHeld => ?_)⟩
     clear hK
     try simp only [Act.put, List.setIfInBounds_toArray, List.set_cons_zero, List.set_cons_succ]
     refine wpAnyH_take (i := 3) (oi := { dst := some 24, op := .unOp .not 4 (.tmp 23), type := 4, pos := "ref.go:59", after := #[{ on := 2, ground := .data }], guard := none }) (v := ?_) rfl (by kernel_rfl) (by kernel_rfl) (by kernel_rfl) (fun _ _ _ h => h) (Or.inl ⟨by rfl, ?_⟩) (by assumption) ?_
     rotate_left
     · (intro w hSw; (try dsimp only at hSw); go_simp; try with_reducible rfl)
     try simp only [Act.put, List.setIfInBounds_toArray, List.set_cons_zero, List.set_cons_succ]
     refine wpAnyH_ready (rs := [6]) (by kernel_rfl) (by simp) ?_
     refine AllReadyH.cons (o := { dst := some 27, op := .call { callee := .value (.func 31), args := #[.tmp 25, .tmp 26], argTypes := #[27, 27] }, type := 4, pos := "ref.go:59", after := #[{ on := 4, ground := .data }, { on := 5, ground := .data }, { on := 2, ground := .chain }], guard := none }) rfl (fun K hK => ?_) AllReadyH.nil
     refine step_callD (by rfl) 31 #[gmA rv nv lv pv st, gmA rv' nv' lv' pv' st'] (by (go_simp; done)) (GI.out _ hc3) ?_
     rintro e w4 ⟨rfl, hc⟩
     have hc4 := bl_step hc3 hc
     have hq4 := hq3.keep hc
     obtain ⟨⟨z0, z1, z2, z3, z4⟩, ⟨q0, q1, q2, q3, q4⟩⟩ := hBx.out w4 hc4
     refine ⟨_, rfl, hK.out _ _ ⟨z0, z1, z2, z3, z4, q0, q1, q2, q3, q4⟩ (fun hHeld => ?_)⟩
     clear hK
     try simp only [Act.put, List.setIfInBounds_toArray, List.set_cons_zero, List.set_cons_succ]
     refine wpAnyH_take (i := 7) (oi := { dst := some 28, op := .unOp .not 4 (.tmp 27), type := 4, pos := "ref.go:59", after := #[{ on := 6, ground := .data }], guard := none }) (v := ?_) rfl (by kernel_rfl) (by kernel_rfl) (by kernel_rfl) (fun _ _ _ h => h) (Or.inl ⟨by rfl, ?_⟩) (by assumption) ?_
     rotate_left
     · (intro w hSw; (try dsimp only at hSw); go_simp; try with_reducible rfl)
     try simp only [Act.put, List.setIfInBounds_toArray, List.set_cons_zero, List.set_cons_succ]
     refine wpAnyH_take (i := 8) (oi := { dst := some 29, op := .move (.tmp 28), type := 4, pos := "ref.go:59", after := #[{ on := 7, ground := .data }, { on := 6, ground := .chain }], guard := none }) (v := ?_) rfl (by kernel_rfl) (by kernel_rfl) (by kernel_rfl) (fun _ _ _ h => h) (Or.inl ⟨by rfl, ?_⟩) (by assumption) ?_
     rotate_left
     · (intro w hSw; (try dsimp only at hSw); go_simp; try with_reducible rfl)
     try simp only [Act.put, List.setIfInBounds_toArray, List.set_cons_zero, List.set_cons_succ]
     refine wpAnyH_take (i := 9) (oi := { dst := some 30, op := .load 27 (.tmp 3), type := 27, pos := "ref.go:59", after := #[{ on := 8, ground := .guard }], guard := some (8, false) }) (v := undef) rfl (by kernel_rfl) (by kernel_rfl) (by kernel_rfl) (fun _ _ _ h => h) (Or.inr ⟨by rfl, rfl⟩) (by assumption) ?_
     try simp only [Act.put, List.setIfInBounds_toArray, List.set_cons_zero, List.set_cons_succ]
     refine wpAnyH_take (i := 10) (oi := { dst := some 31, op := .load 27 (.tmp 2), type := 27, pos := "ref.go:59", after := #[{ on := 8, ground := .guard }], guard := some (8, false) }) (v := undef) rfl (by kernel_rfl) (by kernel_rfl) (by kernel_rfl) (fun _ _ _ h => h) (Or.inr ⟨by rfl, rfl⟩) (by assumption) ?_
     try simp only [Act.put, List.setIfInBounds_toArray, List.set_cons_zero, List.set_cons_succ]
     refine wpAnyH_take (i := 11) (oi := { dst := some 32, op := .call { callee := .value (.func 31), args := #[.tmp 30, .tmp 31], argTypes := #[27, 27] }, type := 4, pos := "ref.go:59", after := #[{ on := 9, ground := .data }, { on := 10, ground := .data }, { on := 8, ground := .chain }, { on := 8, ground := .guard }], guard := some (8, false) }) (v := undef) rfl (by kernel_rfl) (by kernel_rfl) (by kernel_rfl) (fun _ _ _ h => h) (Or.inr ⟨by rfl, rfl⟩) (by assumption) ?_
     try simp only [Act.put, List.setIfInBounds_toArray, List.set_cons_zero, List.set_cons_succ]
     refine wpAnyH_take (i := 12) (oi := { dst := some 33, op := .unOp .not 4 (.tmp 32), type := 4, pos := "ref.go:59", after := #[{ on := 11, ground := .data }, { on := 8, ground := .guard }], guard := some (8, false) }) (v := undef) rfl (by kernel_rfl) (by kernel_rfl) (by kernel_rfl) (fun _ _ _ h => h) (Or.inr ⟨by rfl, rfl⟩) (by assumption) ?_
     try simp only [Act.put, List.setIfInBounds_toArray, List.set_cons_zero, List.set_cons_succ]
     refine wpAnyH_take (i := 13) (oi := { dst := some 34, op := .pick (.tmp 29) (.const (.bool true)) (.tmp 33), type := 4, pos := "ref.go:59", after := #[{ on := 8, ground := .data }, { on := 12, ground := .data }], guard := none }) (v := ?_) rfl (by kernel_rfl) (by kernel_rfl) (by kernel_rfl) (fun _ _ _ h => h) (Or.inl ⟨by rfl, ?_⟩) (by assumption) ?_
     rotate_left
     · (intro w hSw; (try dsimp only at hSw); go_simp; try with_reducible rfl)
     try simp only [Act.put, List.setIfInBounds_toArray, List.set_cons_zero, List.set_cons_succ]
     refine wpAnyH_take (i := 14) (oi := { dst := some 35, op := .build 34 #[(3, .tmp 24), (4, .tmp 34)], type := 34, pos := "ref.go:59", after := #[{ on := 3, ground := .data }, { on := 13, ground := .data }], guard := none }) (v := ?_) rfl (by kernel_rfl) (by kernel_rfl) (by kernel_rfl) (fun _ _ _ h => h) (Or.inl ⟨by rfl, ?_⟩) (by assumption) ?_
     rotate_left
     · (intro w hSw; (try dsimp only at hSw); go_simp; try with_reducible rfl)
     try simp only [Act.put, List.setIfInBounds_toArray, List.set_cons_zero, List.set_cons_succ]
     refine wpAnyH_ready (rs := [16]) (by kernel_rfl) (by simp) ?_
     refine AllReadyH.cons (o := { dst := none, op := .store 34 (.tmp 6) (.tmp 35), type := 0, pos := "ref.go:59", after := #[{ on := 15, ground := .data }, { on := 14, ground := .data }, { on := 11, ground := .chain }, { on := 0, ground := .phase }, { on := 1, ground := .phase }, { on := 2, ground := .phase }, { on := 3, ground := .phase }, { on := 4, ground := .phase }, { on := 5, ground := .phase }, { on := 6, ground := .phase }, { on := 7, ground := .phase }, { on := 8, ground := .phase }, { on := 9, ground := .phase }, { on := 10, ground := .phase }, { on := 11, ground := .phase }, { on := 12, ground := .phase }, { on := 13, ground := .phase }, { on := 14, ground := .phase }, { on := 15, ground := .phase }], guard := none }) rfl (fun K hK => ?_) AllReadyH.nil
     obtain ⟨U1, U2, U3, U4, U5, U6, hU1, hU2, hU3, hU4, hU5, hU6, hU7, ⟨j0, f0, j1, f1, j2, f2, j3, f3, j4, f4, j5, f5⟩, -⟩ := put6_walk hq4.blk (.slice none 0 0) (.slice none 0 0) (.slice none 0 0) (.bool (!B1)) (.bool true) (.bool false)
     have hq9 := hq4.put (!B1) true false
     rw [hU7] at hq9
     obtain ⟨⟨z0, z1, z2, z3, z4⟩, ⟨q0, q1, q2, q3, q4⟩⟩ := hBx.out U6 hq9.bel
     go_simp
     refine hK.out _ _ ⟨z0, z1, z2, z3, z4, q0, q1, q2, q3, q4⟩ (fun hHeld => ?_)
     refine wpAnyH_done (by kernel_rfl) ?_ _
     try simp only [Act.put, List.setIfInBounds_toArray, List.set_cons_zero, List.set_cons_succ]
     generalize w2.heap.size = qq at hq9 ⊢
     exact rest U6 qq hq9
  case pf =>
   rintro V q hf
   have hq0 := hid (hf.keep ((Below.refl _ V).drew))
   clear hf hcur GR GI GJ z0 z1 z2 z3 z4 q0 q1 q2 q3 q4
   go_wp2_with fail
   obtain ⟨⟨z0, z1, z2, z3, z4⟩, ⟨q0, q1, q2, q3, q4⟩⟩ := hBx.out _ hq0.out.bel
   go_region_held3 (fun w' => w'.cell? ⟨w.heap.size, 0, none⟩ = some rv ∧ w'.cell? ⟨w.heap.size, 1, none⟩ = some nv ∧ w'.cell? ⟨w.heap.size, 2, none⟩ = some lv ∧ w'.cell? ⟨w.heap.size, 3, none⟩ = some pv ∧ w'.cell? ⟨w.heap.size, 4, none⟩ = some (.int .i64 st) ∧ w'.cell? ⟨w.heap.size + 1, 0, none⟩ = some rv' ∧ w'.cell? ⟨w.heap.size + 1, 1, none⟩ = some nv' ∧ w'.cell? ⟨w.heap.size + 1, 2, none⟩ = some lv' ∧ w'.cell? ⟨w.heap.size + 1, 3, none⟩ = some pv' ∧ w'.cell? ⟨w.heap.size + 1, 4, none⟩ = some (.int .i64 st')) (go_keep) ((first
    | (go_at_call 32; have hp9 := hq7; clear hp9; refine (GN'.out _ hq7.out.bel).mono ?_; rintro e w8 ⟨rfl, hc⟩; have hq8 := hid (hq7.out.keep hc); have j5 := blk_cell (o := 5) hq8.out.blk rfl; have f5 := blk_frozen hq8.out.blk 5; obtain ⟨U, hU⟩ : ∃ x, w8.setCell ⟨q, 5, none⟩ (.bool (!D)) = x := ⟨_, rfl⟩; have hq9 := hq8.out.flag (!D); rw [hU] at hq9; obtain ⟨⟨c0, c1, c2, c3, c4⟩, ⟨d0, d1, d2, d3, d4⟩⟩ := hBx.out U hq9.bel; have hq9 := hid hq9; clear hc; obtain ⟨⟨a80, a81, a82, a83, a84⟩, ⟨b80, b81, b82, b83, b84⟩⟩ := hBx.out _ hq8.out.bel)
    | (go_at_call 32; refine (GN.out _ hq0.out.bel).mono ?_; rintro e w7 ⟨rfl, hc⟩; have hq7 := hid (hq0.out.keep hc); clear hc; obtain ⟨⟨a70, a71, a72, a73, a74⟩, ⟨b70, b71, b72, b73, b74⟩⟩ := hBx.out _ hq7.out.bel)))
   have hC0 := hid (ChO.start hq9.out.blk hq9.out.bel hq9.out.low)
   obtain ⟨iI, hiI, zI0, zI1, zI2⟩ := info_parts Tryz.info3
   obtain ⟨iP, hiP, zP0, zP1, zP2⟩ := info_parts Tryz.infoP2
   obtain ⟨pa, pc, rfl⟩ := hpe.out
   obtain ⟨pa', pc', rfl⟩ := hpe'.out
   have hF0 : Hid (dfK TG TH 0 = ⟨[], [], []⟩) := hid rfl
   have hFs : Hid (∀ k, dfK TG TH (k + 1) = (dfK TG TH k).step TG k (TH.getD k [])) := hid (fun k => rfl)
   have hFl : Hid (∀ k, (dfK TG TH k).kept.length ≤ k ∧ (dfK TG TH k).prs.length ≤ k ∧ (dfK TG TH k).new.length ≤ k) := hid (fun k => by
    have h9 := dfK_good TG TH k
    have e1 := h9.len
    have e2 : (dfK TG TH k).kept.length = (dfK TG TH k).prs.length := by rw [← h9.fst, List.length_map]
    omega)
   clear hq0 hq7 hq8 hq9 hpe hpe' GN GN' hU j5 f5 z0 z1 z2 z3 z4 q0 q1 q2 q3 q4 c0 c1 c2 c3 c4 d0 d1 d2 d3 d4 a70 a71 a72 a73 a74 b70 b71 b72 b73 b74 a80 a81 a82 a83 a84 b80 b81 b82 b83 b84
   rw [show (!false || !I2) = true from rfl] at hend
   generalize (!B1) = A1 at *
   generalize (true : Bool) = A2 at hC0 hend
   generalize (!D) = A3 at *
   go_wp2
   go_loopw [7, 8] (fun tv i wr => ∃ (k : Nat) (τ : Nat → Nat) (kv nv2 : Value), k ≤ pm ∧ i = .int .i64 (k : Int) ∧ Hid (ChO τ W wr q tv kv (.slice none 0 0) nv2 (dfK TG TH k).kept (dfK TG TH k).prs [] (dfK TG TH k).new A1 A2 A3)) (fun _ i _ => pm - (intOf i).toNat)
   case atStart => exact ⟨0, _, _, _, Nat.zero_le _, rfl, hC0⟩
   case round =>
    clear hC0
    obtain ⟨k, τ, kv, nv2, hk, rfl, hC⟩ := hrel
    obtain ⟨ta, tc, rfl, -⟩ := Nums.of_row hC.out.kt
    obtain ⟨⟨-, -, -, z3, -⟩, ⟨-, -, -, q3, -⟩⟩ := hBx.out wr hC.out.low
    by_cases hlt : k < pm
    · have hltz : (k : Int) < (pm : Int) := by omega
      have hkl := (hFl.out k).1
      go_wp2_with fail
      clear z3 q3
      obtain ⟨kept, hkept⟩ : ∃ x, Hid ((dfK TG TH k).kept = x) := ⟨_, hid rfl⟩
      obtain ⟨prs, hprs⟩ : ∃ x, Hid ((dfK TG TH k).prs = x) := ⟨_, hid rfl⟩
      obtain ⟨new, hnew9⟩ : ∃ x, Hid ((dfK TG TH k).new = x) := ⟨_, hid rfl⟩
      rw [hkept.out, hprs.out, hnew9.out] at hC
      rw [hkept.out] at hkl ⊢
      obtain ⟨T9, hT9⟩ : ∃ x, Hid (TH.getD k [] = x) := ⟨_, hid rfl⟩
      have hpk : Hid (k < pm) := hid hlt
      obtain ⟨wo, hwo⟩ : ∃ x, x = wr := ⟨_, rfl⟩
      subst hwo
      go_loopw [9, 10] (fun fo x wr => ∃ z : Int, -1 ≤ z ∧ z < (pn : Int) ∧ x = .int .i64 z ∧ fo = .int .i64 (foI (fstK TG kept T9 (pn - (z + 1).toNat) (z + 1).toNat)) ∧ Hid (ChO τ W wr q (.slice ta kept.length tc) kv (.slice none 0 0) nv2 kept prs [] new A1 A2 A3)) (fun _ x _ => (intOf x + 1).toNat)
      case atStart => exact ⟨(pn : Int) - 1, by omega, by omega, by go_num, by rw [show (((pn : Int) - 1) + 1).toNat = pn by omega, Nat.sub_self]; rfl, hC⟩
      case round =>
       clear hC
       obtain ⟨z, hz1, hz2, rfl, rfl, hCi⟩ := hrel
       by_cases hz0 : 0 ≤ z
       · obtain ⟨j, rfl⟩ : ∃ j : Nat, z = (j : Int) := ⟨z.toNat, by omega⟩
         have hjn : j < pn := by omega
         have hjz : decide ((0 : Int) ≤ (j : Int)) = true := decide_eq_true (by omega)
         rw [show ((j : Int) + 1).toNat = j + 1 by omega]
         obtain ⟨⟨z0, z1, z2, z3, z4⟩, ⟨q0, q1, q2, q3, q4⟩⟩ := hBx.out wr hCi.out.low
         have cA : Hid (∀ d os, Calls Tryz.prog 16 #[gmA rv nv lv (.slice pa pn pc) st, .int .i64 (j : Int)] (grow (redrawn wr d) os) fun e w'' => e = .returned (.string (strT (TG.getD j []))) ∧ ∃ p : Regrown, w'' = grow (redrawn wr p.d) p.os) := hid (fun d os => Calls.regrown_of (GX.out j hjn _ (bl_step hCi.out.low (below_regrown wr d os))))
         have cB : Hid (∀ d os, Calls Tryz.prog 16 #[gmA rv' nv' lv' (.slice pa' pm pc') st', .int .i64 (k : Int)] (grow (redrawn wr d) os) fun e w'' => e = .returned (.string (strT T9)) ∧ ∃ p : Regrown, w'' = grow (redrawn wr p.d) p.os) := hid (fun d os => Calls.regrown_of (by rw [← hT9.out]; exact GY.out k hpk.out _ (bl_step hCi.out.low (below_regrown wr d os))))
         have cH : Hid (∀ d os, Calls Tryz.prog 33 #[.slice ta kept.length tc, .int .i64 (j : Int)] (grow (redrawn wr d) os) fun e w'' => e = .returned (.bool (kept.contains (j : Int))) ∧ ∃ p : Regrown, w'' = grow (redrawn wr p.d) p.os) := hid (fun d os => Calls.regrown_of ((numHas _ kept j _ (by omega) ((Nums.of_row hCi.out.kt).keep (below_regrown wr d os))).mono (fun e w' h => ⟨h.1, by rw [h.2]; exact Below.refl _ _⟩)))
         have y0 := cell_regrown z0
         have y1 := cell_regrown z1
         have y2 := cell_regrown z2
         have y3 := cell_regrown z3
         have y4 := cell_regrown z4
         have v0 := cell_regrown q0
         have v1 := cell_regrown q1
         have v2 := cell_regrown q2
         have v3 := cell_regrown q3
         have v4 := cell_regrown q4
         obtain ⟨fd1, fd2⟩ := fst_down (T := TG) (kept := kept) (t := T9) hjn
         clear z0 z1 z2 z3 z4 q0 q1 q2 q3 q4
         by_cases e1 : TG.getD j [] = T9
         · rw [e1] at cA
           cases hcc : kept.contains (j : Int) with
           | false =>
            rw [hcc] at cH
            have hnew : Hid ((.int .i64 (j : Int) : Value) = .int .i64 (foI (fstK TG kept T9 (pn - (((j : Int) - 1) + 1).toNat) (((j : Int) - 1) + 1).toNat))) := hid (by rw [show (((j : Int) - 1) + 1).toNat = j by omega, fd1 ⟨e1, fun h9 => by rw [List.contains_iff_mem.2 h9] at hcc; cases hcc⟩]; rfl)
            clear fd1 fd2 e1 hcc
            generalize strT T9 = S9 at cA cB
            generalize fstK TG kept T9 (pn - (j + 1)) (j + 1) = o9 at *
            go_wp2_with fail
            refine wp_region_quiet_below (by kernel_rfl) (by kernel_rfl) ?_
            repeat (first | go_big_quiet_step (first | with_reducible exact cA.out _ _ | with_reducible exact cB.out _ _ | with_reducible exact cH.out _ _) | quiet_step (first | with_reducible exact cA.out _ _ | with_reducible exact cB.out _ _ | with_reducible exact cH.out _ _))
            refine wpQuiet_nil ?_
            intro _ hw'
            obtain ⟨⟨dq, osq⟩, hw''⟩ := hw'
            subst hw''
            have hCq := hid (hCi.out.keep (below_regrown wr dq osq))
            go_wp2
            go_roundw
            case rel => exact ⟨(j : Int) - 1, by omega, by omega, by go_num, hnew.out, hCq⟩
            case measure => simp [intOf]
           | true =>
            rw [hcc] at cH
            have hnew : Hid ((.int .i64 (foI (fstK TG kept T9 (pn - (j + 1)) (j + 1))) : Value) = .int .i64 (foI (fstK TG kept T9 (pn - (((j : Int) - 1) + 1).toNat) (((j : Int) - 1) + 1).toNat))) := hid (by rw [show (((j : Int) - 1) + 1).toNat = j by omega, fd2 (fun h9 => h9.2 (List.contains_iff_mem.1 hcc))])
            clear fd1 fd2 e1 hcc
            generalize strT T9 = S9 at cA cB
            generalize foI (fstK TG kept T9 (pn - (j + 1)) (j + 1)) = o9 at *
            go_wp2_with fail
            refine wp_region_quiet_below (by kernel_rfl) (by kernel_rfl) ?_
            repeat (first | go_big_quiet_step (first | with_reducible exact cA.out _ _ | with_reducible exact cB.out _ _ | with_reducible exact cH.out _ _) | quiet_step (first | with_reducible exact cA.out _ _ | with_reducible exact cB.out _ _ | with_reducible exact cH.out _ _))
            refine wpQuiet_nil ?_
            intro _ hw'
            obtain ⟨⟨dq, osq⟩, hw''⟩ := hw'
            subst hw''
            have hCq := hid (hCi.out.keep (below_regrown wr dq osq))
            go_wp2
            go_roundw
            case rel => exact ⟨(j : Int) - 1, by omega, by omega, by go_num, hnew.out, hCq⟩
            case measure => simp [intOf]
         · have e1z : ((strT (TG.getD j [])).toList == (strT T9).toList) = false := by rw [strT_beqT]; exact decide_eq_false e1
           have hnew : Hid ((.int .i64 (foI (fstK TG kept T9 (pn - (j + 1)) (j + 1))) : Value) = .int .i64 (foI (fstK TG kept T9 (pn - (((j : Int) - 1) + 1).toNat) (((j : Int) - 1) + 1).toNat))) := hid (by rw [show (((j : Int) - 1) + 1).toNat = j by omega, fd2 (fun h9 => e1 h9.1)])
           clear fd1 fd2 e1 cH
           generalize strT T9 = S9 at cB e1z
           generalize strT (TG.getD j []) = S8 at cA e1z
           generalize foI (fstK TG kept T9 (pn - (j + 1)) (j + 1)) = o9 at *
           go_wp2_with fail
           refine wp_region_quiet_below (by kernel_rfl) (by kernel_rfl) ?_
           repeat (first | go_big_quiet_step (first | with_reducible exact cA.out _ _ | with_reducible exact cB.out _ _) | quiet_step (first | with_reducible exact cA.out _ _ | with_reducible exact cB.out _ _))
           refine wpQuiet_nil ?_
           intro _ hw'
           obtain ⟨⟨dq, osq⟩, hw''⟩ := hw'
           subst hw''
           have hCq := hid (hCi.out.keep (below_regrown wr dq osq))
           go_wp2
           go_roundw
           case rel => exact ⟨(j : Int) - 1, by omega, by omega, by go_num, hnew.out, hCq⟩
           case measure => simp [intOf]
       · obtain rfl : z = -1 := by omega
         have hz9 : decide ((0 : Int) ≤ -1) = false := by decide
         rw [show ((-1 : Int) + 1).toNat = 0 from rfl, Nat.sub_zero]
         have hfk : fstK TG kept T9 pn 0 = fndK TG kept T9 := by unfold fndK; rw [hTG.out]
         rw [hfk]
         have hst9 := hFs.out k
         rw [hT9.out] at hst9
         unfold DfS.step at hst9
         rw [hkept.out, hprs.out, hnew9.out] at hst9
         have hl3 := (hFl.out k)
         rw [hkept.out, hprs.out, hnew9.out] at hl3
         obtain ⟨hl4, hl5, hl6⟩ := hl3
         obtain ⟨b0, b1, b2, -⟩ := hCi.out.cells
         cases hfn : fndK TG kept T9 with
         | none =>
          rw [hfn] at hst9
          have hst9 := hid hst9
          obtain ⟨na2, nc2, rfl, -⟩ := Nums.of_row hCi.out.nw
          have hal := al' wr (.cells #[.int .i64 (k : Int)] 3)
          have hCa := hid (hCi.out.keep hal)
          have b2a := keep_cell hal b2
          clear hfn hfk hCi hal
          show Code.wp _ _ _ _ _
          go_wp2_with (at_builtin; refine wpList_append_lies _ (by rfl) _ _ _ (by rfl) W.heap.size 3 iI (.int .i64 0) 1 8 Tryz.underlying32 hiI zI0 zI1 zI2 rfl (by decide) (.slice na2 new.length nc2) new.length (numCells new) (by rfl) hCa.out.nw ⟨wr.heap.size, 0, none⟩ 1 1 [.int .i64 (k : Int)] (by rfl) (by rfl) (World.news_of_block (heap_new wr (.cells #[.int .i64 (k : Int)] 3))) (by simp [Value.oneCell']) (by omega) (by (unfold maxLen); omega) (by omega) hCa.out.low.size (wr.alloc (.cells #[.int .i64 (k : Int)] 3)).heap.size rfl ?_; intro g7 c7 w7 hown7 hgrow7 hat7 hlt7; obtain ⟨⟨j2, f2⟩, hC7⟩ := hCa.out.pushN hown7 hgrow7 hat7; have hC7 := hid hC7; clear hown7 hgrow7 hat7 hlt7)
          go_roundw
          case rel => exact ⟨k + 1, _, _, _, by omega, by go_num, hid (by rw [hst9.out]; exact hC7.out)⟩
          case measure => simp [intOf]; omega
         | some f =>
          rw [hfn] at hst9
          have hst9 := hid hst9
          have hfl : f < pn := by have := (fndK_some hfn).1; rw [hTG.out] at this; exact this
          have hfz : ¬ (f : Int) < 0 := by omega
          obtain ⟨ka2, kc2, rfl⟩ := (Prs.of_row hCi.out.pr).shape
          have hal := al' wr (.cells #[.int .i64 (f : Int)] 3)
          have hCa := hid (hCi.out.keep hal)
          clear hfn hfk hCi hal b0 b1 b2
          show Code.wp _ _ _ _ _
          go_wp2_with (first
           | (at_builtin; have hp9 := hCb; clear hp9; refine wpList_append_lies _ (by rfl) _ _ _ (by rfl) W.heap.size 41 iP (.agg #[.int .i64 0, .int .i64 0]) 2 16 Tryz.underlying31 hiP zP0 zP1 zP2 rfl (by decide) (.slice ka2 prs.length kc2) prs.length (prCells prs) (by rfl) hCb.out.pr ⟨w7.heap.size, 0, none⟩ 1 1 [.int .i64 (f : Int), .int .i64 (k : Int)] (by rfl) (by rfl) (World.news_of_block (heap_new w7 (.cells #[.int .i64 (f : Int), .int .i64 (k : Int)] 41))) (by simp [Value.oneCell']) (by omega) (by (unfold maxLen); omega) (by omega) hCb.out.low.size (w7.alloc (.cells #[.int .i64 (f : Int), .int .i64 (k : Int)] 41)).heap.size rfl ?_; intro g8 c8 w8 hown8 hgrow8 hat8 hlt8; obtain ⟨⟨j0, f0⟩, hC8⟩ := hCb.out.pushK hown8 hgrow8 hat8; have hC8 := hid hC8; clear hown8 hgrow8 hat8 hlt8)
           | (at_builtin; refine wpList_append_lies _ (by rfl) _ _ _ (by rfl) W.heap.size 3 iI (.int .i64 0) 1 8 Tryz.underlying32 hiI zI0 zI1 zI2 rfl (by decide) (.slice ta kept.length tc) kept.length (numCells kept) (by rfl) hCa.out.kt ⟨wr.heap.size, 0, none⟩ 1 1 [.int .i64 (f : Int)] (by rfl) (by rfl) (World.news_of_block (heap_new wr (.cells #[.int .i64 (f : Int)] 3))) (by simp [Value.oneCell']) (by omega) (by (unfold maxLen); omega) (by omega) hCa.out.low.size (wr.alloc (.cells #[.int .i64 (f : Int)] 3)).heap.size rfl ?_; intro g7 c7 w7 hown7 hgrow7 hat7 hlt7; have hC7 := hCa.out.pushT hown7 hgrow7 hat7; obtain ⟨b0, -⟩ := hC7.cells; have hal7 := al' w7 (.cells #[.int .i64 (f : Int), .int .i64 (k : Int)] 41); have b0a := keep_cell hal7 b0; have hCb := hid (hC7.keep hal7); clear hown7 hgrow7 hat7 hlt7 hal7 hC7))
          go_roundw
          case rel => exact ⟨k + 1, _, _, _, by omega, by go_num, hid (by rw [hst9.out]; exact hC8.out)⟩
          case measure => simp [intOf]; omega
    · have hltz : ¬ (k : Int) < (pm : Int) := by omega
      obtain rfl : k = pm := by omega
      have eP : Hid (dfPrs TG TH = (dfK TG TH k).prs) := hid (by unfold dfPrs; rw [hTH.out])
      have eN : Hid (dfNew TG TH = (dfK TG TH k).new) := hid (by unfold dfNew; rw [hTH.out])
      have eG : Hid (dfGone TG TH = outL pn (dfK TG TH k).kept) := hid (by unfold dfGone; rw [hTH.out, hTG.out])
      have hl9 := hFl.out k
      generalize (dfK TG TH k).kept = kept at *
      generalize (dfK TG TH k).prs = prs at *
      generalize (dfK TG TH k).new = new at *
      obtain ⟨lk, lpr, lnw⟩ := hl9
      clear hFl hFs hF0 GX GY
      go_wp2
      clear z3 q3 hltz
      obtain ⟨wo, hwo⟩ : ∃ x, x = wr := ⟨_, rfl⟩
      subst hwo
      go_loopw [11] (fun i wr => ∃ (m : Nat) (τ : Nat → Nat) (gv : Value), m ≤ pn ∧ i = .int .i64 (m : Int) ∧ Hid (ChO τ W wr q (.slice ta kept.length tc) kv gv nv2 kept prs (outL m kept) new A1 A2 A3)) (fun i _ => pn - (intOf i).toNat)
      case atStart => exact ⟨0, τ, _, Nat.zero_le _, rfl, hC⟩
      case round =>
       clear hC
       obtain ⟨m, τ2, gv, hm, rfl, hCi⟩ := hrel
       obtain ⟨⟨-, -, -, z3, -⟩, -⟩ := hBx.out wr hCi.out.low
       by_cases hlm : m < pn
       · have hlmz : (m : Int) < (pn : Int) := by omega
         have G := hid (numHas _ kept m wr (by omega) (Nums.of_row hCi.out.kt))
         have hos := outL_succ m kept
         have hol : (outL m kept).length ≤ m := by
          have h9 := List.length_filter_le (fun k => !kept.contains k) ((List.range m).map fun k : Nat => (k : Int))
          rw [List.length_map, List.length_range] at h9
          exact h9
         cases hcc : kept.contains (m : Int) with
         | true =>
          rw [hcc] at G hos
          rw [if_pos rfl, List.append_nil] at hos
          have hos := hid hos
          clear hcc
          go_wp2_with (go_at_call 33; refine G.out.mono ?_; clear G; rintro e w9 ⟨rfl, hc9⟩; subst w9)
          go_roundw
          case rel => exact ⟨m + 1, τ2, gv, by omega, by go_num, hid (by rw [hos.out]; exact hCi.out)⟩
          case measure => simp [intOf]; omega
         | false =>
          rw [hcc] at G hos
          rw [if_neg (by decide)] at hos
          have hos := hid hos
          obtain ⟨ga2, gc2, rfl, -⟩ := Nums.of_row hCi.out.go
          obtain ⟨-, b1, -⟩ := hCi.out.cells
          have hal := al' wr (.cells #[.int .i64 (m : Int)] 3)
          have hCa := hid (hCi.out.keep hal)
          have b1a := keep_cell hal b1
          clear hcc hal hCi
          generalize outL m kept = gone at *
          go_wp2_with (first
           | (go_at_call 33; refine G.out.mono ?_; clear G; rintro e w9 ⟨rfl, hc9⟩; subst w9)
           | (at_builtin; refine wpList_append_lies _ (by rfl) _ _ _ (by rfl) W.heap.size 3 iI (.int .i64 0) 1 8 Tryz.underlying32 hiI zI0 zI1 zI2 rfl (by decide) (.slice ga2 gone.length gc2) gone.length (numCells gone) (by rfl) hCa.out.go ⟨wr.heap.size, 0, none⟩ 1 1 [.int .i64 (m : Int)] (by rfl) (by rfl) (World.news_of_block (heap_new wr (.cells #[.int .i64 (m : Int)] 3))) (by simp [Value.oneCell']) (by omega) (by (unfold maxLen); omega) (by omega) hCa.out.low.size (wr.alloc (.cells #[.int .i64 (m : Int)] 3)).heap.size rfl ?_; intro g7 c7 w7 hown7 hgrow7 hat7 hlt7; obtain ⟨⟨j1, f1⟩, hC7⟩ := hCa.out.pushG hown7 hgrow7 hat7; have hC7 := hid hC7; clear hown7 hgrow7 hat7 hlt7))
          go_roundw
          case rel => exact ⟨m + 1, _, _, by omega, by go_num, hid (by rw [hos.out]; exact hC7.out)⟩
          case measure => simp [intOf]; omega
       · have hlmz : ¬ (m : Int) < (pn : Int) := by omega
         obtain rfl : m = pn := by omega
         obtain ⟨b0, b1, b2, b3, b4, b5⟩ := hCi.out.cells
         obtain ⟨ka2, kc2, rfl⟩ := (Prs.of_row hCi.out.pr).shape
         obtain ⟨ga2, gc2, rfl, -⟩ := Nums.of_row hCi.out.go
         obtain ⟨na2, nc2, rfl, -⟩ := Nums.of_row hCi.out.nw
         obtain ⟨U1, U2, U3, U4, U5, U6, hU1, hU2, hU3, hU4, hU5, hU6, hU7, ⟨j0, f0, j1, f1, j2, f2, j3, f3, j4, f4, j5, f5⟩, ⟨v0, v1, v2, v3, v4, v5⟩⟩ := put6_walk (hrbu.out wr hCi.out.low) (.slice ka2 prs.length kc2) (.slice ga2 (outL m kept).length gc2) (.slice na2 new.length nc2) (.bool A1) (.bool A2) (.bool A3)
         have hkU : Kept (oneBlk (w.heap.size + 1 + 1)) wr U6 := by rw [← hU7]; exact put6_kept ..
         obtain ⟨r1, r2, r3⟩ := hCi.out.done hrbl hkU
         have hf9 := hid (hend.out U6 _ _ _ ((bl_step hB.out hCi.out.low).trans (hkU.below (fun k e => by rw [show k = w.heap.size + 1 + 1 from e]; omega) (Nat.le_trans hB.out.size hCi.out.low.size))) (by rw [eP.out]; exact r1) (by rw [eG.out]; exact r2) (by rw [eN.out]; exact r3))
         clear hCi hkU r1 r2 r3 hU7
         generalize (outL m kept).length = gl at *
         go_wp2
         refine bodyPost_ret (v := .tuple #[.agg #[.slice ka2 prs.length kc2, .slice ga2 gl gc2, .slice na2 new.length nc2, .bool A1, .bool A2, .bool A3], .int .i64 0]) (by simp [results, Tryz.results13, go_sem, v0, v1, v2, v3, v4, v5]) rfl ?_
         exact hf9.out
 | true =>
  go_enter Tryz.func13, Tryz.ntmps13
  go_wp2_with (first
   | (go_at_call 15; refine (G1.out W (Below.refl _ _)).mono ?_; clear G1; rintro e w1 ⟨rfl, hc1⟩; have h1 := hid hc1; clear z0 z1 z2 z3 z4 q0 q1 q2 q3 q4 hW; obtain ⟨⟨z0, z1, z2, z3, z4⟩, ⟨q0, q1, q2, q3, q4⟩⟩ := hBx.out w1 hc1; clear hc1)
   | (go_at_call 15; refine (G2.out w1 h1.out).mono ?_; clear G2; rintro e w2 ⟨rfl, hc2⟩; have h2 := hid (bl_step h1.out hc2); clear hc2 z0 z1 z2 z3 z4 q0 q1 q2 q3 q4 h1))
  have hcur := hid (show Below W.heap.size W w2.drew from h2.out.drew)
  obtain ⟨⟨z0, z1, z2, z3, z4⟩, ⟨q0, q1, q2, q3, q4⟩⟩ := hBx.out _ hcur.out
  obtain ⟨⟨y20, y21, y22, y23, y24⟩, ⟨x20, x21, x22, x23, x24⟩⟩ := hBx.out (w2.alloc (boxCh false false false)) (bl_step h2.out (al' _ _))
  have hcA := hid (show Below W.heap.size W (w2.alloc (boxCh false false false)).drew from (bl_step h2.out (al' _ _)).drew)
  clear h2
  apply collapseVD (F := fun V q => BxV W V q (!B1) (!I2) false)
  case h =>
   intro rest
   go_region_held3 (fun w' => w'.cell? ⟨w.heap.size, 0, none⟩ = some rv ∧ w'.cell? ⟨w.heap.size, 1, none⟩ = some nv ∧ w'.cell? ⟨w.heap.size, 2, none⟩ = some lv ∧ w'.cell? ⟨w.heap.size, 3, none⟩ = some pv ∧ w'.cell? ⟨w.heap.size, 4, none⟩ = some (.int .i64 st) ∧ w'.cell? ⟨w.heap.size + 1, 0, none⟩ = some rv' ∧ w'.cell? ⟨w.heap.size + 1, 1, none⟩ = some nv' ∧ w'.cell? ⟨w.heap.size + 1, 2, none⟩ = some lv' ∧ w'.cell? ⟨w.heap.size + 1, 3, none⟩ = some pv' ∧ w'.cell? ⟨w.heap.size + 1, 4, none⟩ = some (.int .i64 st')) (go_keep) ((first
    | (go_at_call 30; refine (GR.out _ (by first | with_reducible exact hcur.out | with_reducible exact hcA.out)).mono ?_; rintro e w3 ⟨rfl, hc⟩; have hc3 := hid (show Below W.heap.size W w3 by first | with_reducible exact bl_step hcur.out hc | with_reducible exact bl_step hcA.out hc); (first | (have hq3 := hid (show BxV W w3 w2.heap.size false false false from ⟨hs_keep (w := (w2.alloc (boxCh false false false)).drew) (heap_new w2 (boxCh false false false)) hc, hcur.out.size, hc3.out⟩)) | skip); clear hc; obtain ⟨⟨a30, a31, a32, a33, a34⟩, ⟨b30, b31, b32, b33, b34⟩⟩ := hBx.out _ hc3.out; obtain ⟨⟨y30, y31, y32, y33, y34⟩, ⟨x30, x31, x32, x33, x34⟩⟩ := hBx.out (w3.alloc (boxCh false false false)) (bl_step hc3.out (al' _ _)))
    | (go_at_call 31; have hp9 := hc4; clear hp9; refine (GJ.out _ (by first | with_reducible exact hc4.out | with_reducible exact bl_step hc4.out (al' _ _))).mono ?_; rintro e w5 ⟨rfl, hc⟩; have hc5 := hid (show Below W.heap.size W w5 by first | with_reducible exact bl_step hc4.out hc | with_reducible exact bl_step (bl_step hc4.out (al' _ _)) hc); (first | (have hq5 := hid (hq4.out.keep hc)) | (have hq5 := hid (show BxV W w5 _ false false false from ⟨hs_keep (heap_new w4 (.cells #[.slice none 0 0, .slice none 0 0, .slice none 0 0, .bool false, .bool false, .bool false] 34)) hc, hc4.out.size, hc5.out⟩)) | skip); (first | (obtain ⟨U1, U2, U3, U4, U5, U6, hU1, hU2, hU3, hU4, hU5, hU6, hU7, ⟨j0, f0, j1, f1, j2, f2, j3, f3, j4, f4, j5, f5⟩, -⟩ := put6_walk hq5.out.blk (.slice none 0 0) (.slice none 0 0) (.slice none 0 0) (.bool (!B1)) (.bool (!I2)) (.bool false); have hq9 := hq5.out.put (!B1) (!I2) false; rw [hU7] at hq9; obtain ⟨⟨c0, c1, c2, c3, c4⟩, ⟨d0, d1, d2, d3, d4⟩⟩ := hBx.out U6 hq9.bel; have hq9 := hid hq9; clear hU7) | (have hq9 := hid (BxV.last hc5.out (!B1) (!I2) false))); clear hc; obtain ⟨⟨a50, a51, a52, a53, a54⟩, ⟨b50, b51, b52, b53, b54⟩⟩ := hBx.out _ hc5.out; obtain ⟨⟨y50, y51, y52, y53, y54⟩, ⟨x50, x51, x52, x53, x54⟩⟩ := hBx.out (w5.alloc (boxCh false false false)) (bl_step hc5.out (al' _ _)))
    | (go_at_call 31; have hp9 := hc3; clear hp9; refine (GI.out _ (by first | with_reducible exact hc3.out | with_reducible exact bl_step hc3.out (al' _ _))).mono ?_; rintro e w4 ⟨rfl, hc⟩; have hc4 := hid (show Below W.heap.size W w4 by first | with_reducible exact bl_step hc3.out hc | with_reducible exact bl_step (bl_step hc3.out (al' _ _)) hc); (first | (have hq4 := hid (hq3.out.keep hc)) | (have hq4 := hid (show BxV W w4 _ false false false from ⟨hs_keep (heap_new w3 (.cells #[.slice none 0 0, .slice none 0 0, .slice none 0 0, .bool false, .bool false, .bool false] 34)) hc, hc3.out.size, hc4.out⟩)) | skip); clear hc; obtain ⟨⟨a40, a41, a42, a43, a44⟩, ⟨b40, b41, b42, b43, b44⟩⟩ := hBx.out _ hc4.out; obtain ⟨⟨y40, y41, y42, y43, y44⟩, ⟨x40, x41, x42, x43, x44⟩⟩ := hBx.out (w4.alloc (boxCh false false false)) (bl_step hc4.out (al' _ _)))))
   all_goals
    have hf := hq9.out
    first
     | (generalize w5.alloc (boxCh (!B1) (!I2) false) = V at hf ⊢; generalize w5.heap.size = q at hf ⊢; exact rest V q hf)
     | (generalize w2.heap.size = q at hf ⊢; exact rest U6 q hf)
     | (generalize w3.heap.size = q at hf ⊢; exact rest U6 q hf)
     | (generalize w4.heap.size = q at hf ⊢; exact rest U6 q hf)
  case pf =>
   rintro V q hf
   have hq0 := hid (hf.keep ((Below.refl _ V).drew))
   clear hf hcur hcA GR GI GJ y20 y21 y22 y23 y24 x20 x21 x22 x23 x24 z0 z1 z2 z3 z4 q0 q1 q2 q3 q4
   go_wp2_with fail
   obtain ⟨⟨z0, z1, z2, z3, z4⟩, ⟨q0, q1, q2, q3, q4⟩⟩ := hBx.out _ hq0.out.bel
   go_region_held3 (fun w' => w'.cell? ⟨w.heap.size, 0, none⟩ = some rv ∧ w'.cell? ⟨w.heap.size, 1, none⟩ = some nv ∧ w'.cell? ⟨w.heap.size, 2, none⟩ = some lv ∧ w'.cell? ⟨w.heap.size, 3, none⟩ = some pv ∧ w'.cell? ⟨w.heap.size, 4, none⟩ = some (.int .i64 st) ∧ w'.cell? ⟨w.heap.size + 1, 0, none⟩ = some rv' ∧ w'.cell? ⟨w.heap.size + 1, 1, none⟩ = some nv' ∧ w'.cell? ⟨w.heap.size + 1, 2, none⟩ = some lv' ∧ w'.cell? ⟨w.heap.size + 1, 3, none⟩ = some pv' ∧ w'.cell? ⟨w.heap.size + 1, 4, none⟩ = some (.int .i64 st')) (go_keep) ((first
    | (go_at_call 32; have hp9 := hq7; clear hp9; refine (GN'.out _ hq7.out.bel).mono ?_; rintro e w8 ⟨rfl, hc⟩; have hq8 := hid (hq7.out.keep hc); have j5 := blk_cell (o := 5) hq8.out.blk rfl; have f5 := blk_frozen hq8.out.blk 5; obtain ⟨U, hU⟩ : ∃ x, w8.setCell ⟨q, 5, none⟩ (.bool (!D)) = x := ⟨_, rfl⟩; have hq9 := hq8.out.flag (!D); rw [hU] at hq9; obtain ⟨⟨c0, c1, c2, c3, c4⟩, ⟨d0, d1, d2, d3, d4⟩⟩ := hBx.out U hq9.bel; have hq9 := hid hq9; clear hc; obtain ⟨⟨a80, a81, a82, a83, a84⟩, ⟨b80, b81, b82, b83, b84⟩⟩ := hBx.out _ hq8.out.bel)
    | (go_at_call 32; refine (GN.out _ hq0.out.bel).mono ?_; rintro e w7 ⟨rfl, hc⟩; have hq7 := hid (hq0.out.keep hc); clear hc; obtain ⟨⟨a70, a71, a72, a73, a74⟩, ⟨b70, b71, b72, b73, b74⟩⟩ := hBx.out _ hq7.out.bel)))
   have hC0 := hid (ChO.start hq9.out.blk hq9.out.bel hq9.out.low)
   obtain ⟨iI, hiI, zI0, zI1, zI2⟩ := info_parts Tryz.info3
   obtain ⟨iP, hiP, zP0, zP1, zP2⟩ := info_parts Tryz.infoP2
   obtain ⟨pa, pc, rfl⟩ := hpe.out
   obtain ⟨pa', pc', rfl⟩ := hpe'.out
   have hF0 : Hid (dfK TG TH 0 = ⟨[], [], []⟩) := hid rfl
   have hFs : Hid (∀ k, dfK TG TH (k + 1) = (dfK TG TH k).step TG k (TH.getD k [])) := hid (fun k => rfl)
   have hFl : Hid (∀ k, (dfK TG TH k).kept.length ≤ k ∧ (dfK TG TH k).prs.length ≤ k ∧ (dfK TG TH k).new.length ≤ k) := hid (fun k => by
    have h9 := dfK_good TG TH k
    have e1 := h9.len
    have e2 : (dfK TG TH k).kept.length = (dfK TG TH k).prs.length := by rw [← h9.fst, List.length_map]
    omega)
   clear hq0 hq7 hq8 hq9 hpe hpe' GN GN' hU j5 f5 z0 z1 z2 z3 z4 q0 q1 q2 q3 q4 c0 c1 c2 c3 c4 d0 d1 d2 d3 d4 a70 a71 a72 a73 a74 b70 b71 b72 b73 b74 a80 a81 a82 a83 a84 b80 b81 b82 b83 b84
   rw [show (!true || !I2) = !I2 from rfl] at hend
   generalize (!B1) = A1 at *
   generalize (!I2) = A2 at *
   generalize (!D) = A3 at *
   go_wp2
   go_loopw [7, 8] (fun tv i wr => ∃ (k : Nat) (τ : Nat → Nat) (kv nv2 : Value), k ≤ pm ∧ i = .int .i64 (k : Int) ∧ Hid (ChO τ W wr q tv kv (.slice none 0 0) nv2 (dfK TG TH k).kept (dfK TG TH k).prs [] (dfK TG TH k).new A1 A2 A3)) (fun _ i _ => pm - (intOf i).toNat)
   case atStart => exact ⟨0, _, _, _, Nat.zero_le _, rfl, hC0⟩
   case round =>
    clear hC0
    obtain ⟨k, τ, kv, nv2, hk, rfl, hC⟩ := hrel
    obtain ⟨ta, tc, rfl, -⟩ := Nums.of_row hC.out.kt
    obtain ⟨⟨-, -, -, z3, -⟩, ⟨-, -, -, q3, -⟩⟩ := hBx.out wr hC.out.low
    by_cases hlt : k < pm
    · have hltz : (k : Int) < (pm : Int) := by omega
      have hkl := (hFl.out k).1
      go_wp2_with fail
      clear z3 q3
      obtain ⟨kept, hkept⟩ : ∃ x, Hid ((dfK TG TH k).kept = x) := ⟨_, hid rfl⟩
      obtain ⟨prs, hprs⟩ : ∃ x, Hid ((dfK TG TH k).prs = x) := ⟨_, hid rfl⟩
      obtain ⟨new, hnew9⟩ : ∃ x, Hid ((dfK TG TH k).new = x) := ⟨_, hid rfl⟩
      rw [hkept.out, hprs.out, hnew9.out] at hC
      rw [hkept.out] at hkl ⊢
      obtain ⟨T9, hT9⟩ : ∃ x, Hid (TH.getD k [] = x) := ⟨_, hid rfl⟩
      have hpk : Hid (k < pm) := hid hlt
      obtain ⟨wo, hwo⟩ : ∃ x, x = wr := ⟨_, rfl⟩
      subst hwo
      go_loopw [9, 10] (fun fo x wr => ∃ z : Int, -1 ≤ z ∧ z < (pn : Int) ∧ x = .int .i64 z ∧ fo = .int .i64 (foI (fstK TG kept T9 (pn - (z + 1).toNat) (z + 1).toNat)) ∧ Hid (ChO τ W wr q (.slice ta kept.length tc) kv (.slice none 0 0) nv2 kept prs [] new A1 A2 A3)) (fun _ x _ => (intOf x + 1).toNat)
      case atStart => exact ⟨(pn : Int) - 1, by omega, by omega, by go_num, by rw [show (((pn : Int) - 1) + 1).toNat = pn by omega, Nat.sub_self]; rfl, hC⟩
      case round =>
       clear hC
       obtain ⟨z, hz1, hz2, rfl, rfl, hCi⟩ := hrel
       by_cases hz0 : 0 ≤ z
       · obtain ⟨j, rfl⟩ : ∃ j : Nat, z = (j : Int) := ⟨z.toNat, by omega⟩
         have hjn : j < pn := by omega
         have hjz : decide ((0 : Int) ≤ (j : Int)) = true := decide_eq_true (by omega)
         rw [show ((j : Int) + 1).toNat = j + 1 by omega]
         obtain ⟨⟨z0, z1, z2, z3, z4⟩, ⟨q0, q1, q2, q3, q4⟩⟩ := hBx.out wr hCi.out.low
         have cA : Hid (∀ d os, Calls Tryz.prog 16 #[gmA rv nv lv (.slice pa pn pc) st, .int .i64 (j : Int)] (grow (redrawn wr d) os) fun e w'' => e = .returned (.string (strT (TG.getD j []))) ∧ ∃ p : Regrown, w'' = grow (redrawn wr p.d) p.os) := hid (fun d os => Calls.regrown_of (GX.out j hjn _ (bl_step hCi.out.low (below_regrown wr d os))))
         have cB : Hid (∀ d os, Calls Tryz.prog 16 #[gmA rv' nv' lv' (.slice pa' pm pc') st', .int .i64 (k : Int)] (grow (redrawn wr d) os) fun e w'' => e = .returned (.string (strT T9)) ∧ ∃ p : Regrown, w'' = grow (redrawn wr p.d) p.os) := hid (fun d os => Calls.regrown_of (by rw [← hT9.out]; exact GY.out k hpk.out _ (bl_step hCi.out.low (below_regrown wr d os))))
         have cH : Hid (∀ d os, Calls Tryz.prog 33 #[.slice ta kept.length tc, .int .i64 (j : Int)] (grow (redrawn wr d) os) fun e w'' => e = .returned (.bool (kept.contains (j : Int))) ∧ ∃ p : Regrown, w'' = grow (redrawn wr p.d) p.os) := hid (fun d os => Calls.regrown_of ((numHas _ kept j _ (by omega) ((Nums.of_row hCi.out.kt).keep (below_regrown wr d os))).mono (fun e w' h => ⟨h.1, by rw [h.2]; exact Below.refl _ _⟩)))
         have y0 := cell_regrown z0
         have y1 := cell_regrown z1
         have y2 := cell_regrown z2
         have y3 := cell_regrown z3
         have y4 := cell_regrown z4
         have v0 := cell_regrown q0
         have v1 := cell_regrown q1
         have v2 := cell_regrown q2
         have v3 := cell_regrown q3
         have v4 := cell_regrown q4
         obtain ⟨fd1, fd2⟩ := fst_down (T := TG) (kept := kept) (t := T9) hjn
         clear z0 z1 z2 z3 z4 q0 q1 q2 q3 q4
         by_cases e1 : TG.getD j [] = T9
         · rw [e1] at cA
           cases hcc : kept.contains (j : Int) with
           | false =>
            rw [hcc] at cH
            have hnew : Hid ((.int .i64 (j : Int) : Value) = .int .i64 (foI (fstK TG kept T9 (pn - (((j : Int) - 1) + 1).toNat) (((j : Int) - 1) + 1).toNat))) := hid (by rw [show (((j : Int) - 1) + 1).toNat = j by omega, fd1 ⟨e1, fun h9 => by rw [List.contains_iff_mem.2 h9] at hcc; cases hcc⟩]; rfl)
            clear fd1 fd2 e1 hcc
            generalize strT T9 = S9 at cA cB
            generalize fstK TG kept T9 (pn - (j + 1)) (j + 1) = o9 at *
            go_wp2_with fail
            refine wp_region_quiet_below (by kernel_rfl) (by kernel_rfl) ?_
            repeat (first | go_big_quiet_step (first | with_reducible exact cA.out _ _ | with_reducible exact cB.out _ _ | with_reducible exact cH.out _ _) | quiet_step (first | with_reducible exact cA.out _ _ | with_reducible exact cB.out _ _ | with_reducible exact cH.out _ _))
            refine wpQuiet_nil ?_
            intro _ hw'
            obtain ⟨⟨dq, osq⟩, hw''⟩ := hw'
            subst hw''
            have hCq := hid (hCi.out.keep (below_regrown wr dq osq))
            go_wp2
            go_roundw
            case rel => exact ⟨(j : Int) - 1, by omega, by omega, by go_num, hnew.out, hCq⟩
            case measure => simp [intOf]
           | true =>
            rw [hcc] at cH
            have hnew : Hid ((.int .i64 (foI (fstK TG kept T9 (pn - (j + 1)) (j + 1))) : Value) = .int .i64 (foI (fstK TG kept T9 (pn - (((j : Int) - 1) + 1).toNat) (((j : Int) - 1) + 1).toNat))) := hid (by rw [show (((j : Int) - 1) + 1).toNat = j by omega, fd2 (fun h9 => h9.2 (List.contains_iff_mem.1 hcc))])
            clear fd1 fd2 e1 hcc
            generalize strT T9 = S9 at cA cB
            generalize foI (fstK TG kept T9 (pn - (j + 1)) (j + 1)) = o9 at *
            go_wp2_with fail
            refine wp_region_quiet_below (by kernel_rfl) (by kernel_rfl) ?_
            repeat (first | go_big_quiet_step (first | with_reducible exact cA.out _ _ | with_reducible exact cB.out _ _ | with_reducible exact cH.out _ _) | quiet_step (first | with_reducible exact cA.out _ _ | with_reducible exact cB.out _ _ | with_reducible exact cH.out _ _))
            refine wpQuiet_nil ?_
            intro _ hw'
            obtain ⟨⟨dq, osq⟩, hw''⟩ := hw'
            subst hw''
            have hCq := hid (hCi.out.keep (below_regrown wr dq osq))
            go_wp2
            go_roundw
            case rel => exact ⟨(j : Int) - 1, by omega, by omega, by go_num, hnew.out, hCq⟩
            case measure => simp [intOf]
         · have e1z : ((strT (TG.getD j [])).toList == (strT T9).toList) = false := by rw [strT_beqT]; exact decide_eq_false e1
           have hnew : Hid ((.int .i64 (foI (fstK TG kept T9 (pn - (j + 1)) (j + 1))) : Value) = .int .i64 (foI (fstK TG kept T9 (pn - (((j : Int) - 1) + 1).toNat) (((j : Int) - 1) + 1).toNat))) := hid (by rw [show (((j : Int) - 1) + 1).toNat = j by omega, fd2 (fun h9 => e1 h9.1)])
           clear fd1 fd2 e1 cH
           generalize strT T9 = S9 at cB e1z
           generalize strT (TG.getD j []) = S8 at cA e1z
           generalize foI (fstK TG kept T9 (pn - (j + 1)) (j + 1)) = o9 at *
           go_wp2_with fail
           refine wp_region_quiet_below (by kernel_rfl) (by kernel_rfl) ?_
           repeat (first | go_big_quiet_step (first | with_reducible exact cA.out _ _ | with_reducible exact cB.out _ _) | quiet_step (first | with_reducible exact cA.out _ _ | with_reducible exact cB.out _ _))
           refine wpQuiet_nil ?_
           intro _ hw'
           obtain ⟨⟨dq, osq⟩, hw''⟩ := hw'
           subst hw''
           have hCq := hid (hCi.out.keep (below_regrown wr dq osq))
           go_wp2
           go_roundw
           case rel => exact ⟨(j : Int) - 1, by omega, by omega, by go_num, hnew.out, hCq⟩
           case measure => simp [intOf]
       · obtain rfl : z = -1 := by omega
         have hz9 : decide ((0 : Int) ≤ -1) = false := by decide
         rw [show ((-1 : Int) + 1).toNat = 0 from rfl, Nat.sub_zero]
         have hfk : fstK TG kept T9 pn 0 = fndK TG kept T9 := by unfold fndK; rw [hTG.out]
         rw [hfk]
         have hst9 := hFs.out k
         rw [hT9.out] at hst9
         unfold DfS.step at hst9
         rw [hkept.out, hprs.out, hnew9.out] at hst9
         have hl3 := (hFl.out k)
         rw [hkept.out, hprs.out, hnew9.out] at hl3
         obtain ⟨hl4, hl5, hl6⟩ := hl3
         obtain ⟨b0, b1, b2, -⟩ := hCi.out.cells
         cases hfn : fndK TG kept T9 with
         | none =>
          rw [hfn] at hst9
          have hst9 := hid hst9
          obtain ⟨na2, nc2, rfl, -⟩ := Nums.of_row hCi.out.nw
          have hal := al' wr (.cells #[.int .i64 (k : Int)] 3)
          have hCa := hid (hCi.out.keep hal)
          have b2a := keep_cell hal b2
          clear hfn hfk hCi hal
          show Code.wp _ _ _ _ _
          go_wp2_with (at_builtin; refine wpList_append_lies _ (by rfl) _ _ _ (by rfl) W.heap.size 3 iI (.int .i64 0) 1 8 Tryz.underlying32 hiI zI0 zI1 zI2 rfl (by decide) (.slice na2 new.length nc2) new.length (numCells new) (by rfl) hCa.out.nw ⟨wr.heap.size, 0, none⟩ 1 1 [.int .i64 (k : Int)] (by rfl) (by rfl) (World.news_of_block (heap_new wr (.cells #[.int .i64 (k : Int)] 3))) (by simp [Value.oneCell']) (by omega) (by (unfold maxLen); omega) (by omega) hCa.out.low.size (wr.alloc (.cells #[.int .i64 (k : Int)] 3)).heap.size rfl ?_; intro g7 c7 w7 hown7 hgrow7 hat7 hlt7; obtain ⟨⟨j2, f2⟩, hC7⟩ := hCa.out.pushN hown7 hgrow7 hat7; have hC7 := hid hC7; clear hown7 hgrow7 hat7 hlt7)
          go_roundw
          case rel => exact ⟨k + 1, _, _, _, by omega, by go_num, hid (by rw [hst9.out]; exact hC7.out)⟩
          case measure => simp [intOf]; omega
         | some f =>
          rw [hfn] at hst9
          have hst9 := hid hst9
          have hfl : f < pn := by have := (fndK_some hfn).1; rw [hTG.out] at this; exact this
          have hfz : ¬ (f : Int) < 0 := by omega
          obtain ⟨ka2, kc2, rfl⟩ := (Prs.of_row hCi.out.pr).shape
          have hal := al' wr (.cells #[.int .i64 (f : Int)] 3)
          have hCa := hid (hCi.out.keep hal)
          clear hfn hfk hCi hal b0 b1 b2
          show Code.wp _ _ _ _ _
          go_wp2_with (first
           | (at_builtin; have hp9 := hCb; clear hp9; refine wpList_append_lies _ (by rfl) _ _ _ (by rfl) W.heap.size 41 iP (.agg #[.int .i64 0, .int .i64 0]) 2 16 Tryz.underlying31 hiP zP0 zP1 zP2 rfl (by decide) (.slice ka2 prs.length kc2) prs.length (prCells prs) (by rfl) hCb.out.pr ⟨w7.heap.size, 0, none⟩ 1 1 [.int .i64 (f : Int), .int .i64 (k : Int)] (by rfl) (by rfl) (World.news_of_block (heap_new w7 (.cells #[.int .i64 (f : Int), .int .i64 (k : Int)] 41))) (by simp [Value.oneCell']) (by omega) (by (unfold maxLen); omega) (by omega) hCb.out.low.size (w7.alloc (.cells #[.int .i64 (f : Int), .int .i64 (k : Int)] 41)).heap.size rfl ?_; intro g8 c8 w8 hown8 hgrow8 hat8 hlt8; obtain ⟨⟨j0, f0⟩, hC8⟩ := hCb.out.pushK hown8 hgrow8 hat8; have hC8 := hid hC8; clear hown8 hgrow8 hat8 hlt8)
           | (at_builtin; refine wpList_append_lies _ (by rfl) _ _ _ (by rfl) W.heap.size 3 iI (.int .i64 0) 1 8 Tryz.underlying32 hiI zI0 zI1 zI2 rfl (by decide) (.slice ta kept.length tc) kept.length (numCells kept) (by rfl) hCa.out.kt ⟨wr.heap.size, 0, none⟩ 1 1 [.int .i64 (f : Int)] (by rfl) (by rfl) (World.news_of_block (heap_new wr (.cells #[.int .i64 (f : Int)] 3))) (by simp [Value.oneCell']) (by omega) (by (unfold maxLen); omega) (by omega) hCa.out.low.size (wr.alloc (.cells #[.int .i64 (f : Int)] 3)).heap.size rfl ?_; intro g7 c7 w7 hown7 hgrow7 hat7 hlt7; have hC7 := hCa.out.pushT hown7 hgrow7 hat7; obtain ⟨b0, -⟩ := hC7.cells; have hal7 := al' w7 (.cells #[.int .i64 (f : Int), .int .i64 (k : Int)] 41); have b0a := keep_cell hal7 b0; have hCb := hid (hC7.keep hal7); clear hown7 hgrow7 hat7 hlt7 hal7 hC7))
          go_roundw
          case rel => exact ⟨k + 1, _, _, _, by omega, by go_num, hid (by rw [hst9.out]; exact hC8.out)⟩
          case measure => simp [intOf]; omega
    · have hltz : ¬ (k : Int) < (pm : Int) := by omega
      obtain rfl : k = pm := by omega
      have eP : Hid (dfPrs TG TH = (dfK TG TH k).prs) := hid (by unfold dfPrs; rw [hTH.out])
      have eN : Hid (dfNew TG TH = (dfK TG TH k).new) := hid (by unfold dfNew; rw [hTH.out])
      have eG : Hid (dfGone TG TH = outL pn (dfK TG TH k).kept) := hid (by unfold dfGone; rw [hTH.out, hTG.out])
      have hl9 := hFl.out k
      generalize (dfK TG TH k).kept = kept at *
      generalize (dfK TG TH k).prs = prs at *
      generalize (dfK TG TH k).new = new at *
      obtain ⟨lk, lpr, lnw⟩ := hl9
      clear hFl hFs hF0 GX GY
      go_wp2
      clear z3 q3 hltz
      obtain ⟨wo, hwo⟩ : ∃ x, x = wr := ⟨_, rfl⟩
      subst hwo
      go_loopw [11] (fun i wr => ∃ (m : Nat) (τ : Nat → Nat) (gv : Value), m ≤ pn ∧ i = .int .i64 (m : Int) ∧ Hid (ChO τ W wr q (.slice ta kept.length tc) kv gv nv2 kept prs (outL m kept) new A1 A2 A3)) (fun i _ => pn - (intOf i).toNat)
      case atStart => exact ⟨0, τ, _, Nat.zero_le _, rfl, hC⟩
      case round =>
       clear hC
       obtain ⟨m, τ2, gv, hm, rfl, hCi⟩ := hrel
       obtain ⟨⟨-, -, -, z3, -⟩, -⟩ := hBx.out wr hCi.out.low
       by_cases hlm : m < pn
       · have hlmz : (m : Int) < (pn : Int) := by omega
         have G := hid (numHas _ kept m wr (by omega) (Nums.of_row hCi.out.kt))
         have hos := outL_succ m kept
         have hol : (outL m kept).length ≤ m := by
          have h9 := List.length_filter_le (fun k => !kept.contains k) ((List.range m).map fun k : Nat => (k : Int))
          rw [List.length_map, List.length_range] at h9
          exact h9
         cases hcc : kept.contains (m : Int) with
         | true =>
          rw [hcc] at G hos
          rw [if_pos rfl, List.append_nil] at hos
          have hos := hid hos
          clear hcc
          go_wp2_with (go_at_call 33; refine G.out.mono ?_; clear G; rintro e w9 ⟨rfl, hc9⟩; subst w9)
          go_roundw
          case rel => exact ⟨m + 1, τ2, gv, by omega, by go_num, hid (by rw [hos.out]; exact hCi.out)⟩
          case measure => simp [intOf]; omega
         | false =>
          rw [hcc] at G hos
          rw [if_neg (by decide)] at hos
          have hos := hid hos
          obtain ⟨ga2, gc2, rfl, -⟩ := Nums.of_row hCi.out.go
          obtain ⟨-, b1, -⟩ := hCi.out.cells
          have hal := al' wr (.cells #[.int .i64 (m : Int)] 3)
          have hCa := hid (hCi.out.keep hal)
          have b1a := keep_cell hal b1
          clear hcc hal hCi
          generalize outL m kept = gone at *
          go_wp2_with (first
           | (go_at_call 33; refine G.out.mono ?_; clear G; rintro e w9 ⟨rfl, hc9⟩; subst w9)
           | (at_builtin; refine wpList_append_lies _ (by rfl) _ _ _ (by rfl) W.heap.size 3 iI (.int .i64 0) 1 8 Tryz.underlying32 hiI zI0 zI1 zI2 rfl (by decide) (.slice ga2 gone.length gc2) gone.length (numCells gone) (by rfl) hCa.out.go ⟨wr.heap.size, 0, none⟩ 1 1 [.int .i64 (m : Int)] (by rfl) (by rfl) (World.news_of_block (heap_new wr (.cells #[.int .i64 (m : Int)] 3))) (by simp [Value.oneCell']) (by omega) (by (unfold maxLen); omega) (by omega) hCa.out.low.size (wr.alloc (.cells #[.int .i64 (m : Int)] 3)).heap.size rfl ?_; intro g7 c7 w7 hown7 hgrow7 hat7 hlt7; obtain ⟨⟨j1, f1⟩, hC7⟩ := hCa.out.pushG hown7 hgrow7 hat7; have hC7 := hid hC7; clear hown7 hgrow7 hat7 hlt7))
          go_roundw
          case rel => exact ⟨m + 1, _, _, by omega, by go_num, hid (by rw [hos.out]; exact hC7.out)⟩
          case measure => simp [intOf]; omega
       · have hlmz : ¬ (m : Int) < (pn : Int) := by omega
         obtain rfl : m = pn := by omega
         obtain ⟨b0, b1, b2, b3, b4, b5⟩ := hCi.out.cells
         obtain ⟨ka2, kc2, rfl⟩ := (Prs.of_row hCi.out.pr).shape
         obtain ⟨ga2, gc2, rfl, -⟩ := Nums.of_row hCi.out.go
         obtain ⟨na2, nc2, rfl, -⟩ := Nums.of_row hCi.out.nw
         obtain ⟨U1, U2, U3, U4, U5, U6, hU1, hU2, hU3, hU4, hU5, hU6, hU7, ⟨j0, f0, j1, f1, j2, f2, j3, f3, j4, f4, j5, f5⟩, ⟨v0, v1, v2, v3, v4, v5⟩⟩ := put6_walk (hrbu.out wr hCi.out.low) (.slice ka2 prs.length kc2) (.slice ga2 (outL m kept).length gc2) (.slice na2 new.length nc2) (.bool A1) (.bool A2) (.bool A3)
         have hkU : Kept (oneBlk (w.heap.size + 1 + 1)) wr U6 := by rw [← hU7]; exact put6_kept ..
         obtain ⟨r1, r2, r3⟩ := hCi.out.done hrbl hkU
         have hf9 := hid (hend.out U6 _ _ _ ((bl_step hB.out hCi.out.low).trans (hkU.below (fun k e => by rw [show k = w.heap.size + 1 + 1 from e]; omega) (Nat.le_trans hB.out.size hCi.out.low.size))) (by rw [eP.out]; exact r1) (by rw [eG.out]; exact r2) (by rw [eN.out]; exact r3))
         clear hCi hkU r1 r2 r3 hU7
         generalize (outL m kept).length = gl at *
         go_wp2
         refine bodyPost_ret (v := .tuple #[.agg #[.slice ka2 prs.length kc2, .slice ga2 gl gc2, .slice na2 new.length nc2, .bool A1, .bool A2, .bool A3], .int .i64 0]) (by simp [results, Tryz.results13, go_sem, v0, v1, v2, v3, v4, v5]) rfl ?_
         exact hf9.out

end Go.Proofs.YtloaikjealcbmaaGreat
