/- split of package bytes: a list of parts of the call's own, cut by one set. -/
import Derived.Test.YtpkndedppfdekaaDoorSpn
import Derived.Test.YtpkndedppfdekaaDoorCut
import Derived.Test.YtpkndedppfdekaaDoorApp
namespace Go.Proofs.YtpkndedppfdekaaDoor
open Go.RowKit

theorem hasW (S : W4) (x : Nat) (u : World) (hS : Fit4 S) (hx : x < 256) : Calls Tryd.prog 22 #[valB S, .int .u8 (x : Int)] u fun e w' => e = .returned (.bool (hasB S x)) ∧ Below u.heap.size u w' := hasC' S.a S.b S.c S.d x u hS hx
theorem orW (S T : W4) (u : World) (hS : Fit4 S) (hT : Fit4 T) : Calls Tryd.prog 12 #[valB S, valB T] u fun e w' => e = .returned (valB (orB S T)) ∧ Below u.heap.size u w' := orC S.a S.b S.c S.d T.a T.b T.c T.d u hS hT
theorem andW (S T : W4) (u : World) (hS : Fit4 S) (hT : Fit4 T) : Calls Tryd.prog 14 #[valB S, valB T] u fun e w' => e = .returned (valB (andB S T)) ∧ Below u.heap.size u w' := andC S.a S.b S.c S.d T.a T.b T.c T.d u hS hT
theorem notW (S : W4) (u : World) (hS : Fit4 S) : Calls Tryd.prog 16 #[valB S] u fun e w' => e = .returned (valB (notB S)) ∧ Below u.heap.size u w' := notC S.a S.b S.c S.d u hS
theorem countW (S : W4) (u : World) (hS : Fit4 S) : Calls Tryd.prog 18 #[valB S] u fun e w' => e = .returned (.int .i64 ((countB S : Nat) : Int)) ∧ Below u.heap.size u w' := countC S.a S.b S.c S.d u hS
theorem leastW (S : W4) (u : World) (hS : Fit4 S) (hT : Tab u) : Calls Tryd.prog 20 #[valB S] u fun e w' => e = .returned (.int .i64 (leastB S)) ∧ Below u.heap.size u w' := leastC S.a S.b S.c S.d u hS hT

theorem flatB_set : ∀ (l : List W4) (k : Nat) (S : W4), k < l.length → flatB (l.set k S) = ((((flatB l).set (k * 4) (.int .u64 (S.a : Int))).set (k * 4 + 1) (.int .u64 (S.b : Int))).set (k * 4 + 2) (.int .u64 (S.c : Int))).set (k * 4 + 3) (.int .u64 (S.d : Int))
  | T :: t, 0, S, _ => by simp [flatB]
  | T :: t, k + 1, S, hk => by
    have ih := flatB_set t k S (by simpa using hk)
    rw [List.set_cons_succ]
    unfold flatB at ih ⊢
    rw [List.flatMap_cons, ih, List.flatMap_cons]
    rw [show (k + 1) * 4 + 1 = k * 4 + 1 + 4 by omega, show (k + 1) * 4 + 2 = k * 4 + 2 + 4 by omega, show (k + 1) * 4 + 3 = k * 4 + 3 + 4 by omega, show (k + 1) * 4 = k * 4 + 4 by omega]
    rfl
/-- a set stored into a list of one's own -/
def putK (w : World) (q k : Nat) (S : W4) : World := (((w.setCell ⟨q, k * 4, none⟩ (.int .u64 (S.a : Int))).setCell ⟨q, k * 4 + 1, none⟩ (.int .u64 (S.b : Int))).setCell ⟨q, k * 4 + 2, none⟩ (.int .u64 (S.c : Int))).setCell ⟨q, k * 4 + 3, none⟩ (.int .u64 (S.d : Int))
theorem OwnS.put {w : World} {B q c k : Nat} {l : List W4} (S : W4) (h : OwnS w B (.slice (some ⟨q, 0, none⟩) l.length c) l) (hk : k < l.length) : OwnS (putK w q k S) B (.slice (some ⟨q, 0, none⟩) l.length c) (l.set k S) := by
  have h1 := (h.stored (k * 4) (.int .u64 (S.a : Int))).1
  have h2 := (h1.stored (k * 4 + 1) (.int .u64 (S.b : Int))).1
  have h3 := (h2.stored (k * 4 + 2) (.int .u64 (S.c : Int))).1
  have h4 := (h3.stored (k * 4 + 3) (.int .u64 (S.d : Int))).1
  unfold OwnS
  rw [flatB_set l k S hk, List.length_set]
  exact h4
theorem bl_putK {B : Nat} {u w : World} (h : Below B u w) {q : Nat} (k : Nat) (S : W4) (hb : B ≤ q) : Below B u (putK w q k S) := bl_set (bl_set (bl_set (bl_set h _ _ _ hb) _ _ _ hb) _ _ _ hb) _ _ _ hb
theorem putK_block (w : World) (q k b : Nat) (S : W4) (hb : b ≠ q) : (putK w q k S).heap[b]? = w.heap[b]? := by
  unfold putK
  rw [Below.heap_setCell _ _ _ _ (by simpa using hb), Below.heap_setCell _ _ _ _ (by simpa using hb), Below.heap_setCell _ _ _ _ (by simpa using hb), Below.heap_setCell _ _ _ _ (by simpa using hb)]

theorem putK_at {w : World} {q k g j : Nat} {T : W4} (S : W4) (h : At4 w g (j * 4) T) (hne : q = g → j ≠ k) : At4 (putK w q k S) g (j * 4) T := by
  have key : ∀ (u : World) (a b : Nat) (v : Value), a < 4 → b < 4 → (u.setCell ⟨q, k * 4 + a, none⟩ v).cell? ⟨g, j * 4 + b, none⟩ = u.cell? ⟨g, j * 4 + b, none⟩ := fun u a b v ha hb => World.cell?_setCell_other _ _ _ _ (by
    intro e
    injection e with e1 e2
    have := hne e1
    omega)
  refine at4_of fun i hi => ?_
  have h' := h.word i hi
  unfold putK
  rw [key _ 3 i _ (by omega) hi, key _ 2 i _ (by omega) hi, key _ 1 i _ (by omega) hi]
  have := key w 0 i (.int .u64 (S.a : Int)) (by omega) hi
  rw [Nat.add_zero] at this
  rw [this]
  exact h'
theorem At4.blk {w w' : World} {g o : Nat} {T : W4} (h : At4 w g o T) (hb : w'.heap[g]? = w.heap[g]?) : At4 w' g o T := at4_of fun i hi => (World.cell?_of_block (a := ⟨g, o + i, none⟩) hb).trans (h.word i hi)
theorem At4.lt {w : World} {g o : Nat} {T : W4} (h : At4 w g o T) : g < w.heap.size := World.block_lt_of_cell? w _ h.1
theorem bl_stepB {B : Nat} {w u w1 : World} (hB : B ≤ w.heap.size) (h : Below B w u) (hb : Below u.heap.size u w1) : Below B w w1 := h.trans (hb.mono (Nat.le_trans hB h.size))
/-- an own list's sets, each where it lies -/
theorem OwnS.at {w : World} {B q c n : Nat} {l : List W4} (h : OwnS w B (.slice (some ⟨q, 0, none⟩) n c) l) {j : Nat} {T : W4} (hj : l[j]? = some T) : At4 w q (j * 4) T := by
  have hlt : j < l.length := by
    rcases Nat.lt_or_ge j l.length with h' | h'
    · exact h'
    · rw [List.getElem?_eq_none h'] at hj; cases hj
  rw [List.getElem?_eq_getElem hlt] at hj
  injection hj with hj
  refine at4_of fun i hi => ?_
  have := h.cells rfl (j * 4 + i) _ (flatB_at l j i hlt hi)
  rw [Go.WideShapes.add_plain] at this
  rw [← hj]
  simpa using this
theorem OwnS.free {w : World} {B q c n : Nat} {l : List W4} (h : OwnS w B (.slice (some ⟨q, 0, none⟩) n c) l) (hn : n = l.length) (o : Nat) : w.frozen? ⟨q, o, none⟩ = false := by
  subst hn
  exact h.frozenAt o

set_option maxHeartbeats 8000000 in
theorem splitC (v : Value) (l : List W4) (sa sb sc sd : Nat) (w : World) (B : Nat) (hB : B ≤ w.heap.size) (hl0 : 0 < l.length) (hl : l.length ≤ 256) (hf : ∀ P ∈ l, Fit4 P) (hS : Fit4 ⟨sa, sb, sc, sd⟩) (hA : OwnS w B v l) :
    Calls Tryd.prog 30 #[v, valB ⟨sa, sb, sc, sd⟩] w fun e w' => ∃ v', e = .returned v' ∧ OwnS w' B v' (splitL ⟨sa, sb, sc, sd⟩ l) ∧ Below B w w' := by
  obtain ⟨i0, hi, hz0, hz1, hz2⟩ := info_parts Tryd.info25
  have hv0 : v ≠ .slice none 0 0 := by
    intro e
    rcases hA.2 with ⟨_, h0⟩ | ⟨g, cap, cur, rfl, _⟩
    · omega
    · cases e
  obtain ⟨g, cap, rfl, hBg, hglt⟩ : ∃ g cap, v = .slice (some ⟨g, 0, none⟩) l.length cap ∧ B ≤ g ∧ g < w.heap.size := by
    rcases hA.2 with ⟨e, _⟩ | ⟨g, cap, cur, rfl, _⟩
    · exact absurd e hv0
    · exact ⟨g, cap, rfl, (hA.lt g rfl).1, (hA.lt g rfl).2⟩
  have hA0 : Hid (∀ j (hj : j < l.length), At4 w g (j * 4) l[j]) := hid (fun j hj => at4_of fun i hi => by
    have := hA.cells rfl (j * 4 + i) _ (flatB_at l j i hj hi)
    rw [Go.WideShapes.add_plain] at this
    simpa using this)
  have hF := hid hf
  have GA : Hid (∀ P u, Fit4 P → Calls Tryd.prog 14 #[valB P, .agg #[.int .u64 (sa : Int), .int .u64 (sb : Int), .int .u64 (sc : Int), .int .u64 (sd : Int)]] u fun e w' => e = .returned (valB (andB P ⟨sa, sb, sc, sd⟩)) ∧ Below u.heap.size u w') := hid (fun P u hP => andW P ⟨sa, sb, sc, sd⟩ u hP hS)
  have GN : Hid (∀ u, Calls Tryd.prog 16 #[.agg #[.int .u64 (sa : Int), .int .u64 (sb : Int), .int .u64 (sc : Int), .int .u64 (sd : Int)]] u fun e w' => e = .returned (valB (notB ⟨sa, sb, sc, sd⟩)) ∧ Below u.heap.size u w') := hid (fun u => notW ⟨sa, sb, sc, sd⟩ u hS)
  have GC : Hid (∀ P u, Fit4 P → Calls Tryd.prog 14 #[valB P, valB (notB ⟨sa, sb, sc, sd⟩)] u fun e w' => e = .returned (valB (andB P (notB ⟨sa, sb, sc, sd⟩))) ∧ Below u.heap.size u w') := hid (fun P u hP => andW P (notB ⟨sa, sb, sc, sd⟩) u hP (not_fit _))
  have hidle := hid (fun i hi h => splitI_idle ⟨sa, sb, sc, sd⟩ l i hi h)
  have hcut := hid (fun i hi h => splitI_cut ⟨sa, sb, sc, sd⟩ l i hi h)
  have hlen := hid (fun i hi => splitI_len ⟨sa, sb, sc, sd⟩ l i hi)
  have hmore := hid (fun i hi => splitI_more ⟨sa, sb, sc, sd⟩ l i hi)
  have hend := hid (fun i hi => splitI_end ⟨sa, sb, sc, sd⟩ l i hi)
  have hzero := hid (splitI_zero ⟨sa, sb, sc, sd⟩ l)
  have hxat := hid (fun i j hi hj => splitI_at ⟨sa, sb, sc, sd⟩ l i j hi hj)
  obtain ⟨X, hX⟩ : ∃ X : Nat → List W4, Hid (X = splitI ⟨sa, sb, sc, sd⟩ l) := ⟨_, hid rfl⟩
  rw [← hX.out] at hidle hcut hlen hmore hend hzero hxat
  generalize splitL ⟨sa, sb, sc, sd⟩ l = R at hend ⊢
  have hAz : OwnS w B (.slice (some ⟨g, 0, none⟩) (X 0).length cap) (X 0) := by rw [hzero.out]; exact hA
  have hAz := hid hAz
  have hl00 : (X 0).length = l.length := by rw [hzero.out]
  have hbd0 : Below w.heap.size w ((w.alloc (.cells #[.int .u64 (sa : Int), .int .u64 (sb : Int), .int .u64 (sc : Int), .int .u64 (sd : Int)] 25)).alloc (.cells #[.int .u64 0, .int .u64 0, .int .u64 0, .int .u64 0] 25)) := bl_step (al' w _) (al' _ _)
  clear hX hv0 hA hf hS hzero
  go_enter Tryd.func30, Tryd.ntmps30
  go_wp2
  go_loopw [0, 11] (fun o i wr => ∃ k q c : Nat, k ≤ l.length ∧ i = .int .i64 k ∧ o = .slice (some ⟨q, 0, none⟩) (X k).length c ∧ Hid (OwnS wr B (.slice (some ⟨q, 0, none⟩) (X k).length c) (X k)) ∧ (q = g ∨ w.heap.size + 2 ≤ q) ∧ Hid (∀ j (hj : j < l.length), k ≤ j → At4 wr g (j * 4) l[j]) ∧ Hid (Blk wr w.heap.size ⟨sa, sb, sc, sd⟩) ∧ Hid (Blk wr (w.heap.size + 1) noneB) ∧ Below B w wr) (fun _ i _ => l.length - (intOf i).toNat)
  case atStart => exact ⟨0, g, cap, Nat.zero_le _, rfl, by rw [hl00], hid (own_below hAz.out hbd0), Or.inl rfl, hid (fun j hj _ => (hA0.out j hj).keep hbd0), hid (two_blocks w _ _).1, hid (two_blocks w _ _).2, hbd0.mono hB⟩
  case round =>
    obtain ⟨k, q, c, hk, rfl, rfl, hO, hq, hat, bS, bZ, hbl⟩ := hrel
    by_cases hlt : k < l.length
    · have hltz : (k : Int) < (l.length : Int) := by omega
      have hPf := hid (hF.out _ (List.getElem_mem hlt))
      obtain ⟨d0, d1, d2, d3⟩ := hat.out k hlt (Nat.le_refl _)
      have hid1 := hid (hidle.out k hlt)
      have hcut1 := hid (hcut.out k hlt)
      generalize l[k] = P at hPf d0 d1 d2 d3 hid1 hcut1
      have GA0 := hid (fun u => GA.out P u hPf.out)
      have GC0 := hid (fun u => GC.out P u hPf.out)
      unfold idleC at hid1 hcut1
      generalize andB P ⟨sa, sb, sc, sd⟩ = I at GA0 hid1 hcut1
      generalize andB P (notB ⟨sa, sb, sc, sd⟩) = J at GC0 hcut1
      generalize notB ⟨sa, sb, sc, sd⟩ = N at GN GC GC0 hcut
      obtain ⟨pa, pb, pc, pd⟩ := P
      obtain ⟨ia, ib, ic, ie⟩ := I
      obtain ⟨ja, jb, jc, jd⟩ := J
      obtain ⟨na, nb, nc, nd⟩ := N
      simp only at d0 d1 d2 d3
      have hal := al' wr (.cells #[.int .u64 (pa : Int), .int .u64 (pb : Int), .int .u64 (pc : Int), .int .u64 (pd : Int)] 25)
      have bP1 : Hid (Blk (wr.alloc (.cells #[.int .u64 (pa : Int), .int .u64 (pb : Int), .int .u64 (pc : Int), .int .u64 (pd : Int)] 25)) wr.heap.size ⟨pa, pb, pc, pd⟩) := hid (heap_new wr _)
      have bS1 := hid (bS.out.keep hal)
      have bZ1 := hid (bZ.out.keep hal)
      have hO1 := hid (own_below hO.out hal)
      have hat1 := hid (fun j hj hkj => (hat.out j hj hkj).keep hal)
      have hbl1 := bl_stepB hB hbl hal
      have hqlt := (hO.out.lt q rfl).2
      have hqB := (hO.out.lt q rfl).1
      obtain ⟨e0, e1, e2, e3, e4, e5, e6, e7⟩ := bS1.out.cells
      have hgt := Tryd.eqGuardType25
      by_cases c1 : (⟨ia, ib, ic, ie⟩ : W4) = noneB
      · have hstep : X (k + 1) = X k := hid1.out (by rw [decide_eq_true c1]; rfl)
        have he : ∀ u, (Op.equalIn 10000 25 (.agg #[.int .u64 (ia : Int), .int .u64 (ib : Int), .int .u64 (ic : Int), .int .u64 (ie : Int)]) (.agg #[.int .u64 0, .int .u64 0, .int .u64 0, .int .u64 0])).run Tryd.prog u = .ok true u := fun u => (equal4 9998 ia ib ic ie 0 0 0 0 u).trans (by rw [decide_eq_true (show (⟨ia, ib, ic, ie⟩ : W4) = ⟨0, 0, 0, 0⟩ from c1)])
        have hstep := hid hstep
        clear c1 hid1 hcut1 hcut hidle GC0 GC
        go_wp2_with (go_at_call 14; refine (GA0.out _).mono ?_; rintro e w1 ⟨rfl, hb1⟩; have bP2 := hid ((bP1.out.keep hb1).keep (al' w1 (.cells #[.int .u64 (ia : Int), .int .u64 (ib : Int), .int .u64 (ic : Int), .int .u64 (ie : Int)] 25))); have bS2 := hid ((bS1.out.keep hb1).keep (al' w1 (.cells #[.int .u64 (ia : Int), .int .u64 (ib : Int), .int .u64 (ic : Int), .int .u64 (ie : Int)] 25))); have bZ2 := hid ((bZ1.out.keep hb1).keep (al' w1 (.cells #[.int .u64 (ia : Int), .int .u64 (ib : Int), .int .u64 (ic : Int), .int .u64 (ie : Int)] 25))); obtain ⟨f0, f1, f2, f3, f4, f5, f6, f7⟩ := bP2.out.cells; obtain ⟨z0, z1, z2, z3, z4, z5, z6, z7⟩ := Blk.cells (sa := 0) (sb := 0) (sc := 0) (sd := 0) bZ2.out)
        have hal2 := al' w1 (.cells #[.int .u64 (ia : Int), .int .u64 (ib : Int), .int .u64 (ic : Int), .int .u64 (ie : Int)] 25)
        exact ⟨⟨k + 1, q, c, by omega, by go_num, by rw [hstep.out], by rw [hstep.out]; exact hid (own_below (own_below hO1.out hb1) hal2), hq, hid (fun j hj hkj => ((hat1.out j hj (by omega)).keep hb1).keep hal2), bS2, bZ2, bl_stepB hB (bl_stepB hB hbl1 hb1) hal2⟩, by simp [intOf]; omega⟩
      · have he : ∀ u, (Op.equalIn 10000 25 (.agg #[.int .u64 (ia : Int), .int .u64 (ib : Int), .int .u64 (ic : Int), .int .u64 (ie : Int)]) (.agg #[.int .u64 0, .int .u64 0, .int .u64 0, .int .u64 0])).run Tryd.prog u = .ok false u := fun u => (equal4 9998 ia ib ic ie 0 0 0 0 u).trans (by rw [decide_eq_false (show ¬ (⟨ia, ib, ic, ie⟩ : W4) = ⟨0, 0, 0, 0⟩ from c1)])
        by_cases c2 : (⟨ia, ib, ic, ie⟩ : W4) = ⟨pa, pb, pc, pd⟩
        · have hstep : X (k + 1) = X k := hid1.out (by rw [decide_eq_true c2, Bool.or_true])
          have he2 : ∀ u, (Op.equalIn 10000 25 (.agg #[.int .u64 (ia : Int), .int .u64 (ib : Int), .int .u64 (ic : Int), .int .u64 (ie : Int)]) (.agg #[.int .u64 (pa : Int), .int .u64 (pb : Int), .int .u64 (pc : Int), .int .u64 (pd : Int)])).run Tryd.prog u = .ok true u := fun u => (equal4 9998 ia ib ic ie pa pb pc pd u).trans (by rw [decide_eq_true c2])
          have hstep := hid hstep
          clear c1 c2 hid1 hcut1 hcut hidle GC0 GC
          go_wp2_with (go_at_call 14; refine (GA0.out _).mono ?_; rintro e w1 ⟨rfl, hb1⟩; have bP2 := hid ((bP1.out.keep hb1).keep (al' w1 (.cells #[.int .u64 (ia : Int), .int .u64 (ib : Int), .int .u64 (ic : Int), .int .u64 (ie : Int)] 25))); have bS2 := hid ((bS1.out.keep hb1).keep (al' w1 (.cells #[.int .u64 (ia : Int), .int .u64 (ib : Int), .int .u64 (ic : Int), .int .u64 (ie : Int)] 25))); have bZ2 := hid ((bZ1.out.keep hb1).keep (al' w1 (.cells #[.int .u64 (ia : Int), .int .u64 (ib : Int), .int .u64 (ic : Int), .int .u64 (ie : Int)] 25))); obtain ⟨f0, f1, f2, f3, f4, f5, f6, f7⟩ := bP2.out.cells; obtain ⟨z0, z1, z2, z3, z4, z5, z6, z7⟩ := Blk.cells (sa := 0) (sb := 0) (sc := 0) (sd := 0) bZ2.out)
          have hal2 := al' w1 (.cells #[.int .u64 (ia : Int), .int .u64 (ib : Int), .int .u64 (ic : Int), .int .u64 (ie : Int)] 25)
          exact ⟨⟨k + 1, q, c, by omega, by go_num, by rw [hstep.out], by rw [hstep.out]; exact hid (own_below (own_below hO1.out hb1) hal2), hq, hid (fun j hj hkj => ((hat1.out j hj (by omega)).keep hb1).keep hal2), bS2, bZ2, bl_stepB hB (bl_stepB hB hbl1 hb1) hal2⟩, by simp [intOf]; omega⟩
        · have hstep : X (k + 1) = (X k).set k ⟨ia, ib, ic, ie⟩ ++ [⟨ja, jb, jc, jd⟩] := hcut1.out (by rw [decide_eq_false c1, decide_eq_false c2]; rfl)
          have he2 : ∀ u, (Op.equalIn 10000 25 (.agg #[.int .u64 (ia : Int), .int .u64 (ib : Int), .int .u64 (ic : Int), .int .u64 (ie : Int)]) (.agg #[.int .u64 (pa : Int), .int .u64 (pb : Int), .int .u64 (pc : Int), .int .u64 (pd : Int)])).run Tryd.prog u = .ok false u := fun u => (equal4 9998 ia ib ic ie pa pb pc pd u).trans (by rw [decide_eq_false c2])
          have hstep := hid hstep
          have hXk := hlen.out k hk
          have hXm := hmore.out k hk
          have hkX : (k : Int) < ((X k).length : Int) := by omega
          have hxk := hid (hxat.out k k (Nat.le_refl _) hlt)
          clear c1 c2 hid1 hcut1 hcut hidle GC
          go_wp2_with (go_at_call 14; refine (GA0.out _).mono ?_; rintro e w1 ⟨rfl, hb1⟩; have bP2 := hid ((bP1.out.keep hb1).keep (al' w1 (.cells #[.int .u64 (ia : Int), .int .u64 (ib : Int), .int .u64 (ic : Int), .int .u64 (ie : Int)] 25))); have bS2 := hid ((bS1.out.keep hb1).keep (al' w1 (.cells #[.int .u64 (ia : Int), .int .u64 (ib : Int), .int .u64 (ic : Int), .int .u64 (ie : Int)] 25))); have bZ2 := hid ((bZ1.out.keep hb1).keep (al' w1 (.cells #[.int .u64 (ia : Int), .int .u64 (ib : Int), .int .u64 (ic : Int), .int .u64 (ie : Int)] 25))); obtain ⟨f0, f1, f2, f3, f4, f5, f6, f7⟩ := bP2.out.cells; obtain ⟨z0, z1, z2, z3, z4, z5, z6, z7⟩ := Blk.cells (sa := 0) (sb := 0) (sc := 0) (sd := 0) bZ2.out; have hO2 := hid (own_below (own_below hO1.out hb1) (al' w1 (.cells #[.int .u64 (ia : Int), .int .u64 (ib : Int), .int .u64 (ic : Int), .int .u64 (ie : Int)] 25))); obtain ⟨t0, t1, t2, t3⟩ := OwnS.at (l := X k) hO2.out hxk.out; have t4 := OwnS.free (l := X k) hO2.out rfl (k * 4); have t5 := OwnS.free (l := X k) hO2.out rfl (k * 4 + 1); have t6 := OwnS.free (l := X k) hO2.out rfl (k * 4 + 2); have t7 := OwnS.free (l := X k) hO2.out rfl (k * 4 + 3))
          have hqS : w.heap.size ≠ q := by rcases hq with h | h <;> omega
          have hqZ : w.heap.size + 1 ≠ q := by rcases hq with h | h <;> omega
          have hqP : wr.heap.size ≠ q := by omega
          have bP3 : Blk (putK (w1.alloc (.cells #[.int .u64 (ia : Int), .int .u64 (ib : Int), .int .u64 (ic : Int), .int .u64 (ie : Int)] 25)) q k ⟨ia, ib, ic, ie⟩) wr.heap.size ⟨pa, pb, pc, pd⟩ := (putK_block (w1.alloc (.cells #[.int .u64 (ia : Int), .int .u64 (ib : Int), .int .u64 (ic : Int), .int .u64 (ie : Int)] 25)) q k _ ⟨ia, ib, ic, ie⟩ hqP).trans bP2.out
          have bS3 : Blk (putK (w1.alloc (.cells #[.int .u64 (ia : Int), .int .u64 (ib : Int), .int .u64 (ic : Int), .int .u64 (ie : Int)] 25)) q k ⟨ia, ib, ic, ie⟩) w.heap.size ⟨sa, sb, sc, sd⟩ := (putK_block (w1.alloc (.cells #[.int .u64 (ia : Int), .int .u64 (ib : Int), .int .u64 (ic : Int), .int .u64 (ie : Int)] 25)) q k _ ⟨ia, ib, ic, ie⟩ hqS).trans bS2.out
          have bZ3 : Blk (putK (w1.alloc (.cells #[.int .u64 (ia : Int), .int .u64 (ib : Int), .int .u64 (ic : Int), .int .u64 (ie : Int)] 25)) q k ⟨ia, ib, ic, ie⟩) (w.heap.size + 1) noneB := (putK_block (w1.alloc (.cells #[.int .u64 (ia : Int), .int .u64 (ib : Int), .int .u64 (ic : Int), .int .u64 (ie : Int)] 25)) q k _ ⟨ia, ib, ic, ie⟩ hqZ).trans bZ2.out
          have hO3 : (putK (w1.alloc (.cells #[.int .u64 (ia : Int), .int .u64 (ib : Int), .int .u64 (ic : Int), .int .u64 (ie : Int)] 25)) q k ⟨ia, ib, ic, ie⟩).ownsRow B 25 4 (.slice (some ⟨q, 0, none⟩) (X k).length c) (X k).length (flatB ((X k).set k ⟨ia, ib, ic, ie⟩)) := by
            have h := OwnS.put (l := X k) (k := k) ⟨ia, ib, ic, ie⟩ hO2.out (by omega)
            unfold OwnS at h
            rw [List.length_set] at h
            exact h
          have hat3 : ∀ j (hj : j < l.length), k + 1 ≤ j → At4 (putK (w1.alloc (.cells #[.int .u64 (ia : Int), .int .u64 (ib : Int), .int .u64 (ic : Int), .int .u64 (ie : Int)] 25)) q k ⟨ia, ib, ic, ie⟩) g (j * 4) l[j] := fun j hj hkj => putK_at ⟨ia, ib, ic, ie⟩ (((hat1.out j hj (by omega)).keep hb1).keep (al' w1 (.cells #[.int .u64 (ia : Int), .int .u64 (ib : Int), .int .u64 (ic : Int), .int .u64 (ie : Int)] 25))) (fun _ => by omega)
          have hbl3 : Below B w (putK (w1.alloc (.cells #[.int .u64 (ia : Int), .int .u64 (ib : Int), .int .u64 (ic : Int), .int .u64 (ie : Int)] 25)) q k ⟨ia, ib, ic, ie⟩) := bl_putK (bl_stepB hB (bl_stepB hB hbl1 hb1) (al' w1 (.cells #[.int .u64 (ia : Int), .int .u64 (ib : Int), .int .u64 (ic : Int), .int .u64 (ie : Int)] 25))) k ⟨ia, ib, ic, ie⟩ hqB
          clear bP2 bS2 bZ2 hO2 hat1 hbl1 hb1 f0 f1 f2 f3 f4 f5 f6 f7 z0 z1 z2 z3 z4 z5 z6 z7 t0 t1 t2 t3 t4 t5 t6 t7 d0 d1 d2 d3 e0 e1 e2 e3 e4 e5 e6 e7 bP1 bS1 bZ1 hO1 hat bS bZ hbl hO hal
          change Code.wp _ _ _ _ (putK (w1.alloc (.cells #[.int .u64 (ia : Int), .int .u64 (ib : Int), .int .u64 (ic : Int), .int .u64 (ie : Int)] 25)) q k ⟨ia, ib, ic, ie⟩)
          generalize (putK (w1.alloc (.cells #[.int .u64 (ia : Int), .int .u64 (ib : Int), .int .u64 (ic : Int), .int .u64 (ie : Int)] 25)) q k ⟨ia, ib, ic, ie⟩) = w3 at bP3 bS3 bZ3 hO3 hat3 hbl3 ⊢
          have hbd : Below w3.heap.size w3 w3.drew := (Below.refl _ _).drew
          have bP4 := hid (bP3.keep hbd)
          have bS4 := hid (bS3.keep hbd)
          have bZ4 := hid (bZ3.keep hbd)
          have hO4 := hid (own_below hO3 hbd)
          have hat4 := hid (fun j hj hkj => (hat3 j hj hkj).keep hbd)
          have hbl4 := bl_stepB hB hbl3 hbd
          clear bP3 bS3 bZ3 hO3 hat3 hbl3
          obtain ⟨f0, f1, f2, f3, f4, f5, f6, f7⟩ := bP4.out.cells
          obtain ⟨e0, e1, e2, e3, e4, e5, e6, e7⟩ := bS4.out.cells
          go_region_law ((first
            | (refine step_append_seen (by rfl) (.tmp 31) (.tmp 36) 36 (by rfl) B 25 i0 (.agg #[.int .u64 0, .int .u64 0, .int .u64 0, .int .u64 0]) 4 32 Tryd.underlying36 hi hz0 hz1 hz2 rfl (by decide) q (X k).length c (flatB ((X k).set k ⟨ia, ib, ic, ie⟩)) (by rfl) (own_below hO6.out (al' w6 (.cells #[.int .u64 (ja : Int), .int .u64 (jb : Int), .int .u64 (jc : Int), .int .u64 (jd : Int)] 25))) ⟨w6.heap.size, 0, none⟩ 1 1 [.int .u64 (ja : Int), .int .u64 (jb : Int), .int .u64 (jc : Int), .int .u64 (jd : Int)] (by rfl) (by rfl) (news4 w6 ja jb jc jd) (by (intro u hu; simp at hu; rcases hu with rfl | rfl | rfl | rfl <;> rfl)) (by omega) (by (unfold maxLen; omega)) (by omega) (Nat.le_trans hB (bl_stepB hB hbl6 (al' w6 (.cells #[.int .u64 (ja : Int), .int .u64 (jb : Int), .int .u64 (jc : Int), .int .u64 (jd : Int)] 25))).size) ?_; intro q' c' w7 hO7 hg7 hc7)
            | (refine step_call (by rfl) 16 #[.agg #[.int .u64 (sa : Int), .int .u64 (sb : Int), .int .u64 (sc : Int), .int .u64 (sd : Int)]] (by go_simp) (GN.out _) ?_; rintro e w5 ⟨rfl, hb5⟩; refine ⟨_, rfl, ?_⟩; have bP5 := hid (bP4.out.keep hb5); have bS5 := hid (bS4.out.keep hb5); have bZ5 := hid (bZ4.out.keep hb5); have hO5 := hid (own_below hO4.out hb5); have hat5 := hid (fun j hj hkj => (hat4.out j hj hkj).keep hb5); have hbl5 := bl_stepB hB hbl4 hb5; obtain ⟨g0, g1, g2, g3, g4, g5, g6, g7⟩ := bP5.out.cells)
            | (refine step_call (by rfl) 14 #[.agg #[.int .u64 (pa : Int), .int .u64 (pb : Int), .int .u64 (pc : Int), .int .u64 (pd : Int)], .agg #[.int .u64 (na : Int), .int .u64 (nb : Int), .int .u64 (nc : Int), .int .u64 (nd : Int)]] (by go_simp) (GC0.out _) ?_; rintro e w6 ⟨rfl, hb6⟩; refine ⟨_, rfl, ?_⟩; have bS6 := hid (bS5.out.keep hb6); have bZ6 := hid (bZ5.out.keep hb6); have hO6 := hid (own_below hO5.out hb6); have hat6 := hid (fun j hj hkj => (hat5.out j hj hkj).keep hb6); have hbl6 := bl_stepB hB hbl5 hb6)))
          all_goals
            go_wp2
            have hX1 : (X (k + 1)).length = (X k).length + 1 := by rw [hstep.out]; simp
            have hO8 : OwnS w7 B (.slice (some ⟨q', 0, none⟩) (X (k + 1)).length c') (X (k + 1)) := by
              unfold OwnS
              rw [hX1, hstep.out, flatB_app]
              exact hO7
            have halJ := al' w6 (.cells #[.int .u64 (ja : Int), .int .u64 (jb : Int), .int .u64 (jc : Int), .int .u64 (jd : Int)] 25)
            have bS7 := bS6.out.keep halJ
            have bZ7 := bZ6.out.keep halJ
            have hat7 := fun j hj hkj => (hat6.out j hj hkj).keep halJ
            have hbl7 := bl_stepB hB hbl6 halJ
            have hgl : g < (w6.alloc (.cells #[.int .u64 (ja : Int), .int .u64 (jb : Int), .int .u64 (jc : Int), .int .u64 (jd : Int)] 25)).heap.size := by have := hbl7.size; omega
            exact ⟨⟨k + 1, q', c', by omega, by go_num, by rw [hX1], hid hO8, by
                rcases hc7 with e | ⟨e, _⟩
                · rw [e]; exact hq
                · right; rw [e]; have := bZ7.lt; omega, hid (fun j hj hkj => by
                by_cases hqg : q = g
                · rcases hc7 with e | ⟨e, hblk⟩
                  · have h := OwnS.at (l := X (k + 1)) hO8 (hxat.out (k + 1) j hkj hj)
                    rw [e, hqg] at h
                    exact h
                  · exact (hat7 j hj hkj).blk (by rw [← hqg]; exact hblk)
                · exact (hat7 j hj hkj).blk (hg7.block g hgl (fun e => by injection e with e; exact hqg e.symm))), hid ((hg7.block _ bS7.lt (fun e => by injection e with e; exact hqS e)).trans bS7), hid ((hg7.block _ bZ7.lt (fun e => by injection e with e; exact hqZ e)).trans bZ7), hbl7.grown hg7 (Nat.le_trans hB hbl7.size) (fun k' hk' => by injection hk' with hk'; omega)⟩, by simp [intOf]; omega⟩
    · have hltz : ¬ (k : Int) < (l.length : Int) := by omega
      have hR := hid (hend.out k (by omega))
      go_wp2
      go_ret
      exact ⟨_, rfl, by rw [← hR.out]; exact hO.out, hbl⟩

end Go.Proofs.YtpkndedppfdekaaDoor
