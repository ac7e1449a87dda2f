/- The reader: alternative. The reader: alternative. How much the reader may still put down: a number that never grows. The reader: nonterminal. -/
import Derived.Test.YtcledgljbmepaaaGreatDoorJ19
namespace Go.Proofs.YtcledgljbmepaaaGreatDoor
open Go.RowKit Go.Maps Go.Sort

theorem RS.full_ws (st : RS) (b : Bool) (p : Nat) : (st.full b p).ws = st.ws := by
  unfold RS.full
  split
  · exact RS.give_ws _ _ _
  · rfl
theorem RS.hd_of {a b : RS} (h : a.ws = b.ws) : a.hd = b.hd := by unfold RS.hd; rw [h]
theorem RS.atN_of {a b : RS} (h : a.ws = b.ws) : a.atN = b.atN := by unfold RS.atN; rw [RS.hd_of h]
theorem symb_ws {st : RS} {b : Bool} {p pr : Nat} (h : st.atN = true) : ((st.full b p).symb pr).ws = st.ws.tail := by
  have e := RS.full_ws st b p
  show (st.full b p).tkN.ws = _
  rw [RS.tkN_ws (by rw [RS.atN_of e]; exact h), e]
theorem syms_yes {pr n : Nat} {st : RS} (h : st.atN = true) (hn : st.ws ≠ []) : RS.syms pr st.ws.length n st = RS.syms pr ((st.full (decide (n = 8)) st.hd.2.1).symb pr).ws.length (n + 1) ((st.full (decide (n = 8)) st.hd.2.1).symb pr) := by
  rw [symb_ws h]
  cases hw : st.ws with
  | nil => exact absurd hw hn
  | cons x l => rw [List.length_cons, RS.syms, h, if_pos rfl]; rfl
theorem syms_no {pr n : Nat} {st : RS} (h : st.atN = false) : RS.syms pr st.ws.length n st = st := by
  cases st.ws.length with
  | zero => rfl
  | succ m => rw [RS.syms, h]; rfl
theorem symb_later (st : RS) (pr : Nat) : (st.symb pr).later.length = st.later.length + 1 := by show (st.tkN.later ++ [_]).length = _; rw [RS.tkN_later, List.length_append]; rfl
set_option maxRecDepth 20000 in
/-- behind the names of an alternative -/
theorem pctC {B rb : Nat} {T T1 : Nat → Nat} {w u : World} {X1 : RX} {st : RS} (h : RdV B T1 u rb X1 st) (hc : Chg T T1 w u) (hb : st.later.length ≤ 99000) (pr : Nat) :
    (Calls Tryz.prog 80 #[ptr0 rb, .string ⟨#[37]⟩] u fun r v => r = .returned (.bool (st.atS [37])) ∧ Below u.heap.size u v) ∧
    (st.atS [37] = true → ∀ v, Below u.heap.size u v → Calls Tryz.prog 68 #[ptr0 rb, .string ⟨#[37]⟩] v fun r v2 => r = .returned (.tuple #[]) ∧ Calls Tryz.prog 98 #[ptr0 rb, .int .i64 (pr : Int)] v2 fun r w' => r = .returned (.tuple #[]) ∧ RdP B T w rb (st.pct pr) w') ∧
    (st.atS [37] = false → ∀ v, Below u.heap.size u v → RdP B T w rb (st.pct pr) v) := by
  refine ⟨atSC h [37], fun ha v hv => (tkSC (h.keep hv) [37]).mono ?_, fun ha v hv => ?_⟩
  · rintro r v2 ⟨e, wv, hM⟩
    refine ⟨e, (precC hM.rd pr (by rw [(SameL.tkS st [37]).later]; omega)).mono ?_⟩
    rintro r w' ⟨e', T', X', hr', hc'⟩
    have e9 : st.pct pr = (st.tkS [37]).prec pr := by unfold RS.pct; rw [ha]; rfl
    rw [e9]
    exact ⟨e', T', X', hr', ((hc.trans (Chg.of_below hv)).trans hM.chg).trans hc'⟩
  · have e9 : st.pct pr = st := by unfold RS.pct; rw [ha]; rfl
    rw [e9]
    exact ⟨T1, X1, h.keep hv, hc.trans (Chg.of_below hv)⟩
set_option maxRecDepth 20000 in
/-- one more symbol -/
theorem symC {B rb n : Nat} {T T1 : Nat → Nat} {w u : World} {X1 : RX} {st : RS} (h : RdV B T1 u rb X1 st) (hc : Chg T T1 w u) (hb : st.later.length ≤ 99000) (pr : Nat) :
    (n = 8 → ∀ v, Below u.heap.size u v → Calls Tryz.prog 22 #[ptr0 rb, .int .i64 (st.hd.2.1 : Int), .int .i64 3] v fun r v2 => r = .returned (.tuple #[]) ∧ Calls Tryz.prog 97 #[ptr0 rb, .int .i64 (pr : Int)] v2 fun r w' => r = .returned (.tuple #[]) ∧ RdP B T w rb ((st.full (decide (n = 8)) st.hd.2.1).symb pr) w') ∧
    (¬ n = 8 → ∀ v, Below u.heap.size u v → Calls Tryz.prog 97 #[ptr0 rb, .int .i64 (pr : Int)] v fun r w' => r = .returned (.tuple #[]) ∧ RdP B T w rb ((st.full (decide (n = 8)) st.hd.2.1).symb pr) w') := by
  refine ⟨fun ha v hv => (giveC (h.keep hv) st.hd.2.1 3 (by decide)).mono ?_, fun ha v hv => (symbC (h.keep hv) pr (by omega)).mono ?_⟩
  · rintro r v2 ⟨e, hM⟩
    have e9 : st.full (decide (n = 8)) st.hd.2.1 = st.give st.hd.2.1 3 := by unfold RS.full; rw [decide_eq_true ha]; rfl
    rw [e9]
    refine ⟨e, (symbC hM.rd pr (by rw [(SameL.give st st.hd.2.1 (e := 3) (by decide)).later]; omega)).mono ?_⟩
    rintro r w' ⟨e', T', X', hr', hc'⟩
    exact ⟨e', T', X', hr', ((hc.trans (Chg.of_below hv)).trans hM.chg).trans hc'⟩
  · rintro r w' ⟨e', T', X', hr', hc'⟩
    have e9 : st.full (decide (n = 8)) st.hd.2.1 = st := by unfold RS.full; rw [decide_eq_false ha]; rfl
    rw [e9]
    exact ⟨e', T', X', hr', (hc.trans (Chg.of_below hv)).trans hc'⟩
set_option maxRecDepth 20000 in
/-- one more production -/
theorem altApp {B rb : Nat} {T T1 : Nat → Nat} {w u : World} {X1 : RX} {st : RS} (h : RdV B T1 u rb X1 st) (hc : Chg T T1 w u) (hn : st.prods.length ≤ 99000) :
    ∃ na nc A C w6, (u.drew.cell? ⟨rb, 4, none⟩ = some X1.pv ∧ u.drew.cell? ⟨rb, 2, none⟩ = some (.slice na st.nonts.length nc)) ∧ ((u.alloc (.cells #[.int .i64 (st.nonts.length : Int), .slice none 0 0, .int .i64 0] 39)).drew.cell? ⟨rb, 4, none⟩ = some X1.pv ∧ (u.alloc (.cells #[.int .i64 (st.nonts.length : Int), .slice none 0 0, .int .i64 0] 39)).drew.cell? ⟨rb, 2, none⟩ = some (.slice na st.nonts.length nc)) ∧
      (Builtin.append_ #[26, 26] 26 #[X1.pv, .slice (some ⟨u.heap.size, 0, none⟩) 1 1]).run Tryz.prog (u.alloc (.cells #[.int .i64 (st.nonts.length : Int), .slice none 0 0, .int .i64 0] 39)).drew = .ok (.slice A (st.prods.length + 1) C) w6 ∧ w6.cell? ⟨rb, 4, none⟩ = some X1.pv ∧ w6.frozen? ⟨rb, 4, none⟩ = false ∧
      ∃ T' X', RdV B T' (w6.setCell ⟨rb, 4, none⟩ (.slice A (st.prods.length + 1) C)) rb X' st.addP ∧ Chg T T' w (w6.setCell ⟨rb, 4, none⟩ (.slice A (st.prods.length + 1) C)) := by
  have hbd : Below u.heap.size u u.drew := (Below.refl _ u).drew
  have hrd := h.keep hbd
  have c1 := hc.trans (Chg.of_below (T := T1) hbd)
  obtain ⟨A, C, w6, hrun, hbk, T', X', hR, hC⟩ := hrd.app_prods trivial (by omega)
  obtain ⟨na, nc, hnv⟩ := own_shape h.nonts.1
  have hbl := hrd.blk
  have hb6 := hbk.trans hbl
  have hba : Below u.drew.heap.size u.drew (u.alloc (.cells #[.int .i64 (st.nonts.length : Int), .slice none 0 0, .int .i64 0] 39)).drew := al' u.drew _
  have d1 : u.drew.cell? ⟨rb, 4, none⟩ = some X1.pv := blk_cell hbl rfl
  have d2 : u.drew.cell? ⟨rb, 2, none⟩ = some (.slice na st.nonts.length nc) := by rw [← hnv]; exact blk_cell hbl rfl
  exact ⟨na, nc, A, C, w6, ⟨d1, d2⟩, ⟨keep_cell hba d1, keep_cell hba d2⟩, hrun, blk_cell hb6 rfl, blk_frozen hb6 4, T', X', hR, c1.trans hC⟩

end Go.Proofs.YtcledgljbmepaaaGreatDoor
namespace Go.Proofs.YtcledgljbmepaaaGreatDoor
open Go.RowKit Go.Maps Go.Sort

set_option maxRecDepth 20000 in
set_option maxHeartbeats 16000000 in
theorem altC {B rb : Nat} {T : Nat → Nat} {w : World} {X : RX} {st : RS} (h : RdV B T w rb X st) (b1 : st.prods.length ≤ 99000) (b2 : st.later.length + st.ws.length ≤ 98000) :
    Calls Tryz.prog 79 #[ptr0 rb] w fun r w' => r = .returned (.tuple #[]) ∧ RdP B T w rb st.alt w' := by
  obtain ⟨pa, pc, hpv⟩ := own_shape h.prods.1
  have GI := hid (inAC h)
  have c4 : w.cell? ⟨rb, 4, none⟩ = some (.slice pa st.prods.length pc) := by rw [← hpv]; exact blk_cell h.blk rfl
  obtain ⟨b, o, n, cap, ⟨c0, k, p, t, le, l1, l2⟩, -, -⟩ := h.ahd
  have HU : Hid (∀ u, Below w.heap.size w u → u.cell? ⟨rb, 4, none⟩ = some (.slice pa st.prods.length pc) ∧ u.cell? ⟨rb, 0, none⟩ = some (.slice (some ⟨b, o, none⟩) (n + 1) cap) ∧ u.cell? ⟨b, o + 1, none⟩ = some (.int .i64 (st.hd.2.1 : Int))) := hid (fun u hu => ⟨keep_cell hu c4, keep_cell hu c0, keep_cell hu p⟩)
  have HA : Hid (∀ u wv, Mov B T w rb X (st.full (decide (st.prods.length = 40) && st.inA) st.hd.2.1) u wv → u.cell? ⟨rb, 4, none⟩ = some (.slice pa st.prods.length pc) ∧ ∃ na nc A C w6, (u.drew.cell? ⟨rb, 4, none⟩ = some (.slice pa st.prods.length pc) ∧ u.drew.cell? ⟨rb, 2, none⟩ = some (.slice na st.nonts.length nc)) ∧ ((u.alloc (.cells #[.int .i64 (st.nonts.length : Int), .slice none 0 0, .int .i64 0] 39)).drew.cell? ⟨rb, 4, none⟩ = some (.slice pa st.prods.length pc) ∧ (u.alloc (.cells #[.int .i64 (st.nonts.length : Int), .slice none 0 0, .int .i64 0] 39)).drew.cell? ⟨rb, 2, none⟩ = some (.slice na st.nonts.length nc)) ∧
      (Builtin.append_ #[26, 26] 26 #[.slice pa st.prods.length pc, .slice (some ⟨u.heap.size, 0, none⟩) 1 1]).run Tryz.prog (u.alloc (.cells #[.int .i64 (st.nonts.length : Int), .slice none 0 0, .int .i64 0] 39)).drew = .ok (.slice A (st.prods.length + 1) C) w6 ∧ w6.cell? ⟨rb, 4, none⟩ = some (.slice pa st.prods.length pc) ∧ w6.frozen? ⟨rb, 4, none⟩ = false ∧
      ∃ T' X', RdV B T' (w6.setCell ⟨rb, 4, none⟩ (.slice A (st.prods.length + 1) C)) rb X' st.alt1 ∧ Chg T T' w (w6.setCell ⟨rb, 4, none⟩ (.slice A (st.prods.length + 1) C))) := hid (fun u wv hM => by
    have sm := SameL.full st (decide (st.prods.length = 40) && st.inA) st.hd.2.1
    have h9 := altApp hM.rd hM.chg (by rw [sm.prods]; exact b1)
    rw [sm.prods, sm.nonts] at h9
    have e9 : ({ X with wv := wv } : RX).pv = .slice pa st.prods.length pc := hpv
    rw [e9] at h9
    refine ⟨?_, h9⟩
    rw [← hpv]
    exact blk_cell hM.rd.blk rfl)
  have HG : Hid (st.prods.length = 40 → st.inA = true → ∀ u, Below w.heap.size w u → Calls Tryz.prog 22 #[ptr0 rb, .int .i64 (st.hd.2.1 : Int), .int .i64 3] u fun r w' => r = .returned (.tuple #[]) ∧ Mov B T w rb X (st.full (decide (st.prods.length = 40) && st.inA) st.hd.2.1) w' X.wv) := hid (fun e1 e2 u hu => by
    have e9 : st.full (decide (st.prods.length = 40) && st.inA) st.hd.2.1 = st.give st.hd.2.1 3 := by unfold RS.full; rw [decide_eq_true e1, e2]; rfl
    rw [e9]
    exact (giveC (h.keep hu) st.hd.2.1 3 (by decide)).mono (fun r w' ⟨e, hM⟩ => ⟨e, hM.below hu⟩))
  have HN : Hid ((decide (st.prods.length = 40) && st.inA) = false → ∀ u, Below w.heap.size w u → Mov B T w rb X (st.full (decide (st.prods.length = 40) && st.inA) st.hd.2.1) u X.wv) := hid (fun e u hu => by
    have e9 : st.full (decide (st.prods.length = 40) && st.inA) st.hd.2.1 = st := by unfold RS.full; rw [e]; rfl
    rw [e9]
    exact ⟨h.keep hu, Kept.of_below hu⟩)
  have hpot : Hid (st.alt1.later.length + st.alt1.ws.length ≤ 98000) := hid (by
    have e1 : st.alt1.later = st.later := (SameL.full st (decide (st.prods.length = 40) && st.inA) st.hd.2.1).later
    have e2 : st.alt1.ws = st.ws := RS.full_ws _ _ _
    rw [e1, e2]; exact b2)
  have hdf : st.alt = (RS.syms st.prods.length st.alt1.ws.length 0 st.alt1).pct st.prods.length := rfl
  rw [hdf]
  obtain ⟨R, hR⟩ : ∃ R, Hid (RS.syms st.prods.length st.alt1.ws.length 0 st.alt1 = R) := ⟨_, hid rfl⟩
  rw [hR.out]
  clear hdf h b2 hpv k t le l1 l2 c0 p
  generalize st.full (decide (st.prods.length = 40) && st.inA) st.hd.2.1 = s1 at *
  generalize st.alt1 = s2 at *
  generalize st.inA = ia at *
  generalize st.nonts.length = nn at *
  generalize st.prods.length = np at *
  generalize st.hd = H at *
  obtain ⟨hk, hp, ht⟩ := H
  try dsimp only at *
  have hcase : (¬ np = 40) ∨ (np = 40 ∧ ia = false) ∨ (np = 40 ∧ ia = true) := by
    by_cases h9 : np = 40
    · cases ia
      · exact .inr (.inl ⟨h9, rfl⟩)
      · exact .inr (.inr ⟨h9, rfl⟩)
    · exact .inl h9
  have hnz : (np : Int) ≤ 99000 := by omega
  rcases hcase with h40 | ⟨h41, hia⟩ | ⟨h41, hia⟩
  · have hz : ((np : Int) == 40) = false := by rw [beq_eq_false_iff_ne]; omega
    obtain ⟨c9, na, nc, A, C, w6, ⟨d0, d1⟩, ⟨f0, f1⟩, hrun, g0, g1, hP⟩ := HA.out w _ (HN.out (by rw [decide_eq_false h40]; rfl) w (Below.refl _ _))
    have hP := hid hP
    clear HA HN HG HU GI c9
    go_enter Tryz.func79, Tryz.ntmps79
    go_wp2_with fail
    apply collapse
    case h =>
      intro rest
      go_region_law ((first
        | (refine step_run (by rfl) (.tmp 35) (.tmp 43) 26 (by rfl) _ _ (by rfl) (by rfl) hrun ?_)
        | fail))
      all_goals exact rest.out
    case pf =>
      obtain ⟨T3, X3, hr3, hc3⟩ := hP.out
      have hr3 := hid hr3
      have hc3 := hid hc3
      clear hP d0 d1 f0 f1 g0 g1 hrun c4
      generalize w6.setCell ⟨rb, 4, none⟩ (.slice A (np + 1) C) = V6 at *
      go_wp2_with fail
      go_loopw [3] (fun x wr => ∃ (n : Nat) (T1 : Nat → Nat) (X1 : RX) (st1 : RS), x = .int .i64 (n : Int) ∧ Hid (RdV B T1 wr rb X1 st1) ∧ Hid (Chg T T1 w wr) ∧ Hid (RS.syms np st1.ws.length n st1 = R) ∧ Hid (st1.later.length + st1.ws.length ≤ 98000) ∧ n + st1.ws.length ≤ 98000) (fun _ wr => wsN wr rb)
      case atStart => exact ⟨0, T3, X3, _, rfl, hr3, hc3, hR, hpot, by have := hpot.out; omega⟩
      case round =>
        obtain ⟨n, T1, X1, st1, rfl, hr, hc, hL, hb, hnb⟩ := hrel
        clear hr3 hc3 hR hpot
        have GA := hid (atNC hr.out)
        have hm0 := hr.out.wsN
        cases ha : st1.atN with
        | false =>
          rw [ha] at GA
          have e9 := hL.out
          rw [syms_no ha] at e9
          subst e9
          clear hL ha hm0 hnb
          obtain ⟨-, l9⟩ : True ∧ st1.later.length ≤ 99000 := ⟨trivial, by have := hb.out; omega⟩
          have GP : Hid (∀ u, Below wr.heap.size wr u → _) := hid (fun u hu => pctC (hr.out.keep hu) (hc.out.trans (Chg.of_below hu)) l9 np)
          clear hr hc hb l9
          cases hs : st1.atS [37] with
          | false =>
            go_wp2_with (first
              | (go_at_call 77; refine GA.out.mono ?_; clear GA; rintro e u ⟨rfl, hu⟩; obtain ⟨G1, -, G3⟩ := GP.out u hu; clear GP hu; rw [hs] at G1; have G1 := hid G1; have G3 := hid (G3 hs))
              | (go_at_call 80; refine G1.out.mono ?_; clear G1; rintro e u2 ⟨rfl, hu2⟩; have hQ := hid (G3.out u2 hu2)))
            go_end0
            exact ⟨rfl, hQ.out⟩
          | true =>
            go_wp2_with (first
              | (go_at_call 77; refine GA.out.mono ?_; clear GA; rintro e u ⟨rfl, hu⟩; obtain ⟨G1, G2, -⟩ := GP.out u hu; clear GP hu; rw [hs] at G1; have G1 := hid G1; have G2 := hid (G2 hs))
              | (go_at_call 80; refine G1.out.mono ?_; clear G1; rintro e u2 ⟨rfl, hu2⟩; have G4 := hid (G2.out u2 hu2); clear G2)
              | (go_at_call 68; refine G4.out.mono ?_; clear G4; rintro e u3 ⟨rfl, G5⟩; have G5 := hid G5)
              | (go_at_call 98; refine G5.out.mono ?_; clear G5; rintro e u4 ⟨rfl, hQ⟩; have hQ := hid hQ))
            go_end0
            exact ⟨rfl, hQ.out⟩
        | true =>
          rw [ha] at GA
          have hw2 := hr.out.wf.two (RS.atN_hd ha)
          have e9 := hL.out
          rw [syms_yes ha hr.out.wf.ne] at e9
          have e9 := hid e9
          have hws : Hid (((st1.full (decide (n = 8)) st1.hd.2.1).symb np).ws.length + 1 = st1.ws.length ∧ ((st1.full (decide (n = 8)) st1.hd.2.1).symb np).later.length = st1.later.length + 1) := hid ⟨by rw [symb_ws ha, List.length_tail]; omega, by rw [symb_later, (SameL.full _ _ _).later]⟩
          obtain ⟨b', o', n', cap', ⟨c0', k', p', t', le', l1', l2'⟩, -, -⟩ := hr.out.ahd
          have HU : Hid (∀ u, Below wr.heap.size wr u → u.cell? ⟨rb, 0, none⟩ = some (.slice (some ⟨b', o', none⟩) (n' + 1) cap') ∧ u.cell? ⟨b', o' + 1, none⟩ = some (.int .i64 (st1.hd.2.1 : Int))) := hid (fun u hu => ⟨keep_cell hu c0', keep_cell hu p'⟩)
          obtain ⟨GX, GY⟩ := symC (n := n) hr.out hc.out (by have := hb.out; omega) np
          have GX := hid GX
          have GY := hid GY
          clear hL ha hr hc c0' k' p' t' le' l1' l2'
          have hnz' : (n : Int) ≤ 98000 := by omega
          generalize st1.hd = H1 at *
          obtain ⟨jk, jp, jt⟩ := H1
          dsimp only at *
          by_cases h8 : n = 8
          · have h8z : ((n : Int) == 8) = true := by rw [beq_iff_eq]; omega
            go_wp2_with (first
              | (go_at_call 77; refine GA.out.mono ?_; clear GA; rintro e u ⟨rfl, hu⟩; obtain ⟨t0, t1⟩ := HU.out u hu; have G1 := hid (GX.out h8 u hu); clear GX GY hu HU)
              | (go_at_call 22; refine G1.out.mono ?_; clear G1; rintro e u2 ⟨rfl, G2⟩; have G2 := hid G2)
              | (go_at_call 97; refine G2.out.mono ?_; clear G2; rintro e u4 ⟨rfl, T4, X4, hr4, hc4⟩; have hm4 := hr4.wsN; have hr4 := hid hr4; have hc4 := hid hc4))
            go_roundw
            case rel => exact ⟨n + 1, T4, X4, _, by go_num, hr4, hc4, e9, hid (by have := hws.out; have := hb.out; omega), by have := hws.out; omega⟩
            case measure => rw [hm4, hm0]; have := hws.out; omega
          · have h8z : ((n : Int) == 8) = false := by rw [beq_eq_false_iff_ne]; omega
            go_wp2_with (first
              | (go_at_call 77; refine GA.out.mono ?_; clear GA; rintro e u ⟨rfl, hu⟩; have G2 := hid (GY.out h8 u hu); clear GX GY hu HU)
              | (go_at_call 97; refine G2.out.mono ?_; clear G2; rintro e u4 ⟨rfl, T4, X4, hr4, hc4⟩; have hm4 := hr4.wsN; have hr4 := hid hr4; have hc4 := hid hc4))
            go_roundw
            case rel => exact ⟨n + 1, T4, X4, _, by go_num, hr4, hc4, e9, hid (by have := hws.out; have := hb.out; omega), by have := hws.out; omega⟩
            case measure => rw [hm4, hm0]; have := hws.out; omega
  · have hz : ((np : Int) == 40) = true := by rw [beq_iff_eq]; omega
    subst hia
    have h40 := hid h41
    clear h41
    go_enter Tryz.func79, Tryz.ntmps79
    go_wp2_with (go_at_call 96; refine GI.out.mono ?_; clear GI; rintro e u1 ⟨rfl, hu⟩; obtain ⟨c9, na, nc, A, C, w6, ⟨d0, d1⟩, ⟨f0, f1⟩, hrun, g0, g1, hP⟩ := HA.out u1 _ (HN.out (by rw [Bool.and_false]) u1 hu); have hP := hid hP; clear HA HN HG HU hu)
    apply collapse
    case h =>
      intro rest
      go_region_law ((first
        | (refine step_run (by rfl) (.tmp 35) (.tmp 43) 26 (by rfl) _ _ (by rfl) (by rfl) hrun ?_)
        | fail))
      all_goals exact rest.out
    case pf =>
      obtain ⟨T3, X3, hr3, hc3⟩ := hP.out
      have hr3 := hid hr3
      have hc3 := hid hc3
      clear hP d0 d1 f0 f1 g0 g1 hrun c4
      generalize w6.setCell ⟨rb, 4, none⟩ (.slice A (np + 1) C) = V6 at *
      go_wp2_with fail
      go_loopw [3] (fun x wr => ∃ (n : Nat) (T1 : Nat → Nat) (X1 : RX) (st1 : RS), x = .int .i64 (n : Int) ∧ Hid (RdV B T1 wr rb X1 st1) ∧ Hid (Chg T T1 w wr) ∧ Hid (RS.syms np st1.ws.length n st1 = R) ∧ Hid (st1.later.length + st1.ws.length ≤ 98000) ∧ n + st1.ws.length ≤ 98000) (fun _ wr => wsN wr rb)
      case atStart => exact ⟨0, T3, X3, _, rfl, hr3, hc3, hR, hpot, by have := hpot.out; omega⟩
      case round =>
        obtain ⟨n, T1, X1, st1, rfl, hr, hc, hL, hb, hnb⟩ := hrel
        clear hr3 hc3 hR hpot
        have GA := hid (atNC hr.out)
        have hm0 := hr.out.wsN
        cases ha : st1.atN with
        | false =>
          rw [ha] at GA
          have e9 := hL.out
          rw [syms_no ha] at e9
          subst e9
          clear hL ha hm0 hnb
          obtain ⟨-, l9⟩ : True ∧ st1.later.length ≤ 99000 := ⟨trivial, by have := hb.out; omega⟩
          have GP : Hid (∀ u, Below wr.heap.size wr u → _) := hid (fun u hu => pctC (hr.out.keep hu) (hc.out.trans (Chg.of_below hu)) l9 np)
          clear hr hc hb l9
          cases hs : st1.atS [37] with
          | false =>
            go_wp2_with (first
              | (go_at_call 77; refine GA.out.mono ?_; clear GA; rintro e u ⟨rfl, hu⟩; obtain ⟨G1, -, G3⟩ := GP.out u hu; clear GP hu; rw [hs] at G1; have G1 := hid G1; have G3 := hid (G3 hs))
              | (go_at_call 80; refine G1.out.mono ?_; clear G1; rintro e u2 ⟨rfl, hu2⟩; have hQ := hid (G3.out u2 hu2)))
            go_end0
            exact ⟨rfl, hQ.out⟩
          | true =>
            go_wp2_with (first
              | (go_at_call 77; refine GA.out.mono ?_; clear GA; rintro e u ⟨rfl, hu⟩; obtain ⟨G1, G2, -⟩ := GP.out u hu; clear GP hu; rw [hs] at G1; have G1 := hid G1; have G2 := hid (G2 hs))
              | (go_at_call 80; refine G1.out.mono ?_; clear G1; rintro e u2 ⟨rfl, hu2⟩; have G4 := hid (G2.out u2 hu2); clear G2)
              | (go_at_call 68; refine G4.out.mono ?_; clear G4; rintro e u3 ⟨rfl, G5⟩; have G5 := hid G5)
              | (go_at_call 98; refine G5.out.mono ?_; clear G5; rintro e u4 ⟨rfl, hQ⟩; have hQ := hid hQ))
            go_end0
            exact ⟨rfl, hQ.out⟩
        | true =>
          rw [ha] at GA
          have hw2 := hr.out.wf.two (RS.atN_hd ha)
          have e9 := hL.out
          rw [syms_yes ha hr.out.wf.ne] at e9
          have e9 := hid e9
          have hws : Hid (((st1.full (decide (n = 8)) st1.hd.2.1).symb np).ws.length + 1 = st1.ws.length ∧ ((st1.full (decide (n = 8)) st1.hd.2.1).symb np).later.length = st1.later.length + 1) := hid ⟨by rw [symb_ws ha, List.length_tail]; omega, by rw [symb_later, (SameL.full _ _ _).later]⟩
          obtain ⟨b', o', n', cap', ⟨c0', k', p', t', le', l1', l2'⟩, -, -⟩ := hr.out.ahd
          have HU : Hid (∀ u, Below wr.heap.size wr u → u.cell? ⟨rb, 0, none⟩ = some (.slice (some ⟨b', o', none⟩) (n' + 1) cap') ∧ u.cell? ⟨b', o' + 1, none⟩ = some (.int .i64 (st1.hd.2.1 : Int))) := hid (fun u hu => ⟨keep_cell hu c0', keep_cell hu p'⟩)
          obtain ⟨GX, GY⟩ := symC (n := n) hr.out hc.out (by have := hb.out; omega) np
          have GX := hid GX
          have GY := hid GY
          clear hL ha hr hc c0' k' p' t' le' l1' l2'
          have hnz' : (n : Int) ≤ 98000 := by omega
          generalize st1.hd = H1 at *
          obtain ⟨jk, jp, jt⟩ := H1
          dsimp only at *
          by_cases h8 : n = 8
          · have h8z : ((n : Int) == 8) = true := by rw [beq_iff_eq]; omega
            go_wp2_with (first
              | (go_at_call 77; refine GA.out.mono ?_; clear GA; rintro e u ⟨rfl, hu⟩; obtain ⟨t0, t1⟩ := HU.out u hu; have G1 := hid (GX.out h8 u hu); clear GX GY hu HU)
              | (go_at_call 22; refine G1.out.mono ?_; clear G1; rintro e u2 ⟨rfl, G2⟩; have G2 := hid G2)
              | (go_at_call 97; refine G2.out.mono ?_; clear G2; rintro e u4 ⟨rfl, T4, X4, hr4, hc4⟩; have hm4 := hr4.wsN; have hr4 := hid hr4; have hc4 := hid hc4))
            go_roundw
            case rel => exact ⟨n + 1, T4, X4, _, by go_num, hr4, hc4, e9, hid (by have := hws.out; have := hb.out; omega), by have := hws.out; omega⟩
            case measure => rw [hm4, hm0]; have := hws.out; omega
          · have h8z : ((n : Int) == 8) = false := by rw [beq_eq_false_iff_ne]; omega
            go_wp2_with (first
              | (go_at_call 77; refine GA.out.mono ?_; clear GA; rintro e u ⟨rfl, hu⟩; have G2 := hid (GY.out h8 u hu); clear GX GY hu HU)
              | (go_at_call 97; refine G2.out.mono ?_; clear G2; rintro e u4 ⟨rfl, T4, X4, hr4, hc4⟩; have hm4 := hr4.wsN; have hr4 := hid hr4; have hc4 := hid hc4))
            go_roundw
            case rel => exact ⟨n + 1, T4, X4, _, by go_num, hr4, hc4, e9, hid (by have := hws.out; have := hb.out; omega), by have := hws.out; omega⟩
            case measure => rw [hm4, hm0]; have := hws.out; omega
  · have hz : ((np : Int) == 40) = true := by rw [beq_iff_eq]; omega
    subst hia
    have h40 := hid h41
    clear h41
    go_enter Tryz.func79, Tryz.ntmps79
    go_wp2_with (first
      | (go_at_call 96; refine GI.out.mono ?_; clear GI; rintro e u0 ⟨rfl, hu⟩; obtain ⟨t4, t0, t1⟩ := HU.out u0 hu; have G1 := hid (HG.out h40.out (by rfl) u0 hu); clear HG HU hu)
      | (go_at_call 22; refine G1.out.mono ?_; clear G1; rintro e u1 ⟨rfl, hM⟩; obtain ⟨c9, na, nc, A, C, w6, ⟨d0, d1⟩, ⟨f0, f1⟩, hrun, g0, g1, hP⟩ := HA.out u1 _ hM; have hP := hid hP; clear HA HN hM))
    apply collapse
    case h =>
      intro rest
      go_region_law ((first
        | (refine step_run (by rfl) (.tmp 35) (.tmp 43) 26 (by rfl) _ _ (by rfl) (by rfl) hrun ?_)
        | fail))
      all_goals exact rest.out
    case pf =>
      obtain ⟨T3, X3, hr3, hc3⟩ := hP.out
      have hr3 := hid hr3
      have hc3 := hid hc3
      clear hP d0 d1 f0 f1 g0 g1 hrun c4
      generalize w6.setCell ⟨rb, 4, none⟩ (.slice A (np + 1) C) = V6 at *
      go_wp2_with fail
      go_loopw [3] (fun x wr => ∃ (n : Nat) (T1 : Nat → Nat) (X1 : RX) (st1 : RS), x = .int .i64 (n : Int) ∧ Hid (RdV B T1 wr rb X1 st1) ∧ Hid (Chg T T1 w wr) ∧ Hid (RS.syms np st1.ws.length n st1 = R) ∧ Hid (st1.later.length + st1.ws.length ≤ 98000) ∧ n + st1.ws.length ≤ 98000) (fun _ wr => wsN wr rb)
      case atStart => exact ⟨0, T3, X3, _, rfl, hr3, hc3, hR, hpot, by have := hpot.out; omega⟩
      case round =>
        obtain ⟨n, T1, X1, st1, rfl, hr, hc, hL, hb, hnb⟩ := hrel
        clear hr3 hc3 hR hpot
        have GA := hid (atNC hr.out)
        have hm0 := hr.out.wsN
        cases ha : st1.atN with
        | false =>
          rw [ha] at GA
          have e9 := hL.out
          rw [syms_no ha] at e9
          subst e9
          clear hL ha hm0 hnb
          obtain ⟨-, l9⟩ : True ∧ st1.later.length ≤ 99000 := ⟨trivial, by have := hb.out; omega⟩
          have GP : Hid (∀ u, Below wr.heap.size wr u → _) := hid (fun u hu => pctC (hr.out.keep hu) (hc.out.trans (Chg.of_below hu)) l9 np)
          clear hr hc hb l9
          cases hs : st1.atS [37] with
          | false =>
            go_wp2_with (first
              | (go_at_call 77; refine GA.out.mono ?_; clear GA; rintro e u ⟨rfl, hu⟩; obtain ⟨G1, -, G3⟩ := GP.out u hu; clear GP hu; rw [hs] at G1; have G1 := hid G1; have G3 := hid (G3 hs))
              | (go_at_call 80; refine G1.out.mono ?_; clear G1; rintro e u2 ⟨rfl, hu2⟩; have hQ := hid (G3.out u2 hu2)))
            go_end0
            exact ⟨rfl, hQ.out⟩
          | true =>
            go_wp2_with (first
              | (go_at_call 77; refine GA.out.mono ?_; clear GA; rintro e u ⟨rfl, hu⟩; obtain ⟨G1, G2, -⟩ := GP.out u hu; clear GP hu; rw [hs] at G1; have G1 := hid G1; have G2 := hid (G2 hs))
              | (go_at_call 80; refine G1.out.mono ?_; clear G1; rintro e u2 ⟨rfl, hu2⟩; have G4 := hid (G2.out u2 hu2); clear G2)
              | (go_at_call 68; refine G4.out.mono ?_; clear G4; rintro e u3 ⟨rfl, G5⟩; have G5 := hid G5)
              | (go_at_call 98; refine G5.out.mono ?_; clear G5; rintro e u4 ⟨rfl, hQ⟩; have hQ := hid hQ))
            go_end0
            exact ⟨rfl, hQ.out⟩
        | true =>
          rw [ha] at GA
          have hw2 := hr.out.wf.two (RS.atN_hd ha)
          have e9 := hL.out
          rw [syms_yes ha hr.out.wf.ne] at e9
          have e9 := hid e9
          have hws : Hid (((st1.full (decide (n = 8)) st1.hd.2.1).symb np).ws.length + 1 = st1.ws.length ∧ ((st1.full (decide (n = 8)) st1.hd.2.1).symb np).later.length = st1.later.length + 1) := hid ⟨by rw [symb_ws ha, List.length_tail]; omega, by rw [symb_later, (SameL.full _ _ _).later]⟩
          obtain ⟨b', o', n', cap', ⟨c0', k', p', t', le', l1', l2'⟩, -, -⟩ := hr.out.ahd
          have HU : Hid (∀ u, Below wr.heap.size wr u → u.cell? ⟨rb, 0, none⟩ = some (.slice (some ⟨b', o', none⟩) (n' + 1) cap') ∧ u.cell? ⟨b', o' + 1, none⟩ = some (.int .i64 (st1.hd.2.1 : Int))) := hid (fun u hu => ⟨keep_cell hu c0', keep_cell hu p'⟩)
          obtain ⟨GX, GY⟩ := symC (n := n) hr.out hc.out (by have := hb.out; omega) np
          have GX := hid GX
          have GY := hid GY
          clear hL ha hr hc c0' k' p' t' le' l1' l2'
          have hnz' : (n : Int) ≤ 98000 := by omega
          generalize st1.hd = H1 at *
          obtain ⟨jk, jp, jt⟩ := H1
          dsimp only at *
          by_cases h8 : n = 8
          · have h8z : ((n : Int) == 8) = true := by rw [beq_iff_eq]; omega
            go_wp2_with (first
              | (go_at_call 77; refine GA.out.mono ?_; clear GA; rintro e u ⟨rfl, hu⟩; obtain ⟨t0, t1⟩ := HU.out u hu; have G1 := hid (GX.out h8 u hu); clear GX GY hu HU)
              | (go_at_call 22; refine G1.out.mono ?_; clear G1; rintro e u2 ⟨rfl, G2⟩; have G2 := hid G2)
              | (go_at_call 97; refine G2.out.mono ?_; clear G2; rintro e u4 ⟨rfl, T4, X4, hr4, hc4⟩; have hm4 := hr4.wsN; have hr4 := hid hr4; have hc4 := hid hc4))
            go_roundw
            case rel => exact ⟨n + 1, T4, X4, _, by go_num, hr4, hc4, e9, hid (by have := hws.out; have := hb.out; omega), by have := hws.out; omega⟩
            case measure => rw [hm4, hm0]; have := hws.out; omega
          · have h8z : ((n : Int) == 8) = false := by rw [beq_eq_false_iff_ne]; omega
            go_wp2_with (first
              | (go_at_call 77; refine GA.out.mono ?_; clear GA; rintro e u ⟨rfl, hu⟩; have G2 := hid (GY.out h8 u hu); clear GX GY hu HU)
              | (go_at_call 97; refine G2.out.mono ?_; clear G2; rintro e u4 ⟨rfl, T4, X4, hr4, hc4⟩; have hm4 := hr4.wsN; have hr4 := hid hr4; have hc4 := hid hc4))
            go_roundw
            case rel => exact ⟨n + 1, T4, X4, _, by go_num, hr4, hc4, e9, hid (by have := hws.out; have := hb.out; omega), by have := hws.out; omega⟩
            case measure => rw [hm4, hm0]; have := hws.out; omega

end Go.Proofs.YtcledgljbmepaaaGreatDoor
namespace Go.Proofs.YtcledgljbmepaaaGreatDoor

def RS.lens (st : RS) : Nat := st.rules.length + st.nonts.length + st.prods.length + st.skips.length + st.terms.length + st.nons.length + st.later.length + st.levels + st.starts
def RS.pot (st : RS) : Nat := st.lens + 4 * st.ws.length
theorem SameL.lens {a b : RS} (h : SameL a b) : b.lens = a.lens := by unfold RS.lens; rw [h.rules, h.nonts, h.prods, h.skips, h.terms, h.nons, h.later, h.levels, h.starts]
theorem SameL.pot {a b : RS} (h : SameL a b) : b.pot ≤ a.pot := by unfold RS.pot; rw [h.lens]; have := h.ws; omega
theorem RS.hd_ne {st : RS} (h : st.hd.1 ≠ 0) : 0 < st.ws.length := by
  unfold RS.hd at h
  cases hw : st.ws with
  | nil => rw [hw] at h; exact absurd rfl h
  | cons x l => rw [List.length_cons]; omega
theorem RS.take_pot {st : RS} (h : st.hd.1 ≠ 0) : (st.take true).pot + 4 = st.pot ∧ (st.take true).ws.length + 1 = st.ws.length := by
  have h0 := RS.hd_ne h
  have e : (st.take true).ws.length + 1 = st.ws.length := by show st.ws.tail.length + 1 = _; rw [List.length_tail]; omega
  refine ⟨?_, e⟩
  unfold RS.pot
  rw [(SameL.take st true).lens]
  omega
theorem RS.tkS_pot {st : RS} {t : Txt} (h : st.atS t = true) : (st.tkS t).pot + 4 = st.pot := by
  unfold RS.tkS
  rw [h]
  exact (RS.take_pot (RS.atS_hd h)).1
theorem RS.tkN_pot {st : RS} (h : st.atN = true) : st.tkN.pot + 4 = st.pot := by
  unfold RS.tkN
  rw [h]
  exact (RS.take_pot (RS.atN_hd h)).1
theorem RS.thn_pot (st : RS) (s : Stp) : (st.thn s).pot = st.pot + 1 := by
  unfold RS.thn RS.pot RS.lens
  simp only [List.length_append, List.length_singleton]
  omega
theorem RS.prec_pot (st : RS) (pr : Nat) : (st.prec pr).pot ≤ st.pot + 1 := by
  unfold RS.prec
  rw [RS.thn_pot]
  have := (SameL.tkN st).pot
  omega
theorem RS.lvd_pot (st : RS) (p s : Nat) : (st.lvd p s).pot ≤ st.pot + 1 := by
  unfold RS.lvd
  rw [RS.thn_pot]
  have := (SameL.tkN st).pot
  omega
theorem RS.lvds_pot (p s : Nat) : ∀ (n : Nat) (st : RS), (RS.lvds p s n st).pot ≤ st.pot
  | 0, st => Nat.le_refl _
  | n + 1, st => by
    rw [RS.lvds]
    split
    · rename_i h
      refine Nat.le_trans (RS.lvds_pot p s n _) ?_
      unfold RS.lvd
      rw [RS.thn_pot]
      have := RS.tkN_pot h
      omega
    · exact Nat.le_refl _
theorem RS.syms_pot (pr : Nat) : ∀ (f n : Nat) (st : RS), (RS.syms pr f n st).pot ≤ st.pot
  | 0, _, st => Nat.le_refl _
  | f + 1, n, st => by
    rw [RS.syms]
    split
    · rename_i h
      refine Nat.le_trans (RS.syms_pot pr f (n + 1) _) ?_
      unfold RS.symb
      rw [RS.thn_pot]
      have h1 := RS.tkN_pot (st := st.full (decide (n = 8)) st.hd.2.1) (by rw [RS.atN_of (RS.full_ws _ _ _)]; exact h)
      have h2 := (SameL.full st (decide (n = 8)) st.hd.2.1).pot
      omega
    · exact Nat.le_refl _
theorem RS.pct_pot (st : RS) (pr : Nat) : (st.pct pr).pot ≤ st.pot := by
  unfold RS.pct
  split
  · rename_i h
    have h1 := RS.tkS_pot h
    have h2 := RS.prec_pot (st.tkS [37]) pr
    omega
  · exact Nat.le_refl _
theorem RS.addP_pot (st : RS) : st.addP.pot = st.pot + 1 := by
  unfold RS.addP RS.pot RS.lens
  simp only [List.length_append, List.length_singleton]
  omega
theorem RS.alt_pot (st : RS) : st.alt.pot ≤ st.pot + 1 := by
  unfold RS.alt
  refine Nat.le_trans (RS.pct_pot _ _) (Nat.le_trans (RS.syms_pot _ _ _ _) ?_)
  unfold RS.alt1
  rw [RS.addP_pot]
  have := (SameL.full st (decide (st.prods.length = 40) && st.inA) st.hd.2.1).pot
  omega
theorem RS.alts_pot : ∀ (f : Nat) (st : RS), (RS.alts f st).pot ≤ st.pot
  | 0, st => Nat.le_refl _
  | f + 1, st => by
    rw [RS.alts]
    split
    · rename_i h
      refine Nat.le_trans (RS.alts_pot f _) ?_
      have h1 := RS.tkS_pot h
      have h2 := RS.alt_pot (st.tkS [124])
      omega
    · exact Nat.le_refl _
theorem RS.addN_pot (st : RS) (t : Txt) : (st.addN t).pot = st.pot + 1 := by
  unfold RS.addN RS.pot RS.lens
  simp only [List.length_append, List.length_singleton]
  omega
theorem RS.addO_pot (st : RS) (x : Wd) : (st.addO x).pot = st.pot + 1 := by
  unfold RS.addO RS.pot RS.lens
  simp only [List.length_append, List.length_singleton]
  omega
theorem RS.addR_pot (st : RS) (r : Rl) : (st.addR r).pot = st.pot + 1 := by
  unfold RS.addR RS.pot RS.lens
  simp only [List.length_append, List.length_singleton]
  omega
theorem RS.addW_pot (st : RS) (x : Wd) (sk : Bool) : (st.addW x sk).pot = st.pot + 1 := by
  unfold RS.addW
  split
  all_goals
    unfold RS.pot RS.lens
    simp only [List.length_append, List.length_singleton]
    omega
/-- ahead of a nonterminal's first alternative -/
def RS.nont0 (st : RS) : RS := ((((st.tkN.full (decide (st.nonts.length = 16)) st.hd.2.1).tkS [58]).addN st.hd.2.2).addO st.hd).once st.hd
theorem RS.nont0_pot (st : RS) : st.nont0.pot ≤ st.tkN.pot + 3 := by
  unfold RS.nont0 RS.once
  rw [RS.thn_pot, RS.addO_pot, RS.addN_pot]
  have h1 := (SameL.full st.tkN (decide (st.nonts.length = 16)) st.hd.2.1).pot
  have h2 := (SameL.tkS (st.tkN.full (decide (st.nonts.length = 16)) st.hd.2.1) [58]).pot
  omega
theorem RS.nont_pot {st : RS} (h : st.atN = true) : st.nont.pot ≤ st.pot := by
  unfold RS.nont
  have h1 := (SameL.tkS (RS.alts st.nont1.ws.length st.nont1) [59]).pot
  have h2 := RS.alts_pot st.nont1.ws.length st.nont1
  have h3 : st.nont1.pot ≤ st.nont0.pot + 1 := RS.alt_pot st.nont0
  have h4 := RS.nont0_pot st
  have h5 := RS.tkN_pot h
  omega
theorem RS.rule_pot {st : RS} (h : st.hd.1 ≠ 0) : st.rule.pot ≤ st.pot := by
  unfold RS.rule RS.rule2 RS.once
  rw [RS.thn_pot, RS.addW_pot, RS.addR_pot]
  have h1 := (RS.take_pot h).1
  have h2 : st.rule1.pot ≤ (st.take true).pot := (SameL.full _ _ _).pot
  have h3 := (SameL.tkN st.rule1).pot
  have h4 := (SameL.cells st.rule1.tkN).pot
  have h5 := (SameL.tkS st.rule1.tkN.cells [59]).pot
  omega
theorem RS.level_pot {st : RS} (h : st.hd.1 ≠ 0) : st.level.pot ≤ st.pot := by
  unfold RS.level
  have h0 : st.lv1.pot = st.pot + 1 := by unfold RS.lv1 RS.pot RS.lens; dsimp only; omega
  have h1 := (RS.take_pot (st := st.lv1) h).1
  have h2 := RS.lvd_pot (st.lv1.take true) (st.levels + 1) (sdN st.hd.2.2)
  have h3 := RS.lvds_pot (st.levels + 1) (sdN st.hd.2.2) ((st.lv1.take true).lvd (st.levels + 1) (sdN st.hd.2.2)).ws.length ((st.lv1.take true).lvd (st.levels + 1) (sdN st.hd.2.2))
  have h4 := (SameL.tkS (RS.lvds (st.levels + 1) (sdN st.hd.2.2) ((st.lv1.take true).lvd (st.levels + 1) (sdN st.hd.2.2)).ws.length ((st.lv1.take true).lvd (st.levels + 1) (sdN st.hd.2.2))) [59]).pot
  dsimp only
  omega
theorem RS.start_pot {st : RS} (h : st.hd.1 ≠ 0) : st.start.pot ≤ st.pot := by
  unfold RS.start
  dsimp only
  rw [RS.thn_pot]
  have h0 : st.st1.pot = st.pot + 1 := by unfold RS.st1 RS.pot RS.lens; dsimp only; omega
  have h1 := (RS.take_pot (st := st.st1) h).1
  have h2 := RS.thn_pot (st.st1.take true) ⟨3, st.hd, if 1 < st.starts + 1 then 1 else 0, 0⟩
  have h3 := (SameL.tkN ((st.st1.take true).thn ⟨3, st.hd, if 1 < st.starts + 1 then 1 else 0, 0⟩)).pot
  have h4 := (SameL.tkS ((st.st1.take true).thn ⟨3, st.hd, if 1 < st.starts + 1 then 1 else 0, 0⟩).tkN [59]).pot
  omega
theorem sdN_kw {t : Txt} (h1 : ¬ (t = kTok ∨ t = kSkip)) (h2 : ¬ t = kStart) (h3 : ¬ 0 < sdN t) : kwB t = false := by
  unfold kwB
  rw [decide_eq_false (fun e => h1 (.inl e)), decide_eq_false (fun e => h1 (.inr e)), decide_eq_false h2, decide_eq_false h3]
  rfl
theorem RS.item_pot (st : RS) : st.item.pot ≤ st.pot := by
  unfold RS.item
  split
  · exact (SameL.give st _ (by decide)).pot
  · rename_i h1
    have h1 : st.hd.1 = 1 := by omega
    have h0 : st.hd.1 ≠ 0 := by omega
    split
    · exact RS.rule_pot h0
    · rename_i h2
      split
      · exact RS.start_pot h0
      · rename_i h3
        split
        · exact RS.level_pot h0
        · rename_i h4
          refine RS.nont_pot ?_
          unfold RS.atN
          rw [h1, sdN_kw h2 h3 h4]
          rfl

end Go.Proofs.YtcledgljbmepaaaGreatDoor
namespace Go.Proofs.YtcledgljbmepaaaGreatDoor
open Go.RowKit Go.Maps Go.Sort

theorem RS.pot_le {st : RS} {K : Nat} (h : st.pot ≤ K) : st.rules.length ≤ K ∧ st.nonts.length ≤ K ∧ st.prods.length ≤ K ∧ st.skips.length ≤ K ∧ st.terms.length ≤ K ∧ st.nons.length ≤ K ∧ st.later.length + st.ws.length ≤ K ∧ st.levels ≤ K ∧ st.starts ≤ K := by
  unfold RS.pot RS.lens at h
  omega
def NtP (B : Nat) (T : Nat → Nat) (w : World) (rb : Nat) (x : Wd) (s : RS) (q : Nat) (V : World) : Prop := ∃ T1 X1, RdV B T1 V rb X1 s ∧ Chg T T1 w V ∧ Im T1 V q (boxW x)
set_option maxRecDepth 20000 in
theorem nontA {B rb q : Nat} {T : Nat → Nat} {w V : World} {x : Wd} {s1 : RS} (h : NtP B T w rb x s1 q V) (hn : s1.nonts.length ≤ 99000) :
    Calls Tryz.prog 68 #[ptr0 rb, .string ⟨#[58]⟩] V fun r u => r = .returned (.tuple #[]) ∧ ∃ rv A C w6, (u.drew.cell? ⟨rb, 2, none⟩ = some rv ∧ u.drew.cell? ⟨q, 2, none⟩ = some (.string (strT x.2.2))) ∧
      ((u.alloc (.cells #[.string (strT x.2.2)] 9)).drew.cell? ⟨rb, 2, none⟩ = some rv ∧ (u.alloc (.cells #[.string (strT x.2.2)] 9)).drew.cell? ⟨q, 2, none⟩ = some (.string (strT x.2.2))) ∧
      (Builtin.append_ #[24, 24] 24 #[rv, .slice (some ⟨u.heap.size, 0, none⟩) 1 1]).run Tryz.prog (u.alloc (.cells #[.string (strT x.2.2)] 9)).drew = .ok (.slice A (s1.nonts.length + 1) C) w6 ∧ w6.cell? ⟨rb, 2, none⟩ = some rv ∧ w6.frozen? ⟨rb, 2, none⟩ = false ∧
      NtP B T w rb x ((s1.tkS [58]).addN x.2.2) q (w6.setCell ⟨rb, 2, none⟩ (.slice A (s1.nonts.length + 1) C)) := by
  obtain ⟨T1, X1, hr, hc, iq⟩ := h
  refine (tkSC hr [58]).mono ?_
  rintro r u ⟨e, wv, hM⟩
  have hbd : Below u.heap.size u u.drew := (Below.refl _ u).drew
  have hrd := hM.rd.keep hbd
  have c1 := hM.chg.trans (Chg.of_below (T := T1) hbd)
  have hnn : (s1.tkS [58]).nonts.length = s1.nonts.length := by rw [(SameL.tkS s1 [58]).nonts]
  obtain ⟨A, C, w6, hrun, hbk, T', X', hR, hC⟩ := hrd.app_nonts x.2.2 (by rw [hnn]; omega)
  rw [hnn] at hrun hR hC
  have jq := iq.keep c1
  have hbl := hrd.blk
  have hb6 := hbk.trans hbl
  have hba : Below u.drew.heap.size u.drew (u.alloc (.cells #[.string (strT x.2.2)] 9)).drew := al' u.drew _
  have d1 : u.drew.cell? ⟨rb, 2, none⟩ = some X1.nv := blk_cell hbl rfl
  exact ⟨e, X1.nv, A, C, w6, ⟨d1, jq.cell rfl⟩, ⟨keep_cell hba d1, keep_cell hba (jq.cell rfl)⟩, hrun, blk_cell hb6 rfl, blk_frozen hb6 2, T', X', hR, (hc.trans c1).trans hC, jq.keep hC⟩
set_option maxRecDepth 20000 in
theorem nontB {B rb q : Nat} {T : Nat → Nat} {w V : World} {x : Wd} {s3 : RS} (h : NtP B T w rb x s3 q V) (hn : s3.pot ≤ 90000) :
    (V.drew.cell? ⟨q, 0, none⟩ = some (.int .i64 (x.1 : Int)) ∧ V.drew.cell? ⟨q, 1, none⟩ = some (.int .i64 (x.2.1 : Int)) ∧ V.drew.cell? ⟨q, 2, none⟩ = some (.string (strT x.2.2))) ∧
    Calls Tryz.prog 78 #[.pointer (some ⟨rb, 8, none⟩), wdA x] V.drew fun r u => r = .returned (.tuple #[]) ∧ (u.cell? ⟨q, 0, none⟩ = some (.int .i64 (x.1 : Int)) ∧ u.cell? ⟨q, 1, none⟩ = some (.int .i64 (x.2.1 : Int)) ∧ u.cell? ⟨q, 2, none⟩ = some (.string (strT x.2.2))) ∧
      Calls Tryz.prog 70 #[ptr0 rb, wdA x] u fun r u2 => r = .returned (.tuple #[]) ∧ Calls Tryz.prog 79 #[ptr0 rb] u2 fun r w' => r = .returned (.tuple #[]) ∧ RdP B T w rb ((s3.addO x).once x).alt w' := by
  obtain ⟨T1, X1, hr, hc, iq⟩ := h
  have hbd : Below V.heap.size V V.drew := (Below.refl _ V).drew
  have cd := Chg.of_below (T := T1) hbd
  have jq := iq.keep cd
  obtain ⟨-, -, -, -, -, p6, p7, -, -⟩ := RS.pot_le hn
  refine ⟨⟨jq.cell rfl, jq.cell rfl, jq.cell rfl⟩, (addNC (hr.keep hbd) x (by omega)).mono ?_⟩
  rintro r u ⟨e, T', X', hr', hc'⟩
  have lq := jq.keep hc'
  refine ⟨e, ⟨lq.cell rfl, lq.cell rfl, lq.cell rfl⟩, (onceC hr' x (by show s3.later.length ≤ _; omega)).mono ?_⟩
  rintro r u2 ⟨e', T'', X'', hr'', hc''⟩
  have hp : ((s3.addO x).once x).pot ≤ 90002 := by
    unfold RS.once
    rw [RS.thn_pot, RS.addO_pot]; omega
  obtain ⟨-, -, q3, -, -, -, q7, -, -⟩ := RS.pot_le hp
  refine ⟨e', (altC hr'' (by omega) (by omega)).mono ?_⟩
  rintro r w' ⟨e3, T3, X3, hr3, hc3⟩
  exact ⟨e3, T3, X3, hr3, (((hc.trans cd).trans hc').trans hc'').trans hc3⟩
theorem alts_yes {st : RS} (h : st.atS [124] = true) (hn : st.ws ≠ []) : RS.alts st.ws.length st = RS.alts (st.ws.length - 1) (st.tkS [124]).alt := by
  cases hw : st.ws with
  | nil => exact absurd hw hn
  | cons x l => rw [List.length_cons, RS.alts, h, if_pos rfl]; rfl
theorem alts_no {st : RS} (f : Nat) (h : st.atS [124] = false) : RS.alts f st = st := by
  cases f with
  | zero => rfl
  | succ m => rw [RS.alts, h]; rfl
theorem syms_ws (pr : Nat) : ∀ (f n : Nat) (st : RS), (RS.syms pr f n st).ws.length ≤ st.ws.length
  | 0, _, st => Nat.le_refl _
  | f + 1, n, st => by
    rw [RS.syms]
    split
    · rename_i h
      refine Nat.le_trans (syms_ws pr f (n + 1) _) ?_
      rw [symb_ws h, List.length_tail]
      omega
    · exact Nat.le_refl _
theorem alt_ws (st : RS) : st.alt.ws.length ≤ st.ws.length := by
  unfold RS.alt RS.pct
  have h1 := syms_ws st.prods.length st.alt1.ws.length 0 st.alt1
  have h2 : st.alt1.ws = st.ws := RS.full_ws _ _ _
  generalize RS.syms st.prods.length st.alt1.ws.length 0 st.alt1 = s at *
  rw [h2] at h1
  split
  · show ((s.tkS [37]).tkN).ws.length ≤ _
    have h3 := (SameL.tkS s [37]).ws
    have h4 := (SameL.tkN (s.tkS [37])).ws
    omega
  · exact h1
/-- a fuel that is great enough is any -/
theorem alts_more : ∀ (f : Nat) (st : RS), st.ws.length ≤ f → RS.alts f st = RS.alts st.ws.length st
  | 0, st, h => by rw [Nat.le_zero.1 h]
  | f + 1, st, h => by
    cases hs : st.atS [124] with
    | false => rw [alts_no _ hs, alts_no _ hs]
    | true =>
      have h0 := RS.hd_ne (RS.atS_hd hs)
      rw [alts_yes hs (fun e => by rw [e] at h0; exact absurd h0 (Nat.lt_irrefl _)), RS.alts, hs, if_pos rfl]
      have h1 : (st.tkS [124]).alt.ws.length ≤ st.ws.length - 1 := by
        have := alt_ws (st.tkS [124])
        rw [RS.tkS_ws hs, List.length_tail] at this
        exact this
      rw [alts_more f _ (by omega)]
      rcases Nat.lt_or_ge (st.ws.length - 1) f with h9 | h9
      · rw [alts_more (st.ws.length - 1) _ h1]
      · rw [show st.ws.length - 1 = f by omega, alts_more f _ (by omega)]
termination_by f => f

end Go.Proofs.YtcledgljbmepaaaGreatDoor
