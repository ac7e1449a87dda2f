/- (*gram.index).find. What is left to be done, done: once, start. gram.Terms, over a row of rules; giveUp in the second pass. fits, of a grammar that was read; strings.Join; one more in a row. -/
import Derived.Test.YtcledgljbmepaaaGreatDoorJ23
import Derived.Test.YtcledgljbmepaaaGreatDoorJ15
import Derived.Test.YtcledgljbmepaaaGreatDoorJ22
import Derived.Test.YtcledgljbmepaaaGreatDoorShelfJ
import Derived.Test.YtcledgljbmepaaaGreatDoorJ18
import Derived.Lib.QuietBelow
namespace Go.Proofs.YtcledgljbmepaaaGreatDoor
open Go.RowKit Go.Maps

structure BndS (st : RS) : Prop where
  l1 : st.skips.length ≤ 90000
  l2 : st.terms.length ≤ 90000
  l3 : st.nons.length ≤ 90000
  x1 : ∀ x ∈ st.skips, x.2.2.length ≤ 1000000
  x2 : ∀ x ∈ st.terms, x.2.2.length ≤ 1000000
  x3 : ∀ x ∈ st.nons, x.2.2.length ≤ 1000000
def RdQ (B : Nat) (T : Nat → Nat) (w : World) (rb : Nat) (X : RX) (st : RS) (f : FS) (lv : Value) (rs : List Value) (w' : World) : Prop := ∃ T' mp, RdW B T' w' rb X st f lv rs mp ∧ Chg T T' w w'
set_option maxRecDepth 20000 in
set_option maxHeartbeats 8000000 in
theorem findC {B rb : Nat} {T : Nat → Nat} {w : World} {X : RX} {st : RS} {f : FS} {lv : Value} {rs : List Value} {mp : Option Nat} (h : RdW B T w rb X st f lv rs mp) (hb : BndS st) (t : Txt) (ht : t.length ≤ 1000000) :
    Calls Tryz.prog 74 #[.pointer (some ⟨rb, 8, none⟩), .string (strT t)] w fun r w' => r = .returned (owV (st.fnd t)) ∧ RdQ B T w rb X st f lv rs w' := by
  have hmf : ∀ (fn : Fn) (first cap : Array Value) (w : World), (Instr.makeFunc fn first cap).run Tryz.prog w = .ok (.func fn first cap) w := fun _ _ _ _ => rfl
  obtain ⟨W1, hW1⟩ : ∃ y, w.alloc boxO0 = y := ⟨_, rfl⟩
  have hz1 : W1.heap.size = w.heap.size + 1 := by rw [← hW1]; exact World.size_alloc ..
  have hB1 : Below w.heap.size w W1 := by rw [← hW1]; exact al' w _
  have hr1 : W1.heap[w.heap.size]? = some boxO0 := by rw [← hW1]; exact heap_new w _
  obtain ⟨h1, c1⟩ := h.aside (q := w.heap.size) hB1 (Nat.le_refl _) (by omega)
  have hrb := blk_lt h.blk
  have hne : rb ≠ w.heap.size := by omega
  have hq7 : tagT T w.heap.size 77 w.heap.size = 77 := if_pos rfl
  obtain ⟨o, ho⟩ : ∃ o, st.fnd t = o := ⟨_, rfl⟩
  have HF : Hid (∀ T3 m F1, RdW B T3 F1 rb X st f lv rs (some m) → Chg (tagT T w.heap.size 77) T3 W1 F1 → F1.heap[w.heap.size]? = some boxO0 ∧ F1.cell? ⟨rb, 14, none⟩ = some (.map (some m)) ∧ (Instr.lookup 57 (.map (some m)) (.string (strT t)) false).run Tryz.prog F1 = .ok (owV o) F1 ∧ RdQ B T w rb X st f lv rs (((F1.setCell ⟨w.heap.size, 0, none⟩ (.int .i64 (o.1 : Int))).setCell ⟨w.heap.size, 1, none⟩ (.int .i64 (o.2.1 : Int))).setCell ⟨w.heap.size, 2, none⟩ (.int .i64 (o.2.2 : Int)))) := hid (fun T3 m F1 h3 c3 => by
    obtain ⟨-, n, hM⟩ := h3.map m rfl
    have hbx : F1.heap[w.heap.size]? = some boxO0 := c3.kept.blk hr1 (fun e => e.2 hq7)
    have hk := hM.look1 t ht
    have e9 : (ownL st.told (fun _ => none) t).getD (0, 0, 0) = o := ho
    rw [e9] at hk
    have hF : Kept (oneBlk w.heap.size) F1 (((F1.setCell ⟨w.heap.size, 0, none⟩ (.int .i64 (o.1 : Int))).setCell ⟨w.heap.size, 1, none⟩ (.int .i64 (o.2.1 : Int))).setCell ⟨w.heap.size, 2, none⟩ (.int .i64 (o.2.2 : Int))) := (((Kept.refl (oneBlk w.heap.size) F1).setCell (a := ⟨w.heap.size, 0, none⟩) (fun _ => rfl)).setCell (a := ⟨w.heap.size, 1, none⟩) (fun _ => rfl)).setCell (a := ⟨w.heap.size, 2, none⟩) (fun _ => rfl)
    have ht3 : T3 w.heap.size = 77 := (c3.tag w.heap.size (by omega)).trans hq7
    have c13 := c1.trans c3
    refine ⟨hbx, blk_cell h3.blk rfl, hk, T3, some m, h3.wrote hF ht3, ?_, c13.tag⟩
    exact c13.kept.step hF (fun k hk9 e => absurd hk9 (by rw [show k = w.heap.size from e]; exact Nat.lt_irrefl _)))
  have GD : Hid (Calls Tryz.prog 92 #[.pointer (some ⟨rb, 11, none⟩), fillV rb] W1 fun r F1 => r = .returned (.tuple #[]) ∧ ∃ T3 m, RdW B T3 F1 rb X st f lv rs (some m) ∧ Chg (tagT T w.heap.size 77) T3 W1 F1) := hid (by
    cases mp with
    | none =>
      refine (doC (c := rdC X lv st.levels st.starts f) st.skips st.terms st.nons h1.blk (h1.skips.wrow (_n := 0) h1.rt (by decide)) (h1.terms.wrow (_n := 0) h1.rt (by decide)) (h1.nons.wrow (_n := 0) h1.rt (by decide)) hb.l1 hb.l2 hb.l3 hb.x1 hb.x2 hb.x3).mono ?_
      rintro r F1 ⟨e, hblk, ⟨n, hM⟩, hk, hs⟩
      obtain ⟨h3, c3⟩ := h1.mapped hk hblk (Nat.le_refl _) hs hM
      exact ⟨e, _, _, h3, c3⟩
    | some m =>
      refine (doneC (fillV rb) (blk_cell h1.blk rfl)).mono ?_
      rintro r F1 ⟨e, rfl⟩
      exact ⟨e, _, m, h1, Chg.refl _ _⟩)
  rw [ho]
  clear h h1 c1 hb hr1 hB1 ho hq7
  obtain ⟨oa, ob, oc⟩ := o
  try dsimp only at *
  go_enter Tryz.func74, Tryz.ntmps74
  go_wp2_with (go_at_call 92; refine GD.out.mono ?_; clear GD; rintro e F1 ⟨rfl, T3, m, h3, c3⟩; obtain ⟨hbx, c14, hlk, hQ⟩ := HF.out T3 m F1 h3 c3; clear HF h3 c3; have hQ := hid hQ; obtain ⟨⟨q0, q1⟩, ⟨q2, q3⟩, ⟨q4, q5⟩, q6, q7, q8⟩ := putT3 hbx (.int .i64 (oa : Int)) (.int .i64 (ob : Int)) (.int .i64 (oc : Int)); clear hbx)
  refine bodyPost_ret (v := owV (oa, ob, oc)) (by simp [results, Tryz.results74, go_sem, q6, q7, q8]) rfl ⟨rfl, ?_⟩
  exact hQ.out

end Go.Proofs.YtcledgljbmepaaaGreatDoor
namespace Go.Proofs.YtcledgljbmepaaaGreatDoor
open Go.RowKit Go.Maps

theorem collapseV {R F : World → Prop} {G : Prop} (h : (∀ V, F V → R V) → G) (pf : ∀ V, F V → R V) : G := h pf
def RdR (B : Nat) (T : Nat → Nat) (w : World) (rb : Nat) (X : RX) (st : RS) (f : FS) (lv : Value) (w' : World) : Prop := ∃ T' rs mp, RdW B T' w' rb X st f lv rs mp ∧ Chg T T' w w'
set_option maxRecDepth 20000 in
theorem fldO (o : Ow) (u : World) : (Instr.field 133 (owV o) 0).run Tryz.prog u = .ok (.int .i64 (o.1 : Int)) u ∧ (Instr.field 133 (owV o) 1).run Tryz.prog u = .ok (.int .i64 (o.2.1 : Int)) u ∧ (Instr.field 133 (owV o) 2).run Tryz.prog u = .ok (.int .i64 (o.2.2 : Int)) u := ⟨by kernel_rfl, by kernel_rfl, by kernel_rfl⟩
set_option maxRecDepth 20000 in
/-- find, from a closure: the boxes stay -/
theorem findK {B rb p q : Nat} {T : Nat → Nat} {w : World} {X : RX} {st : RS} {f : FS} {lv : Value} {rs : List Value} {mp : Option Nat} {x : Wd} (h : RdW B T w rb X st f lv rs mp) (hb : BndS st) (hx : x.2.2.length ≤ 1000000) (ip : Im T w p (boxR rb)) (iq : Im T w q (boxW x)) :
    Calls Tryz.prog 74 #[.pointer (some ⟨rb, 8, none⟩), .string (strT x.2.2)] w fun r w' => r = .returned (owV (st.fnd x.2.2)) ∧ ∃ T' mp', RdW B T' w' rb X st f lv rs mp' ∧ Chg T T' w w' ∧ Im T' w' p (boxR rb) ∧ Im T' w' q (boxW x) := by
  refine (findC h hb x.2.2 hx).mono ?_
  rintro r w' ⟨e, T', mp', hr, hc⟩
  exact ⟨e, T', mp', hr, hc, ip.keep hc, iq.keep hc⟩
set_option maxRecDepth 20000 in
set_option maxHeartbeats 8000000 in
theorem onceK {B rb p q : Nat} {T : Nat → Nat} {w : World} {X : RX} {st : RS} {f : FS} {lv : Value} {rs : List Value} {mp : Option Nat} {x : Wd} (h : RdW B T w rb X st f lv rs mp) (hb : BndS st) (hx : x.2.2.length ≤ 1000000) (ip : Im T w p (boxR rb)) (iq : Im T w q (boxW x)) :
    Calls Tryz.prog 91 #[ptr0 p, ptr0 q] w fun r w' => r = .returned (.int .i64 (if (st.fnd x.2.2).1 < x.2.1 then 6 else 0)) ∧ RdR B T w rb X st f lv w' := by
  have hbd : Below w.heap.size w w.drew := (Below.refl _ w).drew
  have cd := Chg.of_below (T := T) hbd
  have hrd := h.keep hbd
  have ipd := ip.keep cd
  have iqd := iq.keep cd
  have G := findK hrd hb hx ipd iqd
  have G : Hid (Calls Tryz.prog 74 #[.pointer (some ⟨rb, 8, none⟩), .string (strT x.2.2)] w.drew fun r w' => r = .returned (owV (st.fnd x.2.2)) ∧ (w'.cell? ⟨p, 0, none⟩ = some (ptr0 rb) ∧ w'.cell? ⟨q, 1, none⟩ = some (.int .i64 (x.2.1 : Int)) ∧ w'.cell? ⟨q, 2, none⟩ = some (.string (strT x.2.2))) ∧ RdR B T w rb X st f lv w') := hid (G.mono (fun r w' ⟨e, T', mp', hr, hc, i1, i2⟩ => ⟨e, ⟨i1.cell rfl, i2.cell rfl, i2.cell rfl⟩, T', rs, mp', hr, cd.trans hc⟩))
  have d0 : w.drew.cell? ⟨p, 0, none⟩ = some (ptr0 rb) := ipd.cell rfl
  have d1 : w.drew.cell? ⟨q, 1, none⟩ = some (.int .i64 (x.2.1 : Int)) := iqd.cell rfl
  have d2 : w.drew.cell? ⟨q, 2, none⟩ = some (.string (strT x.2.2)) := iqd.cell rfl
  obtain ⟨o, ho⟩ : ∃ o, st.fnd x.2.2 = o := ⟨_, rfl⟩
  rw [ho] at G ⊢
  have hfd : ∀ u : World, (Instr.field 133 (owV o) 0).run Tryz.prog u = .ok (.int .i64 (o.1 : Int)) u := fun u => (fldO o u).1
  clear h hb hx ip iq hbd cd hrd ipd iqd ho
  obtain ⟨xk, xp, xt⟩ := x
  obtain ⟨oa, ob, oc⟩ := o
  try dsimp only at *
  by_cases hlt : oa < xp
  · have hltz : (oa : Int) < (xp : Int) := by omega
    rw [if_pos hlt]
    clear hlt
    go_enter Tryz.func91, Tryz.ntmps91
    go_wp2_with fail
    go_region_held3 (fun w' => w'.cell? ⟨p, 0, none⟩ = some (ptr0 rb) ∧ w'.cell? ⟨q, 1, none⟩ = some (.int .i64 (xp : Int)) ∧ w'.cell? ⟨q, 2, none⟩ = some (.string (strT xt))) (go_keep) ((go_at_call 74; refine G.out.mono ?_; rintro e u1 ⟨rfl, ⟨s0, s1, s2⟩, hQ⟩; have hQ := hid hQ))
    all_goals
      go_wp2
      go_ret
      exact ⟨rfl, hQ.out⟩
  · have hltz : ¬ (oa : Int) < (xp : Int) := by omega
    rw [if_neg hlt]
    clear hlt
    go_enter Tryz.func91, Tryz.ntmps91
    go_wp2_with fail
    go_region_held3 (fun w' => w'.cell? ⟨p, 0, none⟩ = some (ptr0 rb) ∧ w'.cell? ⟨q, 1, none⟩ = some (.int .i64 (xp : Int)) ∧ w'.cell? ⟨q, 2, none⟩ = some (.string (strT xt))) (go_keep) ((go_at_call 74; refine G.out.mono ?_; rintro e u1 ⟨rfl, ⟨s0, s1, s2⟩, hQ⟩; have hQ := hid hQ))
    all_goals
      go_wp2
      go_ret
      exact ⟨rfl, hQ.out⟩
set_option maxRecDepth 20000 in
set_option maxHeartbeats 8000000 in
theorem secK {B rb l : Nat} {T : Nat → Nat} {w : World} {X : RX} {st : RS} {f : FS} {lv : Value} {rs : List Value} {mp : Option Nat} {a : Nat} (h : RdW B T w rb X st f lv rs mp) (il : Im T w l (boxB (decide (a ≠ 0)))) :
    Calls Tryz.prog 72 #[ptr0 l] w fun r w' => r = .returned (.int .i64 (if a = 0 then 0 else 6)) ∧ RdR B T w rb X st f lv w' := by
  have hQ : Hid (RdR B T w rb X st f lv w) := hid ⟨T, rs, mp, h, Chg.refl _ _⟩
  have d0 : w.cell? ⟨l, 0, none⟩ = some (.bool (decide (a ≠ 0))) := il.cell rfl
  clear h il
  by_cases ha : a = 0
  · rw [if_pos ha]
    rw [decide_eq_false (fun e => e ha)] at d0
    clear ha
    go_enter Tryz.func72, Tryz.ntmps72
    go_wp2
    go_ret
    exact ⟨rfl, hQ.out⟩
  · rw [if_neg ha]
    rw [decide_eq_true (show a ≠ 0 from ha)] at d0
    clear ha
    go_enter Tryz.func72, Tryz.ntmps72
    go_wp2
    go_ret
    exact ⟨rfl, hQ.out⟩
/-- the reader's block changes in what a grammar holds besides its lists -/
theorem RdW.put {B rb : Nat} {T : Nat → Nat} {w F : World} {X : RX} {st : RS} {f f' : FS} {lv : Value} {rs : List Value} {mp : Option Nat} (h : RdW B T w rb X st f lv rs mp) (hk : Kept (oneBlk rb) w F) (hb : F.heap[rb]? = some (rdK (rdC X lv st.levels st.starts f') (.int .u32 (if mp = none then 0 else 1)) (.int .i32 0) (.map mp))) (e1 : f'.levels = f.levels) (e2 : f'.prods = f.prods) :
    RdW B T F rb X st f' lv rs mp ∧ Chg T T w F := by
  have hr := blk_lt h.blk
  have ht : ∀ b, b < w.heap.size → T b = T b := fun _ _ => rfl
  have hc : Chg T T w F := ⟨hk.mono (fun k _ e => by rw [show k = rb from e, h.rt]; decide), ht⟩
  have hF : ∀ i, i ≠ 99 → ∀ b, oneBlk rb b → T b ≠ i := fun i hi b e => by rw [show b = rb from e, h.rt]; exact hi.symm
  refine ⟨⟨hb, h.rt, fun b hn => ⟨(h.own b hn).1, Nat.lt_of_lt_of_le (h.own b hn).2 hk.size⟩, Nat.le_trans h.base hk.size, h.rules.kept hk (hF 1 (by decide)) ht, h.rlen, fun x hx => (h.rre x hx).keep hc, h.nonts.kept hk (hF 2 (by decide)) ht, h.skips.kept hk (hF 8 (by decide)) ht, h.terms.kept hk (hF 9 (by decide)) ht, h.nons.kept hk (hF 10 (by decide)) ht, h.later.kept hk (hF 15 (by decide)) ht, h.flen, fun x hx => (h.fst x hx).keep hc, ?_, ?_, ?_, ?_, fun m e => ?_⟩, hc⟩
  · rw [e1]; exact h.levels.kept hk (hF 3 (by decide)) ht
  · rw [e2]; exact h.prods.kept hk (hF 4 (by decide)) ht
  · rw [e2]; exact h.rslen
  · rw [e2]
    exact fun j a b => (h.rights j a b).kept hk (hF (100 + j) (by omega)) ht
  · obtain ⟨t5, n, hM⟩ := h.map m e
    exact ⟨t5, n, hM.keep hk (fun e9 => by rw [show m = rb from e9, h.rt] at t5; cases t5)⟩

end Go.Proofs.YtcledgljbmepaaaGreatDoor
namespace Go.Proofs.YtcledgljbmepaaaGreatDoor
open Go.RowKit Go.Maps

/-- rules whose cells are there, whatever their cells' slices -/
def RulL (w : World) (v : Value) (l : List Rl) : Prop := ∃ a cap, v = .slice a l.length cap ∧ ∀ j (h : j < l.length), ∃ b o xa xm xc, a = some ⟨b, o, none⟩ ∧ b < w.heap.size ∧ w.cell? ⟨b, o + j * 3, none⟩ = some (.string (strT l[j].name)) ∧ w.cell? ⟨b, o + j * 3 + 1, none⟩ = some (.slice xa xm xc) ∧ w.cell? ⟨b, o + j * 3 + 2, none⟩ = some (.bool l[j].skip)
theorem RulL.keep {w u : World} {v : Value} {l : List Rl} (h : RulL w v l) (hu : Below w.heap.size w u) : RulL u v l := by
  obtain ⟨a, cap, e, hat⟩ := h
  refine ⟨a, cap, e, fun j hj => ?_⟩
  obtain ⟨b, o, xa, xm, xc, e1, h1, x0, x1, x2⟩ := hat j hj
  exact ⟨b, o, xa, xm, xc, e1, Nat.lt_of_lt_of_le h1 hu.size, keep_cell hu x0, keep_cell hu x1, keep_cell hu x2⟩
theorem RulL.at {w : World} {a : Option Addr} {n cap : Nat} {l : List Rl} (h : RulL w (.slice a n cap) l) {j : Nat} (hj : j < l.length) : ∃ b o xa xm xc, a = some ⟨b, o, none⟩ ∧ w.cell? ⟨b, o + j * 3, none⟩ = some (.string (strT l[j].name)) ∧ w.cell? ⟨b, o + j * 3 + 1, none⟩ = some (.slice xa xm xc) ∧ w.cell? ⟨b, o + j * 3 + 2, none⟩ = some (.bool l[j].skip) := by
  obtain ⟨a', cap', e, hat⟩ := h
  injection e with e1 _ _
  subst e1
  obtain ⟨b, o, xa, xm, xc, e2, _, y0, y1, y2⟩ := hat j hj
  exact ⟨b, o, xa, xm, xc, e2, y0, y1, y2⟩
theorem rulL_of {w : World} {v : Value} {l : List Rl} (h : Lst 3 RuleAt w v l) : RulL w v l := by
  obtain ⟨a, cap, e, _, _, hat⟩ := h
  refine ⟨a, cap, e, fun j hj => ?_⟩
  obtain ⟨b, o, e1, h1, h2⟩ := hat j hj
  obtain ⟨v, y0, y1, y2, xa, xc, e9, _⟩ := h2
  rw [e9] at y1
  exact ⟨b, o, xa, _, xc, e1, h1, y0, y1, y2⟩
set_option maxRecDepth 20000 in
set_option maxHeartbeats 8000000 in
theorem termsL (rv nv lv pv : Value) (st : Int) (l : List Rl) (w : World) (h : RulL w rv l) (hl : l.length ≤ 1000000) :
    Calls Tryz.prog 21 #[gmA rv nv lv pv st] w fun e w' => e = .returned (.int .i64 (trmK l l.length : Int)) ∧ Below w.heap.size w w' := by
  obtain ⟨a, cap, hrv, -⟩ := id h
  subst hrv
  have hB1 : Hid (Below w.heap.size w (w.alloc (.cells #[.slice a l.length cap, nv, lv, pv, .int .i64 st] 28))) := hid (al' w _)
  have c0 : (w.alloc (.cells #[.slice a l.length cap, nv, lv, pv, .int .i64 st] 28)).cell? ⟨w.heap.size, 0, none⟩ = some (.slice a l.length cap) := blk_cell (heap_new w _) rfl
  obtain ⟨W1, hW1⟩ : ∃ x, w.alloc (.cells #[.slice a l.length cap, nv, lv, pv, .int .i64 st] 28) = x := ⟨_, rfl⟩
  rw [hW1] at hB1 c0
  have h0 := hid (h.keep hB1.out)
  clear h
  obtain ⟨n, hnn⟩ : ∃ n, Hid (l.length = n) := ⟨_, hid rfl⟩
  obtain ⟨RR, hRR⟩ : ∃ x, Hid (trmK l l.length = x) := ⟨_, hid rfl⟩
  rw [hRR.out]
  rw [hnn.out] at hl h0 hRR c0 hW1 ⊢
  go_enter Tryz.func21, Tryz.ntmps21
  go_wp2
  clear hW1 c0
  go_loopw [3, 9] (fun x i wr => ∃ k : Nat, k ≤ n ∧ i = .int .i64 (k : Int) ∧ x = .int .i64 (trmK l k : Int) ∧ Hid (Below W1.heap.size W1 wr)) (fun _ i _ => n - (intOf i).toNat)
  case atStart => exact ⟨0, Nat.zero_le _, rfl, rfl, hid (Below.refl _ _)⟩
  case round =>
    obtain ⟨k, hk, rfl, rfl, hw⟩ := hrel
    by_cases hlt : k < n
    · have hltz : (k : Int) < (n : Int) := by omega
      have hkl : k < l.length := by rw [hnn.out]; exact hlt
      obtain ⟨b, o, xa, xm, xc, he, x0, x1, x2⟩ := (h0.out.keep hw.out).at hkl
      subst he
      have hs := trmK_succ hkl
      have hle := trmK_le l k
      obtain ⟨t0, ht0⟩ : ∃ x, trmK l k = x := ⟨_, rfl⟩
      rw [ht0] at hs hle ⊢
      clear ht0
      have hwn := hid (bl_step hw.out (al' wr (.cells #[.string (strT l[k].name), .slice xa xm xc, .bool l[k].skip] 68)))
      cases hsk : l[k].skip with
      | true =>
        rw [hsk] at x2 hs hwn
        rw [if_pos rfl, Nat.add_zero] at hs
        have hsH := hid hs
        clear hs
        go_wp2
        go_roundw
        case rel => exact ⟨k + 1, by omega, by go_num, by rw [hsH.out]; rfl, hwn⟩
        case measure => simp [intOf]; omega
      | false =>
        rw [hsk] at x2 hs hwn
        rw [if_neg (by decide)] at hs
        have hsH := hid hs
        clear hs
        have hlz : (t0 : Int) ≤ 1000000 := by omega
        go_wp2
        go_roundw
        case rel => exact ⟨k + 1, by omega, by go_num, by rw [hsH.out]; go_num, hwn⟩
        case measure => simp [intOf]; omega
    · have hltz : ¬ (k : Int) < (n : Int) := by omega
      obtain rfl : k = n := by omega
      go_wp2
      go_ret
      exact ⟨by rw [hRR.out]; rfl, bl_step hB1.out hw.out⟩

end Go.Proofs.YtcledgljbmepaaaGreatDoor
namespace Go.Proofs.YtcledgljbmepaaaGreatDoor
open Go.RowKit Go.Maps Go.Sort

theorem strT_data (s : Txt) : (strT s).data.toList = s := rfl
set_option maxRecDepth 20000 in
theorem joinC {u : World} {B : Nat} {v : Value} {l : List Txt} (h : OwnT u B v l) (sep : Txt) (hN : l.length ≤ 100000) (hl : (Lib.join l sep).length ≤ 100000000) :
    Calls Tryz.prog 13 #[v, .string (strT sep)] u fun e w' => e = .returned (.string (strT (Lib.join l sep))) ∧ Below u.heap.size u w' := by
  have hmap : (l.map strT).map (·.data.toList) = l := by
    rw [List.map_map]
    exact (List.map_congr_left (fun x _ => strT_data x)).trans (List.map_id _)
  rcases Nat.eq_zero_or_pos l.length with h0 | h0
  · have hl0 := List.eq_nil_of_length_eq_zero h0
    subst hl0
    obtain ⟨a, c, rfl⟩ := own_shape h
    refine (Tryz.strings_Join_none a c (strT sep) u).mono ?_
    rintro e w' ⟨rfl, rfl⟩
    exact ⟨rfl, Below.refl _ _⟩
  · obtain ⟨g, c, rfl, hc⟩ := own_form3 h h0
    have hcap : l.length ≤ c := hc
    have hlt : g < u.heap.size := (h.lt g rfl).2
    have hcells : ∀ (j : Nat) x, (l.map strT)[j]? = some x → u.cell? ⟨g, 0 + j, none⟩ = some (.string x) := fun j x hx => by
      have hj : j < l.length := by
        rcases Nat.lt_or_ge j l.length with h1 | h1
        · exact h1
        · rw [List.getElem?_eq_none (by rw [List.length_map]; exact h1)] at hx; cases hx
      rw [List.getElem?_map, List.getElem?_eq_getElem hj] at hx
      injection hx with hx
      subst hx
      obtain ⟨g', e, hce⟩ := OwnT.at h hj
      injection e with e
      injection e with e _ _
      subst e
      rw [Nat.zero_add, hce, List.getD_eq_getElem?_getD, List.getElem?_eq_getElem hj]
      rfl
    have G := Tryz.strings_Join g 0 c (l.map strT) (strT sep) u hcells hlt (by rw [List.length_map]; omega) (by rw [List.length_map]; exact hcap) (by rw [hmap, strT_data]; omega)
    rw [List.length_map, hmap, strT_data] at G
    exact G
set_option maxRecDepth 20000 in
theorem app1T {w : World} {B : Nat} {v : Value} {l : List Txt} (h : OwnT w B v l) (x : Txt) (hn : l.length ≤ 100000) (hB : B ≤ w.heap.size) :
    ∃ a c w', (Builtin.append_ #[24, 24] 24 #[v, .slice (some ⟨w.heap.size, 0, none⟩) 1 1]).run Tryz.prog (w.alloc (.cells #[.string (strT x)] 9)) = .ok (.slice a (l.length + 1) c) w' ∧ OwnT w' B (.slice a (l.length + 1) c) (l ++ [x]) ∧ Below B w w' := by
  obtain ⟨i0, hi, hz0, hz1, hz2⟩ := info_parts Tryz.infoTx
  have hO : OwnI w B (fun _ => 0) 0 9 1 v l.length (l.map fun t => .string (strT t)) := ⟨h, fun _ _ => rfl⟩
  obtain ⟨a, c, w', hr, hO', hk, -, -⟩ := own_appI (tS := 24) (ty := 24) Tryz.underlying24 hi hz0 hz1 hz2 rfl (by decide) hO #[.string (strT x)] rfl (fun u hu => by simp at hu; subst hu; rfl) hn (by decide) hB (fun _ _ => rfl)
  refine ⟨a, c, w', hr, ?_, hk.below (fun k e => (h.lt k e).1) hB⟩
  unfold OwnT
  rw [List.map_append, List.length_append]
  exact hO'.1
set_option maxRecDepth 20000 in
theorem Tryz.infoIn : (Tryz.prog.info? 3).map (fun i => (i.zero, i.size, i.bytes)) = some (some (.int .i64 0), 1, 8) := by kernel_rfl
set_option maxRecDepth 20000 in
theorem app1N {w : World} {B : Nat} {v : Value} {l : List Int} (h : Own w B v l) (x : Int) (hn : l.length ≤ 100000) (hB : B ≤ w.heap.size) :
    ∃ a c w', (Builtin.append_ #[37, 37] 37 #[v, .slice (some ⟨w.heap.size, 0, none⟩) 1 1]).run Tryz.prog (w.alloc (.cells #[.int .i64 x] 3)) = .ok (.slice a (l.length + 1) c) w' ∧ Own w' B (.slice a (l.length + 1) c) (l ++ [x]) ∧ Below B w w' := by
  obtain ⟨i0, hi, hz0, hz1, hz2⟩ := info_parts Tryz.infoIn
  have hO : OwnI w B (fun _ => 0) 0 3 1 v l.length (numCells l) := ⟨h, fun _ _ => rfl⟩
  obtain ⟨a, c, w', hr, hO', hk, -, -⟩ := own_appI (tS := 37) (ty := 37) Tryz.underlying37 hi hz0 hz1 hz2 rfl (by decide) hO #[.int .i64 x] rfl (fun u hu => by simp at hu; subst hu; rfl) hn (by decide) hB (fun _ _ => rfl)
  refine ⟨a, c, w', hr, ?_, hk.below (fun k e => (h.lt k e).1) hB⟩
  unfold Own
  rw [numCells_snoc, List.length_append]
  exact hO'.1
set_option maxRecDepth 20000 in
theorem fits1C (r : Rl) (a : Option Addr) (m c : Nat) (w : World) (h : r.name.length ≤ 16) :
    Calls Tryz.prog 24 #[.agg #[.string (strT r.name), .slice a m c, .bool r.skip]] w fun e w' => e = .returned (.bool false) ∧ Below w.heap.size w w' := by
  have hsz := strT_size r.name
  have hz : ¬ (16 : Int) < ((strT r.name).size : Int) := by omega
  have hB := hid (al' w (.cells #[.string (strT r.name), .slice a m c, .bool r.skip] 68))
  clear hsz h
  generalize strT r.name = S at *
  generalize r.skip = b at *
  go_enter Tryz.func24, Tryz.ntmps24
  go_wp2
  go_ret
  exact ⟨by first | rfl | simp, hB.out⟩
set_option maxRecDepth 20000 in
theorem fits2C (s : Txt) (w : World) (h : s.length ≤ 16) :
    Calls Tryz.prog 26 #[.string (strT s)] w fun e w' => e = .returned (.bool false) ∧ Below w.heap.size w w' := by
  have hsz := strT_size s
  have hz : ¬ (16 : Int) < ((strT s).size : Int) := by omega
  clear hsz h
  generalize strT s = S at *
  go_enter Tryz.func26, Tryz.ntmps26
  go_wp2
  go_ret
  exact ⟨by first | rfl | simp, Below.refl _ _⟩
set_option maxRecDepth 20000 in
theorem fits3C (p : Pd) (a : Option Addr) (c : Nat) (w : World) (h : p.right.length ≤ 8) :
    Calls Tryz.prog 28 #[.agg #[.int .i64 p.left, .slice a p.right.length c, .int .i64 p.prec]] w fun e w' => e = .returned (.bool false) ∧ Below w.heap.size w w' := by
  have hz : ¬ (8 : Int) < (p.right.length : Int) := by omega
  have hB := hid (al' w (.cells #[.int .i64 p.left, .slice a p.right.length c, .int .i64 p.prec] 39))
  clear h
  generalize p.right.length = n at *
  generalize p.left = l at *
  generalize p.prec = q at *
  go_enter Tryz.func28, Tryz.ntmps28
  go_wp2
  go_ret
  exact ⟨by first | rfl | simp, hB.out⟩
set_option maxRecDepth 20000 in
set_option maxHeartbeats 4000000 in
theorem idxRC (v : Value) (l : List Rl) (w : World) (h : Lst 3 RuleAt w v l) (hl : l.length ≤ 1000000) (hall : ∀ x ∈ l, x.name.length ≤ 16) :
    Calls Tryz.prog 50 #[v, .func (.func 24) #[] #[]] w fun e w' => e = .returned (.int .i64 (-1)) ∧ Below w.heap.size w w' := by
  obtain ⟨aa, ca, rfl, _, _, hA⟩ := h
  have hA := hid hA
  obtain ⟨n, hnn⟩ : ∃ n, Hid (l.length = n) := ⟨_, hid rfl⟩
  rw [hnn.out] at hl ⊢
  go_enter Tryz.func50, Tryz.ntmps50
  go_wp2
  go_loopw [8] (fun i wr => ∃ k : Nat, k ≤ n ∧ i = .int .i64 (k : Int) ∧ Hid (Below w.heap.size w wr)) (fun i _ => n - (intOf i).toNat)
  case atStart => exact ⟨0, Nat.zero_le _, rfl, hid (Below.refl _ w)⟩
  case round =>
    obtain ⟨k, hk, rfl, hbl⟩ := hrel
    by_cases hlt : k < n
    · have hltz : (k : Int) < (n : Int) := by omega
      have hkl : k < l.length := by rw [hnn.out]; exact hlt
      obtain ⟨b1, o1, rfl, hb1, hc1⟩ := hA.out k hkl
      obtain ⟨u1, x0, x1, x2, hq1⟩ := hc1.keep hbl.out
      obtain ⟨a1, c1, rfl⟩ := shapeC hq1
      clear hq1
      have G := hid (fun u => fits1C l[k] a1 l[k].re.length c1 u (hall _ (List.getElem_mem hkl)))
      clear hb1 hc1
      generalize l[k] = x at *
      go_wp2_with (go_at_call 24; refine (G.out _).mono ?_; clear G; rintro e w3 ⟨rfl, hc⟩; have hc := hid hc)
      go_roundw
      case rel => exact ⟨k + 1, by omega, by go_num, hid (bl_step hbl.out hc.out)⟩
      case measure => simp [intOf]; omega
    · have hltz : ¬ (k : Int) < (n : Int) := by omega
      go_wp2
      go_ret
      exact ⟨rfl, hbl.out⟩
set_option maxRecDepth 20000 in
theorem conRC (v : Value) (l : List Rl) (w : World) (h : Lst 3 RuleAt w v l) (hl : l.length ≤ 1000000) (hall : ∀ x ∈ l, x.name.length ≤ 16) :
    Calls Tryz.prog 23 #[v, .func (.func 24) #[] #[]] w fun e w' => e = .returned (.bool false) ∧ Below w.heap.size w w' := by
  have G := hid (idxRC v l w h hl hall)
  obtain ⟨aa, ca, rfl, _⟩ := h
  go_enter Tryz.func23, Tryz.ntmps23
  go_wp2_with (go_at_call 50; refine G.out.mono ?_; clear G; rintro e w3 ⟨rfl, hc⟩; have hc := hid hc)
  go_ret
  exact ⟨by first | rfl | simp, hc.out⟩
set_option maxRecDepth 20000 in
set_option maxHeartbeats 4000000 in
theorem idxTC (v : Value) (l : List Txt) (w : World) (h : Lst 1 TxtAt w v l) (hl : l.length ≤ 1000000) (hall : ∀ x ∈ l, x.length ≤ 16) :
    Calls Tryz.prog 51 #[v, .func (.func 26) #[] #[]] w fun e w' => e = .returned (.int .i64 (-1)) ∧ Below w.heap.size w w' := by
  obtain ⟨aa, ca, rfl, _, _, hA⟩ := h
  have hA := hid hA
  obtain ⟨n, hnn⟩ : ∃ n, Hid (l.length = n) := ⟨_, hid rfl⟩
  rw [hnn.out] at hl ⊢
  go_enter Tryz.func51, Tryz.ntmps51
  go_wp2
  go_loopw [8] (fun i wr => ∃ k : Nat, k ≤ n ∧ i = .int .i64 (k : Int) ∧ Hid (Below w.heap.size w wr)) (fun i _ => n - (intOf i).toNat)
  case atStart => exact ⟨0, Nat.zero_le _, rfl, hid (Below.refl _ w)⟩
  case round =>
    obtain ⟨k, hk, rfl, hbl⟩ := hrel
    by_cases hlt : k < n
    · have hltz : (k : Int) < (n : Int) := by omega
      have hkl : k < l.length := by rw [hnn.out]; exact hlt
      obtain ⟨b1, o1, rfl, hb1, hc1⟩ := hA.out k hkl
      have x0 : wr.cell? ⟨b1, o1 + k * 1, none⟩ = some (.string (strT l[k])) := keep_cell hbl.out hc1
      rw [Nat.mul_one] at x0
      have G := hid (fun u => fits2C l[k] u (hall _ (List.getElem_mem hkl)))
      clear hb1 hc1
      generalize l[k] = x at *
      go_wp2_with (go_at_call 26; refine (G.out _).mono ?_; clear G; rintro e w3 ⟨rfl, hc⟩; have hc := hid hc)
      go_roundw
      case rel => exact ⟨k + 1, by omega, by go_num, hid (bl_step hbl.out hc.out)⟩
      case measure => simp [intOf]; omega
    · have hltz : ¬ (k : Int) < (n : Int) := by omega
      go_wp2
      go_ret
      exact ⟨rfl, hbl.out⟩
set_option maxRecDepth 20000 in
theorem conTC (v : Value) (l : List Txt) (w : World) (h : Lst 1 TxtAt w v l) (hl : l.length ≤ 1000000) (hall : ∀ x ∈ l, x.length ≤ 16) :
    Calls Tryz.prog 25 #[v, .func (.func 26) #[] #[]] w fun e w' => e = .returned (.bool false) ∧ Below w.heap.size w w' := by
  have G := hid (idxTC v l w h hl hall)
  obtain ⟨aa, ca, rfl, _⟩ := h
  go_enter Tryz.func25, Tryz.ntmps25
  go_wp2_with (go_at_call 51; refine G.out.mono ?_; clear G; rintro e w3 ⟨rfl, hc⟩; have hc := hid hc)
  go_ret
  exact ⟨by first | rfl | simp, hc.out⟩
set_option maxRecDepth 20000 in
set_option maxHeartbeats 4000000 in
theorem idxPC (v : Value) (l : List Pd) (w : World) (h : Lst 3 ProdAt w v l) (hl : l.length ≤ 1000000) (hall : ∀ x ∈ l, x.right.length ≤ 8) :
    Calls Tryz.prog 52 #[v, .func (.func 28) #[] #[]] w fun e w' => e = .returned (.int .i64 (-1)) ∧ Below w.heap.size w w' := by
  obtain ⟨aa, ca, rfl, _, _, hA⟩ := h
  have hA := hid hA
  obtain ⟨n, hnn⟩ : ∃ n, Hid (l.length = n) := ⟨_, hid rfl⟩
  rw [hnn.out] at hl ⊢
  go_enter Tryz.func52, Tryz.ntmps52
  go_wp2
  go_loopw [8] (fun i wr => ∃ k : Nat, k ≤ n ∧ i = .int .i64 (k : Int) ∧ Hid (Below w.heap.size w wr)) (fun i _ => n - (intOf i).toNat)
  case atStart => exact ⟨0, Nat.zero_le _, rfl, hid (Below.refl _ w)⟩
  case round =>
    obtain ⟨k, hk, rfl, hbl⟩ := hrel
    by_cases hlt : k < n
    · have hltz : (k : Int) < (n : Int) := by omega
      have hkl : k < l.length := by rw [hnn.out]; exact hlt
      obtain ⟨b1, o1, rfl, hb1, hc1⟩ := hA.out k hkl
      obtain ⟨u1, x0, x1, x2, hq1⟩ := hc1.keep hbl.out
      obtain ⟨a1, c1, rfl⟩ := shapeN hq1
      clear hq1
      have G := hid (fun u => fits3C l[k] a1 c1 u (hall _ (List.getElem_mem hkl)))
      clear hb1 hc1
      generalize l[k] = x at *
      go_wp2_with (go_at_call 28; refine (G.out _).mono ?_; clear G; rintro e w3 ⟨rfl, hc⟩; have hc := hid hc)
      go_roundw
      case rel => exact ⟨k + 1, by omega, by go_num, hid (bl_step hbl.out hc.out)⟩
      case measure => simp [intOf]; omega
    · have hltz : ¬ (k : Int) < (n : Int) := by omega
      go_wp2
      go_ret
      exact ⟨rfl, hbl.out⟩
set_option maxRecDepth 20000 in
theorem conPC (v : Value) (l : List Pd) (w : World) (h : Lst 3 ProdAt w v l) (hl : l.length ≤ 1000000) (hall : ∀ x ∈ l, x.right.length ≤ 8) :
    Calls Tryz.prog 27 #[v, .func (.func 28) #[] #[]] w fun e w' => e = .returned (.bool false) ∧ Below w.heap.size w w' := by
  have G := hid (idxPC v l w h hl hall)
  obtain ⟨aa, ca, rfl, _⟩ := h
  go_enter Tryz.func27, Tryz.ntmps27
  go_wp2_with (go_at_call 52; refine G.out.mono ?_; clear G; rintro e w3 ⟨rfl, hc⟩; have hc := hid hc)
  go_ret
  exact ⟨by first | rfl | simp, hc.out⟩
set_option maxRecDepth 20000 in
set_option maxHeartbeats 8000000 in
theorem fitsC (g : Gm) (rv nv lv pv : Value) (w : World) (hV : GmV w rv nv lv pv g) (hr : ReadG g) :
    Calls Tryz.prog 12 #[gmA rv nv lv pv g.start] w fun e w' => e = .returned (.bool true) ∧ Below w.heap.size w w' := by
  obtain ⟨ra, rc, rfl⟩ := hV.rules.shape
  obtain ⟨na, nc, rfl⟩ := hV.nonts.shape
  obtain ⟨la, lc, rfl⟩ := hV.levels.shape
  obtain ⟨pa, pc, rfl⟩ := hV.prods.shape
  have hB1 := al' w (.cells #[.slice ra g.rules.length rc, .slice na g.nonts.length nc, .slice la g.levels.length lc, .slice pa g.prods.length pc, .int .i64 g.start] 28)
  have k1 := heap_new w (.cells #[.slice ra g.rules.length rc, .slice na g.nonts.length nc, .slice la g.levels.length lc, .slice pa g.prods.length pc, .int .i64 g.start] 28)
  obtain ⟨W, hW⟩ : ∃ x, w.alloc (.cells #[.slice ra g.rules.length rc, .slice na g.nonts.length nc, .slice la g.levels.length lc, .slice pa g.prods.length pc, .int .i64 g.start] 28) = x := ⟨_, rfl⟩
  rw [hW] at hB1 k1
  have hKp := hid (fun u (hu : Below w.heap.size w u) => hV.keep hu)
  have l1 := hr.rules
  have l2 := hr.nonts
  have l3 := hr.prods
  have l4 := hr.snd.levels
  have b1 : ((g.rules.length : Int) ≤ 16) := by omega
  have b2 : ((g.nonts.length : Int) ≤ 16) := by omega
  have b3 : ((g.prods.length : Int) ≤ 40) := by omega
  have cA : Hid (∀ d os, Calls Tryz.prog 21 #[gmA (.slice ra g.rules.length rc) (.slice na g.nonts.length nc) (.slice la g.levels.length lc) (.slice pa g.prods.length pc) g.start] (grow (redrawn W d) os) fun e w'' => e = .returned (.int .i64 (g.terms : Int)) ∧ ∃ p : Regrown, w'' = grow (redrawn W p.d) p.os) := hid (fun d os => Calls.regrown_of (termsL _ _ _ _ g.start g.rules _ (rulL_of (hKp.out _ (bl_step hB1 (below_regrown W d os))).rules) (by omega)))
  have cB : Hid (∀ d os, Calls Tryz.prog 23 #[.slice ra g.rules.length rc, .func (.func 24) #[] #[]] (grow (redrawn W d) os) fun e w'' => e = .returned (.bool false) ∧ ∃ p : Regrown, w'' = grow (redrawn W p.d) p.os) := hid (fun d os => Calls.regrown_of (conRC _ g.rules _ (hKp.out _ (bl_step hB1 (below_regrown W d os))).rules (by omega) hr.rname))
  have cC : Hid (∀ d os, Calls Tryz.prog 25 #[.slice na g.nonts.length nc, .func (.func 26) #[] #[]] (grow (redrawn W d) os) fun e w'' => e = .returned (.bool false) ∧ ∃ p : Regrown, w'' = grow (redrawn W p.d) p.os) := hid (fun d os => Calls.regrown_of (conTC _ g.nonts _ (hKp.out _ (bl_step hB1 (below_regrown W d os))).nonts (by omega) hr.nname))
  have cD : Hid (∀ d os, Calls Tryz.prog 27 #[.slice pa g.prods.length pc, .func (.func 28) #[] #[]] (grow (redrawn W d) os) fun e w'' => e = .returned (.bool false) ∧ ∃ p : Regrown, w'' = grow (redrawn W p.d) p.os) := hid (fun d os => Calls.regrown_of (conPC _ g.prods _ (hKp.out _ (bl_step hB1 (below_regrown W d os))).prods (by omega) (fun p hp => (hr.snd.prods p hp).2.2.2.2.1)))
  have b4 : ((g.levels.length : Int) == (g.terms : Int) + 1) = true := by rw [l4]; simp
  have b5 : (g.terms : Int) ≤ 1000000 := by have : g.terms ≤ g.rules.length := trmK_le _ _; omega
  obtain ⟨z0, z1, z2, z3, z4⟩ := cells5m k1
  have y0 := cell_regrown z0
  have y1 := cell_regrown z1
  have y2 := cell_regrown z2
  have y3 := cell_regrown z3
  have y4 := cell_regrown z4
  have hB := hid hB1
  clear hV hr hKp l1 l2 l3 l4 hB1 k1
  generalize g.rules.length = rn at *
  generalize g.nonts.length = nn at *
  generalize g.levels.length = ll at *
  generalize g.prods.length = pp at *
  generalize g.terms = tm at *
  generalize g.start = st at *
  go_enter Tryz.func12, Tryz.ntmps12
  go_wp2_with fail
  clear z0 z1 z2 z3 z4 hW
  refine wp_region_quiet_below (by kernel_rfl) (by kernel_rfl) ?_
  repeat (first | go_big_quiet_step (first | exact cA.out _ _ | exact cB.out _ _ | exact cC.out _ _ | exact cD.out _ _) | quiet_step (first | exact cA.out _ _ | exact cB.out _ _ | exact cC.out _ _ | exact cD.out _ _))
  refine wpQuiet_nil ?_
  intro _ hw'
  obtain ⟨⟨dq, osq⟩, hw''⟩ := hw'
  subst hw''
  go_wp2
  go_ret
  exact ⟨by simp, bl_step hB.out (below_regrown W dq osq)⟩

end Go.Proofs.YtcledgljbmepaaaGreatDoor
