/- spots.spot, inTurn. spots.inTurn. spots.joined. -/
import Derived.Test.YtjelgphhlcecoaaGreatDoorJ17
namespace Go.Proofs.YtjelgphhlcecoaaGreatDoor
open Go.RowKit

theorem cells3p {w : World} {b : Nat} {x0 x1 x2 : Value} {T : TypeId} (h : w.heap[b]? = some (.cells #[x0, x1, x2] T (0, 0))) :
    w.cell? ⟨b, 0, none⟩ = some x0 ∧ w.cell? ⟨b, 1, none⟩ = some x1 ∧ w.cell? ⟨b, 2, none⟩ = some x2 ∧ w.frozen? ⟨b, 0, none⟩ = false ∧ w.frozen? ⟨b, 1, none⟩ = false ∧ w.frozen? ⟨b, 2, none⟩ = false :=
  ⟨blk_cell h rfl, blk_cell h rfl, blk_cell h rfl, blk_frozen h 0, blk_frozen h 1, blk_frozen h 2⟩
set_option maxRecDepth 20000 in
theorem spotP (x : Int) (w : World) : Calls Tryz.prog 64 #[.int .i64 x] w fun e w' => ∃ fv lv, e = .returned (.agg #[.bool false, fv, lv]) ∧ Own w' w.heap.size fv [x] ∧ Own w' w.heap.size lv [x] ∧ Below w.heap.size w w' := by
  go_enter Tryz.func64, Tryz.ntmps64
  go_wp2
  refine bodyPost_ret (v := .agg #[.bool false, .slice (some ⟨w.heap.size + 1, 0, none⟩) 1 1, .slice (some ⟨w.heap.size + 1 + 1, 0, none⟩) 1 1]) (by simp [results, Tryz.results64, go_sem]) rfl ⟨_, _, rfl, ?_, ?_, bl_step (bl_step (al' w _) (al' _ _)) (al' _ _)⟩
  · have h := (Own.lit1 (w.alloc (.cells #[.bool false, .slice (some ⟨w.heap.size + 1, 0, none⟩) 1 1, .slice (some ⟨w.heap.size + 1 + 1, 0, none⟩) 1 1] 117)) x).alloc (.cells #[.int .i64 x] 3)
    have e : (w.alloc (.cells #[.bool false, .slice (some ⟨w.heap.size + 1, 0, none⟩) 1 1, .slice (some ⟨w.heap.size + 1 + 1, 0, none⟩) 1 1] 117)).heap.size = w.heap.size + 1 := by simp
    rw [e] at h
    exact own_base h (by omega)
  · have h := Own.lit1 ((w.alloc (.cells #[.bool false, .slice (some ⟨w.heap.size + 1, 0, none⟩) 1 1, .slice (some ⟨w.heap.size + 1 + 1, 0, none⟩) 1 1] 117)).alloc (.cells #[.int .i64 x] 3)) x
    have e : ((w.alloc (.cells #[.bool false, .slice (some ⟨w.heap.size + 1, 0, none⟩) 1 1, .slice (some ⟨w.heap.size + 1 + 1, 0, none⟩) 1 1] 117)).alloc (.cells #[.int .i64 x] 3)).heap.size = w.heap.size + 1 + 1 := by simp
    rw [e] at h
    exact own_base h (by omega)

theorem unionL_comm (a b : List Int) : unionL a b = unionL b a := ofL_congr fun x => by simp [or_comm]
/-- what a part's fields hold -/
structure PtV (F : Nat → Prop) (w : World) (fv lv : Value) (f l : List Int) : Prop where
  first : Nums w fv f
  offF : Off F fv
  last : Nums w lv l
  offL : Off F lv
theorem PtV.keep {F : Nat → Prop} {w w' : World} {fv lv : Value} {f l : List Int} (h : PtV F w fv lv f l) (hb : Below w.heap.size w w') : PtV F w' fv lv f l := ⟨h.first.keep hb, h.offF, h.last.keep hb, h.offL⟩
theorem PtV.kept {F : Nat → Prop} {w w' : World} {fv lv : Value} {f l : List Int} (h : PtV F w fv lv f l) (hb : Kept F w w') : PtV F w' fv lv f l := ⟨h.first.kept hb h.offF, h.offF, h.last.kept hb h.offL, h.offL⟩

end Go.Proofs.YtjelgphhlcecoaaGreatDoor
namespace Go.Proofs.YtjelgphhlcecoaaGreatDoor
open Go.RowKit

theorem hs_keep {w w' : World} {b : Nat} {x : Obj} (h : w.heap[b]? = some x) (hb : Below w.heap.size w w') : w'.heap[b]? = some x := (hb.block b (blk_lt h)).trans h
theorem hs_set {w : World} {b q o : Nat} {x : Obj} {v : Value} (h : w.heap[b]? = some x) (hn : b ≠ q) : (w.setCell ⟨q, o, none⟩ v).heap[b]? = some x := (Below.heap_setCell w ⟨q, o, none⟩ v b (by simpa using hn)).trans h
def put3 (w : World) (b : Nat) (y0 y1 y2 : Value) : World := ((w.setCell ⟨b, 0, none⟩ y0).setCell ⟨b, 1, none⟩ y1).setCell ⟨b, 2, none⟩ y2
theorem put3_blk {w : World} {b : Nat} {x0 x1 x2 y0 y1 y2 : Value} {T : TypeId} {fr : Nat × Nat} (h : w.heap[b]? = some (.cells #[x0, x1, x2] T fr)) : (put3 w b y0 y1 y2).heap[b]? = some (.cells #[y0, y1, y2] T fr) := heap_setCell (heap_setCell (heap_setCell h))
theorem put3_kept {F : Nat → Prop} {w u : World} {b : Nat} {y0 y1 y2 : Value} (h : Kept F w u) (hb : F b) : Kept F w (put3 u b y0 y1 y2) := ((h.setCell fun _ => hb).setCell fun _ => hb).setCell fun _ => hb
theorem Off.sub {F G : Nat → Prop} {v : Value} (h : Off F v) (hG : ∀ k, G k → F k) : Off G v := fun ad n c e h0 hg => h ad n c e h0 (hG _ hg)
theorem PtV.more {F G : Nat → Prop} {w : World} {fv lv : Value} {f l : List Int} (h : PtV F w fv lv f l) (hG : ∀ k, G k → F k ∨ w.heap.size ≤ k) : PtV G w fv lv f l := ⟨h.first, h.offF.more h.first hG, h.last, h.offL.more h.last hG⟩
/-- what changes, and three more blocks -/
def Fx (F : Nat → Prop) (b : Nat) : Nat → Prop := fun k => F k ∨ (b ≤ k ∧ k < b + 3)
theorem LkS.more {F : Nat → Prop} {B pb n : Nat} {gv : Value} {w u : World} {gs : List Value} {fl : List (List Int)} (h : LkS F B pb gv n w gs fl) (hb : Below w.heap.size w u) (hs : w.heap.size + 3 ≤ u.heap.size) : LkS (Fx F w.heap.size) B pb gv n u gs fl where
  base := (h.keep hb).base
  lt := fun k hk => by
    rcases hk with hk | hk
    · exact (h.keep hb).lt k hk
    · omega
  row := fun k e => ⟨Or.inl (h.row k e).1, (h.row k e).2⟩
  inF := Or.inl h.inF
  p := (h.keep hb).p
  own := (h.keep hb).own
  nums := (h.nums.more (G := Fx F w.heap.size) fun k hk => by
    rcases hk with hk | hk
    · exact Or.inl hk
    · exact Or.inr hk.1).kept (Kept.of_below hb)
  len := h.len
  n60 := h.n60
  good := h.good
theorem LkS.less {F : Nat → Prop} {b B pb n : Nat} {gv : Value} {w u : World} {gs : List Value} {fl : List (List Int)} (h : LkS (Fx F b) B pb gv n w gs fl) (hF : ∀ k, F k → k < b) (hrow : ∀ k, gv.ownBlock = some k → F k) (hp : F pb) {k0 : Nat} (h0 : b ≤ k0) (h1 : k0 < b + 3) (hk : Kept (oneBlk k0) w u) : LkS F B pb gv n u gs fl where
  base := Nat.le_trans h.base hk.size
  lt := fun k hk' => Nat.lt_of_lt_of_le (h.lt k (Or.inl hk')) hk.size
  row := fun k e => ⟨hrow k e, (h.row k e).2⟩
  inF := hp
  p := hk.cell h.p (h.lt _ h.inF) (fun e => by have := hF _ hp; have e' : pb = k0 := e; omega)
  own := own_kept h.own hk fun k e e' => by have := hF _ (hrow k e); have e2 : k = k0 := e'; omega
  nums := ⟨h.nums.1, fun j => ⟨(h.nums.2 j).1.kept hk ((h.nums.2 j).2.sub fun k e => Or.inr (by have e' : k = k0 := e; omega)), (h.nums.2 j).2.sub fun k e => Or.inl e⟩⟩
  len := h.len
  n60 := h.n60
  good := h.good

set_option maxRecDepth 20000 in
set_option maxHeartbeats 4000000 in
theorem inTurnC (F : Nat → Prop) (B pb n : Nat) (gv fa la fb lb : Value) (na nb : Bool) (lfa lla lfb llb : List Int) (gs : List Value) (fl : List (List Int)) (w : World)
    (hS : LkS F B pb gv n w gs fl) (hA : PtV F w fa la lfa lla) (hB : PtV F w fb lb lfb llb) (hlla : InN lla n) (h1 : lla.length ≤ 60) (hlfb : InN lfb n) (h2 : lfb.length ≤ 60) (h3 : lfa.length ≤ 60) (h4 : llb.length ≤ 60) :
    Calls Tryz.prog 82 #[.agg #[.bool na, fa, la], .agg #[.bool nb, fb, lb], .func (.func 62) #[] #[.pointer (some ⟨pb, 0, none⟩)]] w fun e w' => ∃ fv lv, e = .returned (.agg #[.bool (na && nb), fv, lv]) ∧
      PtV F w' fv lv (if na then unionL lfa lfb else lfa) (if nb then unionL lla llb else llb) ∧ (∃ gs', LkS F B pb gv n w' gs' (linkL fl lfb lla)) ∧ Kept (fun k => gv.ownBlock = some k) w w' := by
  have hlt := hid hS.lt
  have hrow := hid hS.row
  have hin := hid hS.inF
  have hnb : Hid (∀ k, w.heap.size ≤ k → ¬ gv.ownBlock = some k) := hid (fun k hk e => by have := hlt.out k (hrow.out k e).1; omega)
  have GU := hid (fun va vb (la lb : List Int) u (h1 : la.length ≤ 60) (h2 : lb.length ≤ 60) hA hB => setsUnion va vb la lb u (by omega) (by omega) hA hB)
  obtain ⟨fa1, fa2, rfl⟩ : ∃ a c, fa = .slice a lfa.length c := by obtain ⟨a, c, e, _⟩ := hA.first; exact ⟨a, c, e⟩
  obtain ⟨la1, la2, rfl⟩ : ∃ a c, la = .slice a lla.length c := by obtain ⟨a, c, e, _⟩ := hA.last; exact ⟨a, c, e⟩
  obtain ⟨fb1, fb2, rfl⟩ : ∃ a c, fb = .slice a lfb.length c := by obtain ⟨a, c, e, _⟩ := hB.first; exact ⟨a, c, e⟩
  obtain ⟨lb1, lb2, rfl⟩ : ∃ a c, lb = .slice a llb.length c := by obtain ⟨a, c, e, _⟩ := hB.last; exact ⟨a, c, e⟩
  obtain ⟨W0, hW0⟩ : ∃ W0, W0 = ((w.alloc (.cells #[.bool na, .slice fa1 lfa.length fa2, .slice la1 lla.length la2] 117)).alloc (.cells #[.bool nb, .slice fb1 lfb.length fb2, .slice lb1 llb.length lb2] 117)).alloc (.cells #[.bool false, .slice none 0 0, .slice none 0 0] 117) := ⟨_, rfl⟩
  have hb0 : Below w.heap.size w W0 := by rw [hW0]; exact bl_step (bl_step (al' w _) (al' _ _)) (al' _ _)
  have hs0 : W0.heap.size = w.heap.size + 3 := by rw [hW0]; simp
  have hblk : W0.heap[w.heap.size]? = some (.cells #[.bool na, .slice fa1 lfa.length fa2, .slice la1 lla.length la2] 117) ∧ W0.heap[w.heap.size + 1]? = some (.cells #[.bool nb, .slice fb1 lfb.length fb2, .slice lb1 llb.length lb2] 117) ∧ W0.heap[w.heap.size + 2]? = some (.cells #[.bool false, .slice none 0 0, .slice none 0 0] 117) := by rw [hW0]; exact three_blocks w _ _ _
  have hFx : ∀ k, Fx F w.heap.size k → F k ∨ w.heap.size ≤ k := fun k hk => by
    rcases hk with hk | hk
    · exact Or.inl hk
    · exact Or.inr hk.1
  have hA0 := (hA.more hFx).keep hb0
  have hB0 := (hB.more hFx).keep hb0
  have GL := hid (linkC (Fx F w.heap.size) B pb n _ _ gv lla lfb gs fl W0 (hS.more hb0 (by omega)) hA0.last hA0.offL hB0.first hB0.offF hlla h1 hlfb h2)
  have hK : Hid (∀ w1, Kept (fun k => gv.ownBlock = some k) W0 w1 → (w1.heap[w.heap.size]? = some (.cells #[.bool na, .slice fa1 lfa.length fa2, .slice la1 lla.length la2] 117) ∧ w1.heap[w.heap.size + 1]? = some (.cells #[.bool nb, .slice fb1 lfb.length fb2, .slice lb1 llb.length lb2] 117) ∧ w1.heap[w.heap.size + 2]? = some (.cells #[.bool false, .slice none 0 0, .slice none 0 0] 117)) ∧ w.heap.size + 3 ≤ w1.heap.size ∧ Kept (fun k => gv.ownBlock = some k) w w1 ∧ PtV (Fx F w.heap.size) w1 (.slice fa1 lfa.length fa2) (.slice la1 lla.length la2) lfa lla ∧ PtV (Fx F w.heap.size) w1 (.slice fb1 lfb.length fb2) (.slice lb1 llb.length lb2) lfb llb) := hid (fun w1 K1 => by
    have KF : Kept (Fx F w.heap.size) W0 w1 := K1.mono fun k _ e => Or.inl (hrow.out k e).1
    exact ⟨⟨K1.blk hblk.1 (hnb.out _ (Nat.le_refl _)), K1.blk hblk.2.1 (hnb.out _ (by omega)), K1.blk hblk.2.2 (hnb.out _ (by omega))⟩, by have := K1.size; omega, (Kept.of_below hb0).step K1 (fun k hk e => e), hA0.kept KF, hB0.kept KF⟩)
  clear hS hA hB hblk hA0 hB0 hFx
  subst hW0
  have hFlt : Hid (∀ k, Fx F w.heap.size k → k < w.heap.size + 3) := hid (fun k hk => by
    rcases hk with hk | hk
    · have := hlt.out k hk; omega
    · exact hk.2)
  have hend : Hid (∀ w1 u, Kept (oneBlk (w.heap.size + 2)) w1 u → Kept (fun k => gv.ownBlock = some k) w w1 → (∃ gs', LkS (Fx F w.heap.size) B pb gv n w1 gs' (linkL fl lfb lla)) → (∃ gs', LkS F B pb gv n u gs' (linkL fl lfb lla)) ∧ Kept (fun k => gv.ownBlock = some k) w u) := hid (fun w1 u h1 h2 ⟨gs', h3⟩ => ⟨⟨gs', h3.less hlt.out (fun k e => (hrow.out k e).1) hin.out (by omega) (by omega) h1⟩, h2.step h1 (fun k hk e => by have e' : k = w.heap.size + 2 := e; omega)⟩)
  have hsub : Hid (∀ v, Off (Fx F w.heap.size) v → Off F v) := hid (fun v h => h.sub fun k e => Or.inl e)
  have hone : Hid (∀ v, Off (Fx F w.heap.size) v → Off (oneBlk (w.heap.size + 2)) v) := hid (fun v h => h.sub fun k e => Or.inr (by have e' : k = w.heap.size + 2 := e; omega))
  cases na with
  | false =>
    cases nb with
    | false =>
      go_enter Tryz.func82, Tryz.ntmps82
      go_wp2_with (first
        | (go_at_call 62; refine GL.out.mono ?_; rintro e w1 ⟨rfl, hS1, K1⟩; obtain ⟨⟨q1, q2, q3⟩, hsz, K2, pA, pB⟩ := hK.out w1 K1; obtain ⟨a0, a1, a2, a3, a4, a5⟩ := cells3p q1; obtain ⟨b0, b1, b2, b3, b4, b5⟩ := cells3p q2; have Q1 := hs_keep q1 (al' w1 (.cells #[.bool false, .slice fa1 lfa.length fa2, .slice lb1 llb.length lb2] 117)); have Q2 := hs_keep q2 (al' w1 (.cells #[.bool false, .slice fa1 lfa.length fa2, .slice lb1 llb.length lb2] 117)); have Q3 := hs_keep q3 (al' w1 (.cells #[.bool false, .slice fa1 lfa.length fa2, .slice lb1 llb.length lb2] 117)); have Q4 := heap_new w1 (.cells #[.bool false, .slice fa1 lfa.length fa2, .slice lb1 llb.length lb2] 117); obtain ⟨A0, A1, A2, A3, A4, A5⟩ := cells3p Q1; obtain ⟨B0, B1, B2, B3, B4, B5⟩ := cells3p Q2; obtain ⟨Z0, Z1, Z2, Z3, Z4, Z5⟩ := cells3p Q3; obtain ⟨X0, X1, X2, X3, X4, X5⟩ := cells3p Q4; have n1 : ¬ w.heap.size = w1.heap.size := (by omega); have n2 : ¬ w.heap.size + 1 = w1.heap.size := (by omega); have n3 : ¬ w.heap.size + 2 = w1.heap.size := (by omega); have pA1 := pA.keep (al' w1 (.cells #[.bool false, .slice fa1 lfa.length fa2, .slice lb1 llb.length lb2] 117)); have pB1 := pB.keep (al' w1 (.cells #[.bool false, .slice fa1 lfa.length fa2, .slice lb1 llb.length lb2] 117))))
      have hfb : (put3 (w1.alloc (.cells #[.bool false, .slice fa1 lfa.length fa2, .slice lb1 llb.length lb2] 117)) (w.heap.size + 2) (.bool false) (.slice fa1 lfa.length fa2) (.slice lb1 llb.length lb2)).heap[w.heap.size + 2]? = some (.cells #[.bool false, .slice fa1 lfa.length fa2, .slice lb1 llb.length lb2] 117) := put3_blk Q3
      obtain ⟨r0, r1, r2, -, -, -⟩ := cells3p hfb
      have hKf : Kept (oneBlk (w.heap.size + 2)) w1 (put3 (w1.alloc (.cells #[.bool false, .slice fa1 lfa.length fa2, .slice lb1 llb.length lb2] 117)) (w.heap.size + 2) (.bool false) (.slice fa1 lfa.length fa2) (.slice lb1 llb.length lb2)) := put3_kept (Kept.of_below (al' w1 (.cells #[.bool false, .slice fa1 lfa.length fa2, .slice lb1 llb.length lb2] 117))) rfl
      obtain ⟨e1, e2⟩ := hend.out w1 _ hKf K2 hS1
      unfold put3 at r0 r1 r2
      exact bodyPost_ret (v := .agg #[.bool false, .slice fa1 lfa.length fa2, .slice lb1 llb.length lb2]) (by simp [results, Tryz.results82, go_sem, r0, r1, r2]) rfl ⟨_, _, rfl, ⟨pA.first.kept hKf (hone.out _ pA.offF), hsub.out _ pA.offF, pB.last.kept hKf (hone.out _ pB.offL), hsub.out _ pB.offL⟩, e1, e2⟩
    | true =>
      go_enter Tryz.func82, Tryz.ntmps82
      go_wp2_with (first
        | (go_at_call_of 63 (Value.slice la1 lla.length la2); refine (GU.out _ _ lla llb _ h1 h4 pA1.last pB1.last).mono ?_; rintro e w3 ⟨v3, rfl, hO3, hb3⟩; obtain ⟨ua, uc, rfl, hx3⟩ := id (Nums.of_row hO3); clear hx3; have T3 := hs_keep Q3 hb3; have T4 := hs_keep Q4 hb3; clear A0 A1 A2 A3 A4 A5 B0 B1 B2 B3 B4 B5 Z0 Z1 Z2 Z3 Z4 Z5 X0 X1 X2 X3 X4 X5; obtain ⟨t0, t1, t2, t3, t4, t5⟩ := cells3p T3; obtain ⟨s0, s1, s2, s3, s4, s5⟩ := cells3p T4; have V3 : (w3.setCell ⟨w1.heap.size, 2, none⟩ (.slice ua (unionL lla llb).length uc)).heap[w.heap.size + 2]? = _ := hs_set T3 n3; obtain ⟨p0, p1, p2, p3, p4, p5⟩ := cells3p V3; have V4 : (w3.setCell ⟨w1.heap.size, 2, none⟩ (.slice ua (unionL lla llb).length uc)).heap[w1.heap.size]? = some (.cells #[.bool false, .slice fa1 lfa.length fa2, .slice ua (unionL lla llb).length uc] 117) := heap_setCell T4; obtain ⟨o0, o1, o2, o3, o4, o5⟩ := cells3p V4)
        | (go_at_call 62; refine GL.out.mono ?_; rintro e w1 ⟨rfl, hS1, K1⟩; obtain ⟨⟨q1, q2, q3⟩, hsz, K2, pA, pB⟩ := hK.out w1 K1; obtain ⟨a0, a1, a2, a3, a4, a5⟩ := cells3p q1; obtain ⟨b0, b1, b2, b3, b4, b5⟩ := cells3p q2; have Q1 := hs_keep q1 (al' w1 (.cells #[.bool false, .slice fa1 lfa.length fa2, .slice lb1 llb.length lb2] 117)); have Q2 := hs_keep q2 (al' w1 (.cells #[.bool false, .slice fa1 lfa.length fa2, .slice lb1 llb.length lb2] 117)); have Q3 := hs_keep q3 (al' w1 (.cells #[.bool false, .slice fa1 lfa.length fa2, .slice lb1 llb.length lb2] 117)); have Q4 := heap_new w1 (.cells #[.bool false, .slice fa1 lfa.length fa2, .slice lb1 llb.length lb2] 117); obtain ⟨A0, A1, A2, A3, A4, A5⟩ := cells3p Q1; obtain ⟨B0, B1, B2, B3, B4, B5⟩ := cells3p Q2; obtain ⟨Z0, Z1, Z2, Z3, Z4, Z5⟩ := cells3p Q3; obtain ⟨X0, X1, X2, X3, X4, X5⟩ := cells3p Q4; have n1 : ¬ w.heap.size = w1.heap.size := (by omega); have n2 : ¬ w.heap.size + 1 = w1.heap.size := (by omega); have n3 : ¬ w.heap.size + 2 = w1.heap.size := (by omega); have pA1 := pA.keep (al' w1 (.cells #[.bool false, .slice fa1 lfa.length fa2, .slice lb1 llb.length lb2] 117)); have pB1 := pB.keep (al' w1 (.cells #[.bool false, .slice fa1 lfa.length fa2, .slice lb1 llb.length lb2] 117))))
      have hfb : (put3 (w3.setCell ⟨w1.heap.size, 2, none⟩ (.slice ua (unionL lla llb).length uc)) (w.heap.size + 2) (.bool false) (.slice fa1 lfa.length fa2) (.slice ua (unionL lla llb).length uc)).heap[w.heap.size + 2]? = some (.cells #[.bool false, .slice fa1 lfa.length fa2, .slice ua (unionL lla llb).length uc] 117) := put3_blk V3
      obtain ⟨r0, r1, r2, -, -, -⟩ := cells3p hfb
      have hKf : Kept (oneBlk (w.heap.size + 2)) w1 (put3 (w3.setCell ⟨w1.heap.size, 2, none⟩ (.slice ua (unionL lla llb).length uc)) (w.heap.size + 2) (.bool false) (.slice fa1 lfa.length fa2) (.slice ua (unionL lla llb).length uc)) := put3_kept (Kept.of_below (bl_set (bl_step (al' w1 (.cells #[.bool false, .slice fa1 lfa.length fa2, .slice lb1 llb.length lb2] 117)) hb3) _ _ _ (Nat.le_refl _))) rfl
      obtain ⟨e1, e2⟩ := hend.out w1 _ hKf K2 hS1
      unfold put3 at r0 r1 r2
      have hK3 : Kept (fun k => k = w.heap.size + 2 ∨ k = w1.heap.size) w3 (put3 (w3.setCell ⟨w1.heap.size, 2, none⟩ (.slice ua (unionL lla llb).length uc)) (w.heap.size + 2) (.bool false) (.slice fa1 lfa.length fa2) (.slice ua (unionL lla llb).length uc)) := put3_kept ((Kept.refl _ _).setCell (fun _ => Or.inr rfl)) (Or.inl rfl)
      have hoF3 : ∀ k, (k = w.heap.size + 2 ∨ k = w1.heap.size) → k < (w1.alloc (.cells #[.bool false, .slice fa1 lfa.length fa2, .slice lb1 llb.length lb2] 117)).heap.size := fun k hk => by
        rw [size_al]; rcases hk with hk | hk <;> omega
      have hoX3 : ∀ k, Fx F w.heap.size k → k < (w1.alloc (.cells #[.bool false, .slice fa1 lfa.length fa2, .slice lb1 llb.length lb2] 117)).heap.size := fun k hk => by
        have := hFlt.out k hk
        rw [size_al]; omega
      exact bodyPost_ret (v := .agg #[.bool false, .slice fa1 lfa.length fa2, .slice ua (unionL lla llb).length uc]) (by simp [results, Tryz.results82, go_sem, r0, r1, r2]) rfl ⟨_, _, rfl, ⟨pA.first.kept hKf (hone.out _ pA.offF), hsub.out _ pA.offF, (Nums.of_row hO3).kept hK3 (Off.new hO3 hoF3), hsub.out _ (Off.new hO3 hoX3)⟩, e1, e2⟩
  | true =>
    cases nb with
    | false =>
      go_enter Tryz.func82, Tryz.ntmps82
      go_wp2_with (first
        | (go_at_call_of 63 (Value.slice fa1 lfa.length fa2); refine (GU.out _ _ lfa lfb _ h3 h2 pA1.first pB1.first).mono ?_; rintro e w2 ⟨v2, rfl, hO2, hb2⟩; obtain ⟨va, vc, rfl, hx2⟩ := id (Nums.of_row hO2); clear hx2; have R1 := hs_keep Q1 hb2; have R2 := hs_keep Q2 hb2; have R3 := hs_keep Q3 hb2; have R4 := hs_keep Q4 hb2; clear A0 A1 A2 A3 A4 A5 B0 B1 B2 B3 B4 B5 Z0 Z1 Z2 Z3 Z4 Z5 X0 X1 X2 X3 X4 X5; obtain ⟨c0, c1, c2, c3, c4, c5⟩ := cells3p R1; obtain ⟨d0, d1, d2, d3, d4, d5⟩ := cells3p R2; obtain ⟨y0, y1, y2, y3, y4, y5⟩ := cells3p R3; obtain ⟨x0, x1, x2, x3, x4, x5⟩ := cells3p R4; have hbs : Below w1.heap.size w1 (w2.setCell ⟨w1.heap.size, 1, none⟩ (.slice va (unionL lfa lfb).length vc)) := bl_set (bl_step (al' w1 (.cells #[.bool false, .slice fa1 lfa.length fa2, .slice lb1 llb.length lb2] 117)) hb2) _ _ _ (Nat.le_refl _); have S1 : (w2.setCell ⟨w1.heap.size, 1, none⟩ (.slice va (unionL lfa lfb).length vc)).heap[w.heap.size]? = _ := hs_set R1 n1; have S2 : (w2.setCell ⟨w1.heap.size, 1, none⟩ (.slice va (unionL lfa lfb).length vc)).heap[w.heap.size + 1]? = _ := hs_set R2 n2; have S3 : (w2.setCell ⟨w1.heap.size, 1, none⟩ (.slice va (unionL lfa lfb).length vc)).heap[w.heap.size + 2]? = _ := hs_set R3 n3; have S4 : (w2.setCell ⟨w1.heap.size, 1, none⟩ (.slice va (unionL lfa lfb).length vc)).heap[w1.heap.size]? = some (.cells #[.bool false, .slice va (unionL lfa lfb).length vc, .slice lb1 llb.length lb2] 117) := heap_setCell R4; obtain ⟨C0, C1, C2, C3, C4, C5⟩ := cells3p S1; obtain ⟨D0, D1, D2, D3, D4, D5⟩ := cells3p S2; obtain ⟨Y0, Y1, Y2, Y3, Y4, Y5⟩ := cells3p S3; obtain ⟨E0, E1, E2, E3, E4, E5⟩ := cells3p S4; have pA3 := pA.keep hbs; have pB3 := pB.keep hbs; have hsz2 := hb2.size)
        | (go_at_call 62; refine GL.out.mono ?_; rintro e w1 ⟨rfl, hS1, K1⟩; obtain ⟨⟨q1, q2, q3⟩, hsz, K2, pA, pB⟩ := hK.out w1 K1; obtain ⟨a0, a1, a2, a3, a4, a5⟩ := cells3p q1; obtain ⟨b0, b1, b2, b3, b4, b5⟩ := cells3p q2; have Q1 := hs_keep q1 (al' w1 (.cells #[.bool false, .slice fa1 lfa.length fa2, .slice lb1 llb.length lb2] 117)); have Q2 := hs_keep q2 (al' w1 (.cells #[.bool false, .slice fa1 lfa.length fa2, .slice lb1 llb.length lb2] 117)); have Q3 := hs_keep q3 (al' w1 (.cells #[.bool false, .slice fa1 lfa.length fa2, .slice lb1 llb.length lb2] 117)); have Q4 := heap_new w1 (.cells #[.bool false, .slice fa1 lfa.length fa2, .slice lb1 llb.length lb2] 117); obtain ⟨A0, A1, A2, A3, A4, A5⟩ := cells3p Q1; obtain ⟨B0, B1, B2, B3, B4, B5⟩ := cells3p Q2; obtain ⟨Z0, Z1, Z2, Z3, Z4, Z5⟩ := cells3p Q3; obtain ⟨X0, X1, X2, X3, X4, X5⟩ := cells3p Q4; have n1 : ¬ w.heap.size = w1.heap.size := (by omega); have n2 : ¬ w.heap.size + 1 = w1.heap.size := (by omega); have n3 : ¬ w.heap.size + 2 = w1.heap.size := (by omega); have pA1 := pA.keep (al' w1 (.cells #[.bool false, .slice fa1 lfa.length fa2, .slice lb1 llb.length lb2] 117)); have pB1 := pB.keep (al' w1 (.cells #[.bool false, .slice fa1 lfa.length fa2, .slice lb1 llb.length lb2] 117))))
      have hfb : (put3 (w2.setCell ⟨w1.heap.size, 1, none⟩ (.slice va (unionL lfa lfb).length vc)) (w.heap.size + 2) (.bool false) (.slice va (unionL lfa lfb).length vc) (.slice lb1 llb.length lb2)).heap[w.heap.size + 2]? = some (.cells #[.bool false, .slice va (unionL lfa lfb).length vc, .slice lb1 llb.length lb2] 117) := put3_blk S3
      obtain ⟨r0, r1, r2, -, -, -⟩ := cells3p hfb
      have hKf : Kept (oneBlk (w.heap.size + 2)) w1 (put3 (w2.setCell ⟨w1.heap.size, 1, none⟩ (.slice va (unionL lfa lfb).length vc)) (w.heap.size + 2) (.bool false) (.slice va (unionL lfa lfb).length vc) (.slice lb1 llb.length lb2)) := put3_kept (Kept.of_below (hbs)) rfl
      obtain ⟨e1, e2⟩ := hend.out w1 _ hKf K2 hS1
      unfold put3 at r0 r1 r2
      have hK2 : Kept (fun k => k = w.heap.size + 2 ∨ k = w1.heap.size) w2 (put3 (w2.setCell ⟨w1.heap.size, 1, none⟩ (.slice va (unionL lfa lfb).length vc)) (w.heap.size + 2) (.bool false) (.slice va (unionL lfa lfb).length vc) (.slice lb1 llb.length lb2)) := put3_kept ((Kept.refl _ _).setCell (fun _ => Or.inr rfl)) (Or.inl rfl)
      have hoF : ∀ k, (k = w.heap.size + 2 ∨ k = w1.heap.size) → k < (w1.alloc (.cells #[.bool false, .slice fa1 lfa.length fa2, .slice lb1 llb.length lb2] 117)).heap.size := fun k hk => by rw [size_al]; rcases hk with hk | hk <;> omega
      have hoX : ∀ k, Fx F w.heap.size k → k < (w1.alloc (.cells #[.bool false, .slice fa1 lfa.length fa2, .slice lb1 llb.length lb2] 117)).heap.size := fun k hk => by rw [size_al]; have := hFlt.out k hk; omega
      exact bodyPost_ret (v := .agg #[.bool false, .slice va (unionL lfa lfb).length vc, .slice lb1 llb.length lb2]) (by simp [results, Tryz.results82, go_sem, r0, r1, r2]) rfl ⟨_, _, rfl, ⟨(Nums.of_row hO2).kept hK2 (Off.new hO2 hoF), hsub.out _ (Off.new hO2 hoX), pB.last.kept hKf (hone.out _ pB.offL), hsub.out _ pB.offL⟩, e1, e2⟩
    | true =>
      go_enter Tryz.func82, Tryz.ntmps82
      go_wp2_with (first
        | (go_at_call_of 63 (Value.slice fa1 lfa.length fa2); refine (GU.out _ _ lfa lfb _ h3 h2 pA1.first pB1.first).mono ?_; rintro e w2 ⟨v2, rfl, hO2, hb2⟩; obtain ⟨va, vc, rfl, hx2⟩ := id (Nums.of_row hO2); clear hx2; have R1 := hs_keep Q1 hb2; have R2 := hs_keep Q2 hb2; have R3 := hs_keep Q3 hb2; have R4 := hs_keep Q4 hb2; clear A0 A1 A2 A3 A4 A5 B0 B1 B2 B3 B4 B5 Z0 Z1 Z2 Z3 Z4 Z5 X0 X1 X2 X3 X4 X5; obtain ⟨c0, c1, c2, c3, c4, c5⟩ := cells3p R1; obtain ⟨d0, d1, d2, d3, d4, d5⟩ := cells3p R2; obtain ⟨y0, y1, y2, y3, y4, y5⟩ := cells3p R3; obtain ⟨x0, x1, x2, x3, x4, x5⟩ := cells3p R4; have hbs : Below w1.heap.size w1 (w2.setCell ⟨w1.heap.size, 1, none⟩ (.slice va (unionL lfa lfb).length vc)) := bl_set (bl_step (al' w1 (.cells #[.bool true, .slice fa1 lfa.length fa2, .slice lb1 llb.length lb2] 117)) hb2) _ _ _ (Nat.le_refl _); have S1 : (w2.setCell ⟨w1.heap.size, 1, none⟩ (.slice va (unionL lfa lfb).length vc)).heap[w.heap.size]? = _ := hs_set R1 n1; have S2 : (w2.setCell ⟨w1.heap.size, 1, none⟩ (.slice va (unionL lfa lfb).length vc)).heap[w.heap.size + 1]? = _ := hs_set R2 n2; have S3 : (w2.setCell ⟨w1.heap.size, 1, none⟩ (.slice va (unionL lfa lfb).length vc)).heap[w.heap.size + 2]? = _ := hs_set R3 n3; have S4 : (w2.setCell ⟨w1.heap.size, 1, none⟩ (.slice va (unionL lfa lfb).length vc)).heap[w1.heap.size]? = some (.cells #[.bool true, .slice va (unionL lfa lfb).length vc, .slice lb1 llb.length lb2] 117) := heap_setCell R4; obtain ⟨C0, C1, C2, C3, C4, C5⟩ := cells3p S1; obtain ⟨D0, D1, D2, D3, D4, D5⟩ := cells3p S2; obtain ⟨Y0, Y1, Y2, Y3, Y4, Y5⟩ := cells3p S3; obtain ⟨E0, E1, E2, E3, E4, E5⟩ := cells3p S4; have pA3 := pA.keep hbs; have pB3 := pB.keep hbs; have hsz2 := hb2.size)
        | (go_at_call_of 63 (Value.slice la1 lla.length la2); refine (GU.out _ _ lla llb _ h1 h4 pA3.last pB3.last).mono ?_; rintro e w3 ⟨v3, rfl, hO3, hb3⟩; obtain ⟨ua, uc, rfl, hx3⟩ := id (Nums.of_row hO3); clear hx3; have T3 := hs_keep S3 hb3; have T4 := hs_keep S4 hb3; clear C0 C1 C2 C3 C4 C5 D0 D1 D2 D3 D4 D5 Y0 Y1 Y2 Y3 Y4 Y5 E0 E1 E2 E3 E4 E5; obtain ⟨t0, t1, t2, t3, t4, t5⟩ := cells3p T3; obtain ⟨s0, s1, s2, s3, s4, s5⟩ := cells3p T4; have V3 : (w3.setCell ⟨w1.heap.size, 2, none⟩ (.slice ua (unionL lla llb).length uc)).heap[w.heap.size + 2]? = _ := hs_set T3 n3; obtain ⟨p0, p1, p2, p3, p4, p5⟩ := cells3p V3; have V4 : (w3.setCell ⟨w1.heap.size, 2, none⟩ (.slice ua (unionL lla llb).length uc)).heap[w1.heap.size]? = some (.cells #[.bool true, .slice va (unionL lfa lfb).length vc, .slice ua (unionL lla llb).length uc] 117) := heap_setCell T4; obtain ⟨o0, o1, o2, o3, o4, o5⟩ := cells3p V4)
        | (go_at_call 62; refine GL.out.mono ?_; rintro e w1 ⟨rfl, hS1, K1⟩; obtain ⟨⟨q1, q2, q3⟩, hsz, K2, pA, pB⟩ := hK.out w1 K1; obtain ⟨a0, a1, a2, a3, a4, a5⟩ := cells3p q1; obtain ⟨b0, b1, b2, b3, b4, b5⟩ := cells3p q2; have Q1 := hs_keep q1 (al' w1 (.cells #[.bool true, .slice fa1 lfa.length fa2, .slice lb1 llb.length lb2] 117)); have Q2 := hs_keep q2 (al' w1 (.cells #[.bool true, .slice fa1 lfa.length fa2, .slice lb1 llb.length lb2] 117)); have Q3 := hs_keep q3 (al' w1 (.cells #[.bool true, .slice fa1 lfa.length fa2, .slice lb1 llb.length lb2] 117)); have Q4 := heap_new w1 (.cells #[.bool true, .slice fa1 lfa.length fa2, .slice lb1 llb.length lb2] 117); obtain ⟨A0, A1, A2, A3, A4, A5⟩ := cells3p Q1; obtain ⟨B0, B1, B2, B3, B4, B5⟩ := cells3p Q2; obtain ⟨Z0, Z1, Z2, Z3, Z4, Z5⟩ := cells3p Q3; obtain ⟨X0, X1, X2, X3, X4, X5⟩ := cells3p Q4; have n1 : ¬ w.heap.size = w1.heap.size := (by omega); have n2 : ¬ w.heap.size + 1 = w1.heap.size := (by omega); have n3 : ¬ w.heap.size + 2 = w1.heap.size := (by omega); have pA1 := pA.keep (al' w1 (.cells #[.bool true, .slice fa1 lfa.length fa2, .slice lb1 llb.length lb2] 117)); have pB1 := pB.keep (al' w1 (.cells #[.bool true, .slice fa1 lfa.length fa2, .slice lb1 llb.length lb2] 117))))
      have hfb : (put3 (w3.setCell ⟨w1.heap.size, 2, none⟩ (.slice ua (unionL lla llb).length uc)) (w.heap.size + 2) (.bool true) (.slice va (unionL lfa lfb).length vc) (.slice ua (unionL lla llb).length uc)).heap[w.heap.size + 2]? = some (.cells #[.bool true, .slice va (unionL lfa lfb).length vc, .slice ua (unionL lla llb).length uc] 117) := put3_blk V3
      obtain ⟨r0, r1, r2, -, -, -⟩ := cells3p hfb
      have hKf : Kept (oneBlk (w.heap.size + 2)) w1 (put3 (w3.setCell ⟨w1.heap.size, 2, none⟩ (.slice ua (unionL lla llb).length uc)) (w.heap.size + 2) (.bool true) (.slice va (unionL lfa lfb).length vc) (.slice ua (unionL lla llb).length uc)) := put3_kept (Kept.of_below (bl_set (bl_step (hbs) hb3) _ _ _ (Nat.le_refl _))) rfl
      obtain ⟨e1, e2⟩ := hend.out w1 _ hKf K2 hS1
      unfold put3 at r0 r1 r2
      have hK2 : Kept (fun k => k = w.heap.size + 2 ∨ k = w1.heap.size) w2 (put3 (w3.setCell ⟨w1.heap.size, 2, none⟩ (.slice ua (unionL lla llb).length uc)) (w.heap.size + 2) (.bool true) (.slice va (unionL lfa lfb).length vc) (.slice ua (unionL lla llb).length uc)) := put3_kept ((((Kept.refl _ _).setCell (fun _ => Or.inr rfl)).step (Kept.of_below hb3) (fun _ _ h => h)).setCell (fun _ => Or.inr rfl)) (Or.inl rfl)
      have hoF : ∀ k, (k = w.heap.size + 2 ∨ k = w1.heap.size) → k < (w1.alloc (.cells #[.bool true, .slice fa1 lfa.length fa2, .slice lb1 llb.length lb2] 117)).heap.size := fun k hk => by rw [size_al]; rcases hk with hk | hk <;> omega
      have hoX : ∀ k, Fx F w.heap.size k → k < (w1.alloc (.cells #[.bool true, .slice fa1 lfa.length fa2, .slice lb1 llb.length lb2] 117)).heap.size := fun k hk => by rw [size_al]; have := hFlt.out k hk; omega
      have hK3 : Kept (fun k => k = w.heap.size + 2 ∨ k = w1.heap.size) w3 (put3 (w3.setCell ⟨w1.heap.size, 2, none⟩ (.slice ua (unionL lla llb).length uc)) (w.heap.size + 2) (.bool true) (.slice va (unionL lfa lfb).length vc) (.slice ua (unionL lla llb).length uc)) := put3_kept ((Kept.refl _ _).setCell (fun _ => Or.inr rfl)) (Or.inl rfl)
      have hoF3 : ∀ k, (k = w.heap.size + 2 ∨ k = w1.heap.size) → k < (w2.setCell ⟨w1.heap.size, 1, none⟩ (.slice va (unionL lfa lfb).length vc)).heap.size := fun k hk => by
        have hz : w1.heap.size + 1 ≤ w2.heap.size := by have h := hb2.size; rw [size_al] at h; exact h
        simp; rcases hk with hk | hk <;> omega
      have hoX3 : ∀ k, Fx F w.heap.size k → k < (w2.setCell ⟨w1.heap.size, 1, none⟩ (.slice va (unionL lfa lfb).length vc)).heap.size := fun k hk => by
        have := hFlt.out k hk
        have hz : w1.heap.size + 1 ≤ w2.heap.size := by have h := hb2.size; rw [size_al] at h; exact h
        simp; omega
      exact bodyPost_ret (v := .agg #[.bool true, .slice va (unionL lfa lfb).length vc, .slice ua (unionL lla llb).length uc]) (by simp [results, Tryz.results82, go_sem, r0, r1, r2]) rfl ⟨_, _, rfl, ⟨(Nums.of_row hO2).kept hK2 (Off.new hO2 hoF), hsub.out _ (Off.new hO2 hoX), (Nums.of_row hO3).kept hK3 (Off.new hO3 hoF3), hsub.out _ (Off.new hO3 hoX3)⟩, e1, e2⟩

end Go.Proofs.YtjelgphhlcecoaaGreatDoor
namespace Go.Proofs.YtjelgphhlcecoaaGreatDoor
open Go.RowKit

set_option maxRecDepth 20000 in
set_option maxHeartbeats 4000000 in
theorem joinedCat (F : Nat → Prop) (B pb n : Nat) (gv fa la fb lb : Value) (na nb : Bool) (lfa lla lfb llb : List Int) (gs : List Value) (fl : List (List Int)) (w : World)
    (hS : LkS F B pb gv n w gs fl) (hA : PtV F w fa la lfa lla) (hB : PtV F w fb lb lfb llb) (hlla : InN lla n) (h1 : lla.length ≤ 60) (hlfb : InN lfb n) (h2 : lfb.length ≤ 60) (h3 : lfa.length ≤ 60) (h4 : llb.length ≤ 60) :
    Calls Tryz.prog 65 #[.int .i64 3, .agg #[.bool na, fa, la], .agg #[.bool nb, fb, lb], .func (.func 62) #[] #[.pointer (some ⟨pb, 0, none⟩)]] w fun e w' => ∃ fv lv, e = .returned (.agg #[.bool (na && nb), fv, lv]) ∧
      PtV F w' fv lv (if na then unionL lfa lfb else lfa) (if nb then unionL lla llb else llb) ∧ (∃ gs', LkS F B pb gv n w' gs' (linkL fl lfb lla)) ∧ Kept (fun k => gv.ownBlock = some k) w w' := by
  have hlt := hid hS.lt
  have hrow := hid hS.row
  have hin := hid hS.inF
  have hnb : Hid (∀ k, w.heap.size ≤ k → ¬ gv.ownBlock = some k) := hid (fun k hk e => by have := hlt.out k (hrow.out k e).1; omega)
  obtain ⟨fa1, fa2, rfl⟩ : ∃ a c, fa = .slice a lfa.length c := by obtain ⟨a, c, e, _⟩ := hA.first; exact ⟨a, c, e⟩
  obtain ⟨la1, la2, rfl⟩ : ∃ a c, la = .slice a lla.length c := by obtain ⟨a, c, e, _⟩ := hA.last; exact ⟨a, c, e⟩
  obtain ⟨fb1, fb2, rfl⟩ : ∃ a c, fb = .slice a lfb.length c := by obtain ⟨a, c, e, _⟩ := hB.first; exact ⟨a, c, e⟩
  obtain ⟨lb1, lb2, rfl⟩ : ∃ a c, lb = .slice a llb.length c := by obtain ⟨a, c, e, _⟩ := hB.last; exact ⟨a, c, e⟩
  obtain ⟨W0, hW0⟩ : ∃ W0, W0 = ((w.alloc (.cells #[.bool na, .slice fa1 lfa.length fa2, .slice la1 lla.length la2] 117)).alloc (.cells #[.bool nb, .slice fb1 lfb.length fb2, .slice lb1 llb.length lb2] 117)).alloc (.cells #[.bool false, .slice none 0 0, .slice none 0 0] 117) := ⟨_, rfl⟩
  have hb0 : Below w.heap.size w W0 := by rw [hW0]; exact bl_step (bl_step (al' w _) (al' _ _)) (al' _ _)
  have hs0 : W0.heap.size = w.heap.size + 3 := by rw [hW0]; simp
  have hblk : W0.heap[w.heap.size]? = some (.cells #[.bool na, .slice fa1 lfa.length fa2, .slice la1 lla.length la2] 117) ∧ W0.heap[w.heap.size + 1]? = some (.cells #[.bool nb, .slice fb1 lfb.length fb2, .slice lb1 llb.length lb2] 117) ∧ W0.heap[w.heap.size + 2]? = some (.cells #[.bool false, .slice none 0 0, .slice none 0 0] 117) := by rw [hW0]; exact three_blocks w _ _ _
  have hFx : ∀ k, Fx F w.heap.size k → F k ∨ w.heap.size ≤ k := fun k hk => by
    rcases hk with hk | hk
    · exact Or.inl hk
    · exact Or.inr hk.1
  have GT := hid (inTurnC (Fx F w.heap.size) B pb n gv _ _ _ _ na nb lfa lla lfb llb gs fl W0 (hS.more hb0 (by omega)) ((hA.more hFx).keep hb0) ((hB.more hFx).keep hb0) hlla h1 hlfb h2 h3 h4)
  have hK : Hid (∀ w1, Kept (fun k => gv.ownBlock = some k) W0 w1 → w1.heap[w.heap.size + 2]? = some (.cells #[.bool false, .slice none 0 0, .slice none 0 0] 117) ∧ Kept (fun k => gv.ownBlock = some k) w w1) := hid (fun w1 K1 => ⟨K1.blk hblk.2.2 (hnb.out _ (by omega)), (Kept.of_below hb0).step K1 (fun k hk e => e)⟩)
  have hend : Hid (∀ w1 u, Kept (oneBlk (w.heap.size + 2)) w1 u → Kept (fun k => gv.ownBlock = some k) w w1 → (∃ gs', LkS (Fx F w.heap.size) B pb gv n w1 gs' (linkL fl lfb lla)) → (∃ gs', LkS F B pb gv n u gs' (linkL fl lfb lla)) ∧ Kept (fun k => gv.ownBlock = some k) w u) := hid (fun w1 u h1 h2 ⟨gs', h3⟩ => ⟨⟨gs', h3.less hlt.out (fun k e => (hrow.out k e).1) hin.out (by omega) (by omega) h1⟩, h2.step h1 (fun k hk e => by have e' : k = w.heap.size + 2 := e; omega)⟩)
  have hsub : Hid (∀ v, Off (Fx F w.heap.size) v → Off F v) := hid (fun v h => h.sub fun k e => Or.inl e)
  have hone : Hid (∀ v, Off (Fx F w.heap.size) v → Off (oneBlk (w.heap.size + 2)) v) := hid (fun v h => h.sub fun k e => Or.inr (by have e' : k = w.heap.size + 2 := e; omega))
  obtain ⟨⟨a0, a1, a2, -⟩, ⟨b0, b1, b2, -⟩⟩ := And.intro (cells3p hblk.1) (cells3p hblk.2.1)
  clear hS hA hB hblk hFx
  subst hW0
  generalize (if na then unionL lfa lfb else lfa) = rf at GT ⊢
  generalize (if nb then unionL lla llb else llb) = rl at GT ⊢
  generalize (na && nb) = rn at GT ⊢
  go_enter Tryz.func65, Tryz.ntmps65
  go_wp2_with (go_at_call 82; refine GT.out.mono ?_; rintro e w1 ⟨fv, lv, rfl, pR, hS1, K1⟩; obtain ⟨xa, xc, rfl, hx1⟩ := id pR.first; obtain ⟨ya, yc, rfl, hx2⟩ := id pR.last; clear hx1 hx2; obtain ⟨q3, K2⟩ := hK.out w1 K1; obtain ⟨z0, z1, z2, z3, z4, z5⟩ := cells3p q3)
  have hfb : (put3 w1 (w.heap.size + 2) (.bool rn) (.slice xa rf.length xc) (.slice ya rl.length yc)).heap[w.heap.size + 2]? = some (.cells #[.bool rn, .slice xa rf.length xc, .slice ya rl.length yc] 117) := put3_blk q3
  obtain ⟨r0, r1, r2, -, -, -⟩ := cells3p hfb
  have hKf : Kept (oneBlk (w.heap.size + 2)) w1 (put3 w1 (w.heap.size + 2) (.bool rn) (.slice xa rf.length xc) (.slice ya rl.length yc)) := put3_kept (Kept.refl _ _) rfl
  obtain ⟨e1, e2⟩ := hend.out w1 _ hKf K2 hS1
  unfold put3 at r0 r1 r2
  exact bodyPost_ret (v := .agg #[.bool rn, .slice xa rf.length xc, .slice ya rl.length yc]) (by simp [results, Tryz.results65, go_sem, r0, r1, r2]) rfl ⟨_, _, rfl, ⟨pR.first.kept hKf (hone.out _ pR.offF), hsub.out _ pR.offF, pR.last.kept hKf (hone.out _ pR.offL), hsub.out _ pR.offL⟩, e1, e2⟩

end Go.Proofs.YtjelgphhlcecoaaGreatDoor
