/- spots.inTurn. spots.joined. spots.joined. spots.repeated. -/
import Derived.Test.YtonlcnmlklaicaaGreatDoorJ13
namespace Go.Proofs.YtonlcnmlklaicaaGreatDoor
open Go.RowKit

theorem hs_keep {w w' : World} {b : Nat} {x : Obj} (h : w.heap[b]? = some x) (hb : Below w.heap.size w w') : w'.heap[b]? = some x := (hb.block b (blk_lt h)).trans h
theorem hs_set {w : World} {b q o : Nat} {x : Obj} {v : Value} (h : w.heap[b]? = some x) (hn : b ≠ q) : (w.setCell ⟨q, o, none⟩ v).heap[b]? = some x := (Below.heap_setCell w ⟨q, o, none⟩ v b (by simpa using hn)).trans h
def put3 (w : World) (b : Nat) (y0 y1 y2 : Value) : World := ((w.setCell ⟨b, 0, none⟩ y0).setCell ⟨b, 1, none⟩ y1).setCell ⟨b, 2, none⟩ y2
theorem put3_blk {w : World} {b : Nat} {x0 x1 x2 y0 y1 y2 : Value} {T : TypeId} {fr : Nat × Nat} (h : w.heap[b]? = some (.cells #[x0, x1, x2] T fr)) : (put3 w b y0 y1 y2).heap[b]? = some (.cells #[y0, y1, y2] T fr) := heap_setCell (heap_setCell (heap_setCell h))
theorem put3_kept {F : Nat → Prop} {w u : World} {b : Nat} {y0 y1 y2 : Value} (h : Kept F w u) (hb : F b) : Kept F w (put3 u b y0 y1 y2) := ((h.setCell fun _ => hb).setCell fun _ => hb).setCell fun _ => hb
theorem Off.sub {F G : Nat → Prop} {v : Value} (h : Off F v) (hG : ∀ k, G k → F k) : Off G v := fun ad n c e h0 hg => h ad n c e h0 (hG _ hg)
theorem PtV.more {F G : Nat → Prop} {w : World} {fv lv : Value} {f l : List Int} (h : PtV F w fv lv f l) (hG : ∀ k, G k → F k ∨ w.heap.size ≤ k) : PtV G w fv lv f l := ⟨h.first, h.offF.more h.first hG, h.last, h.offL.more h.last hG⟩
/-- what changes, and three more blocks -/
def Fx (F : Nat → Prop) (b : Nat) : Nat → Prop := fun k => F k ∨ (b ≤ k ∧ k < b + 3)
theorem LkS.more {F : Nat → Prop} {B pb n : Nat} {gv : Value} {w u : World} {gs : List Value} {fl : List (List Int)} (h : LkS F B pb gv n w gs fl) (hb : Below w.heap.size w u) (hs : w.heap.size + 3 ≤ u.heap.size) : LkS (Fx F w.heap.size) B pb gv n u gs fl where
  base := (h.keep hb).base
  lt := fun k hk => by
    rcases hk with hk | hk
    · exact (h.keep hb).lt k hk
    · omega
  row := fun k e => ⟨Or.inl (h.row k e).1, (h.row k e).2⟩
  inF := Or.inl h.inF
  p := (h.keep hb).p
  own := (h.keep hb).own
  nums := (h.nums.more (G := Fx F w.heap.size) fun k hk => by
    rcases hk with hk | hk
    · exact Or.inl hk
    · exact Or.inr hk.1).kept (Kept.of_below hb)
  len := h.len
  n60 := h.n60
  good := h.good
theorem LkS.less {F : Nat → Prop} {b B pb n : Nat} {gv : Value} {w u : World} {gs : List Value} {fl : List (List Int)} (h : LkS (Fx F b) B pb gv n w gs fl) (hF : ∀ k, F k → k < b) (hrow : ∀ k, gv.ownBlock = some k → F k) (hp : F pb) {k0 : Nat} (h0 : b ≤ k0) (h1 : k0 < b + 3) (hk : Kept (oneBlk k0) w u) : LkS F B pb gv n u gs fl where
  base := Nat.le_trans h.base hk.size
  lt := fun k hk' => Nat.lt_of_lt_of_le (h.lt k (Or.inl hk')) hk.size
  row := fun k e => ⟨hrow k e, (h.row k e).2⟩
  inF := hp
  p := hk.cell h.p (h.lt _ h.inF) (fun e => by have := hF _ hp; have e' : pb = k0 := e; omega)
  own := own_kept h.own hk fun k e e' => by have := hF _ (hrow k e); have e2 : k = k0 := e'; omega
  nums := ⟨h.nums.1, fun j => ⟨(h.nums.2 j).1.kept hk ((h.nums.2 j).2.sub fun k e => Or.inr (by have e' : k = k0 := e; omega)), (h.nums.2 j).2.sub fun k e => Or.inl e⟩⟩
  len := h.len
  n60 := h.n60
  good := h.good

set_option maxRecDepth 20000 in
set_option maxHeartbeats 4000000 in
theorem inTurnC (F : Nat → Prop) (B pb n : Nat) (gv fa la fb lb : Value) (na nb : Bool) (lfa lla lfb llb : List Int) (gs : List Value) (fl : List (List Int)) (w : World)
    (hS : LkS F B pb gv n w gs fl) (hA : PtV F w fa la lfa lla) (hB : PtV F w fb lb lfb llb) (hlla : InN lla n) (h1 : lla.length ≤ 60) (hlfb : InN lfb n) (h2 : lfb.length ≤ 60) (h3 : lfa.length ≤ 60) (h4 : llb.length ≤ 60) :
    Calls Tryz.prog 69 #[.agg #[.bool na, fa, la], .agg #[.bool nb, fb, lb], .func (.func 50) #[] #[.pointer (some ⟨pb, 0, none⟩)]] w fun e w' => ∃ fv lv, e = .returned (.agg #[.bool (na && nb), fv, lv]) ∧
      PtV F w' fv lv (if na then unionL lfa lfb else lfa) (if nb then unionL lla llb else llb) ∧ (∃ gs', LkS F B pb gv n w' gs' (linkL fl lfb lla)) ∧ Kept (fun k => gv.ownBlock = some k) w w' := by
  have hlt := hid hS.lt
  have hrow := hid hS.row
  have hin := hid hS.inF
  have hnb : Hid (∀ k, w.heap.size ≤ k → ¬ gv.ownBlock = some k) := hid (fun k hk e => by have := hlt.out k (hrow.out k e).1; omega)
  have GU := hid (fun va vb (la lb : List Int) u (h1 : la.length ≤ 60) (h2 : lb.length ≤ 60) hA hB => setsUnion va vb la lb u (by omega) (by omega) hA hB)
  obtain ⟨fa1, fa2, rfl⟩ : ∃ a c, fa = .slice a lfa.length c := by obtain ⟨a, c, e, _⟩ := hA.first; exact ⟨a, c, e⟩
  obtain ⟨la1, la2, rfl⟩ : ∃ a c, la = .slice a lla.length c := by obtain ⟨a, c, e, _⟩ := hA.last; exact ⟨a, c, e⟩
  obtain ⟨fb1, fb2, rfl⟩ : ∃ a c, fb = .slice a lfb.length c := by obtain ⟨a, c, e, _⟩ := hB.first; exact ⟨a, c, e⟩
  obtain ⟨lb1, lb2, rfl⟩ : ∃ a c, lb = .slice a llb.length c := by obtain ⟨a, c, e, _⟩ := hB.last; exact ⟨a, c, e⟩
  obtain ⟨W0, hW0⟩ : ∃ W0, W0 = ((w.alloc (.cells #[.bool na, .slice fa1 lfa.length fa2, .slice la1 lla.length la2] 109)).alloc (.cells #[.bool nb, .slice fb1 lfb.length fb2, .slice lb1 llb.length lb2] 109)).alloc (.cells #[.bool false, .slice none 0 0, .slice none 0 0] 109) := ⟨_, rfl⟩
  have hb0 : Below w.heap.size w W0 := by rw [hW0]; exact bl_step (bl_step (al' w _) (al' _ _)) (al' _ _)
  have hs0 : W0.heap.size = w.heap.size + 3 := by rw [hW0]; simp
  have hblk : W0.heap[w.heap.size]? = some (.cells #[.bool na, .slice fa1 lfa.length fa2, .slice la1 lla.length la2] 109) ∧ W0.heap[w.heap.size + 1]? = some (.cells #[.bool nb, .slice fb1 lfb.length fb2, .slice lb1 llb.length lb2] 109) ∧ W0.heap[w.heap.size + 2]? = some (.cells #[.bool false, .slice none 0 0, .slice none 0 0] 109) := by rw [hW0]; exact three_blocks w _ _ _
  have hFx : ∀ k, Fx F w.heap.size k → F k ∨ w.heap.size ≤ k := fun k hk => by
    rcases hk with hk | hk
    · exact Or.inl hk
    · exact Or.inr hk.1
  have hA0 := (hA.more hFx).keep hb0
  have hB0 := (hB.more hFx).keep hb0
  have GL := hid (linkC (Fx F w.heap.size) B pb n _ _ gv lla lfb gs fl W0 (hS.more hb0 (by omega)) hA0.last hA0.offL hB0.first hB0.offF hlla h1 hlfb h2)
  have hK : Hid (∀ w1, Kept (fun k => gv.ownBlock = some k) W0 w1 → (w1.heap[w.heap.size]? = some (.cells #[.bool na, .slice fa1 lfa.length fa2, .slice la1 lla.length la2] 109) ∧ w1.heap[w.heap.size + 1]? = some (.cells #[.bool nb, .slice fb1 lfb.length fb2, .slice lb1 llb.length lb2] 109) ∧ w1.heap[w.heap.size + 2]? = some (.cells #[.bool false, .slice none 0 0, .slice none 0 0] 109)) ∧ w.heap.size + 3 ≤ w1.heap.size ∧ Kept (fun k => gv.ownBlock = some k) w w1 ∧ PtV (Fx F w.heap.size) w1 (.slice fa1 lfa.length fa2) (.slice la1 lla.length la2) lfa lla ∧ PtV (Fx F w.heap.size) w1 (.slice fb1 lfb.length fb2) (.slice lb1 llb.length lb2) lfb llb) := hid (fun w1 K1 => by
    have KF : Kept (Fx F w.heap.size) W0 w1 := K1.mono fun k _ e => Or.inl (hrow.out k e).1
    exact ⟨⟨K1.blk hblk.1 (hnb.out _ (Nat.le_refl _)), K1.blk hblk.2.1 (hnb.out _ (by omega)), K1.blk hblk.2.2 (hnb.out _ (by omega))⟩, by have := K1.size; omega, (Kept.of_below hb0).step K1 (fun k hk e => e), hA0.kept KF, hB0.kept KF⟩)
  clear hS hA hB hblk hA0 hB0 hFx
  subst hW0
  have hFlt : Hid (∀ k, Fx F w.heap.size k → k < w.heap.size + 3) := hid (fun k hk => by
    rcases hk with hk | hk
    · have := hlt.out k hk; omega
    · exact hk.2)
  have hend : Hid (∀ w1 u, Kept (oneBlk (w.heap.size + 2)) w1 u → Kept (fun k => gv.ownBlock = some k) w w1 → (∃ gs', LkS (Fx F w.heap.size) B pb gv n w1 gs' (linkL fl lfb lla)) → (∃ gs', LkS F B pb gv n u gs' (linkL fl lfb lla)) ∧ Kept (fun k => gv.ownBlock = some k) w u) := hid (fun w1 u h1 h2 ⟨gs', h3⟩ => ⟨⟨gs', h3.less hlt.out (fun k e => (hrow.out k e).1) hin.out (by omega) (by omega) h1⟩, h2.step h1 (fun k hk e => by have e' : k = w.heap.size + 2 := e; omega)⟩)
  have hsub : Hid (∀ v, Off (Fx F w.heap.size) v → Off F v) := hid (fun v h => h.sub fun k e => Or.inl e)
  have hone : Hid (∀ v, Off (Fx F w.heap.size) v → Off (oneBlk (w.heap.size + 2)) v) := hid (fun v h => h.sub fun k e => Or.inr (by have e' : k = w.heap.size + 2 := e; omega))
  cases na with
  | false =>
    cases nb with
    | false =>
      go_enter Tryz.func69, Tryz.ntmps69
      go_wp2_with (first
        | (go_at_call 50; refine GL.out.mono ?_; rintro e w1 ⟨rfl, hS1, K1⟩; obtain ⟨⟨q1, q2, q3⟩, hsz, K2, pA, pB⟩ := hK.out w1 K1; obtain ⟨a0, a1, a2, a3, a4, a5⟩ := cells3p q1; obtain ⟨b0, b1, b2, b3, b4, b5⟩ := cells3p q2; have Q1 := hs_keep q1 (al' w1 (.cells #[.bool false, .slice fa1 lfa.length fa2, .slice lb1 llb.length lb2] 109)); have Q2 := hs_keep q2 (al' w1 (.cells #[.bool false, .slice fa1 lfa.length fa2, .slice lb1 llb.length lb2] 109)); have Q3 := hs_keep q3 (al' w1 (.cells #[.bool false, .slice fa1 lfa.length fa2, .slice lb1 llb.length lb2] 109)); have Q4 := heap_new w1 (.cells #[.bool false, .slice fa1 lfa.length fa2, .slice lb1 llb.length lb2] 109); obtain ⟨A0, A1, A2, A3, A4, A5⟩ := cells3p Q1; obtain ⟨B0, B1, B2, B3, B4, B5⟩ := cells3p Q2; obtain ⟨Z0, Z1, Z2, Z3, Z4, Z5⟩ := cells3p Q3; obtain ⟨X0, X1, X2, X3, X4, X5⟩ := cells3p Q4; have n1 : ¬ w.heap.size = w1.heap.size := (by omega); have n2 : ¬ w.heap.size + 1 = w1.heap.size := (by omega); have n3 : ¬ w.heap.size + 2 = w1.heap.size := (by omega); have pA1 := pA.keep (al' w1 (.cells #[.bool false, .slice fa1 lfa.length fa2, .slice lb1 llb.length lb2] 109)); have pB1 := pB.keep (al' w1 (.cells #[.bool false, .slice fa1 lfa.length fa2, .slice lb1 llb.length lb2] 109))))
      have hfb : (put3 (w1.alloc (.cells #[.bool false, .slice fa1 lfa.length fa2, .slice lb1 llb.length lb2] 109)) (w.heap.size + 2) (.bool false) (.slice fa1 lfa.length fa2) (.slice lb1 llb.length lb2)).heap[w.heap.size + 2]? = some (.cells #[.bool false, .slice fa1 lfa.length fa2, .slice lb1 llb.length lb2] 109) := put3_blk Q3
      obtain ⟨r0, r1, r2, -, -, -⟩ := cells3p hfb
      have hKf : Kept (oneBlk (w.heap.size + 2)) w1 (put3 (w1.alloc (.cells #[.bool false, .slice fa1 lfa.length fa2, .slice lb1 llb.length lb2] 109)) (w.heap.size + 2) (.bool false) (.slice fa1 lfa.length fa2) (.slice lb1 llb.length lb2)) := put3_kept (Kept.of_below (al' w1 (.cells #[.bool false, .slice fa1 lfa.length fa2, .slice lb1 llb.length lb2] 109))) rfl
      obtain ⟨e1, e2⟩ := hend.out w1 _ hKf K2 hS1
      unfold put3 at r0 r1 r2
      exact bodyPost_ret (v := .agg #[.bool false, .slice fa1 lfa.length fa2, .slice lb1 llb.length lb2]) (by simp [results, Tryz.results69, go_sem, r0, r1, r2]) rfl ⟨_, _, rfl, ⟨pA.first.kept hKf (hone.out _ pA.offF), hsub.out _ pA.offF, pB.last.kept hKf (hone.out _ pB.offL), hsub.out _ pB.offL⟩, e1, e2⟩
    | true =>
      go_enter Tryz.func69, Tryz.ntmps69
      go_wp2_with (first
        | (go_at_call_of 51 (Value.slice la1 lla.length la2); refine (GU.out _ _ lla llb _ h1 h4 pA1.last pB1.last).mono ?_; rintro e w3 ⟨v3, rfl, hO3, hb3⟩; obtain ⟨ua, uc, rfl, hx3⟩ := id (Nums.of_row hO3); clear hx3; have T3 := hs_keep Q3 hb3; have T4 := hs_keep Q4 hb3; clear A0 A1 A2 A3 A4 A5 B0 B1 B2 B3 B4 B5 Z0 Z1 Z2 Z3 Z4 Z5 X0 X1 X2 X3 X4 X5; obtain ⟨t0, t1, t2, t3, t4, t5⟩ := cells3p T3; obtain ⟨s0, s1, s2, s3, s4, s5⟩ := cells3p T4; have V3 : (w3.setCell ⟨w1.heap.size, 2, none⟩ (.slice ua (unionL lla llb).length uc)).heap[w.heap.size + 2]? = _ := hs_set T3 n3; obtain ⟨p0, p1, p2, p3, p4, p5⟩ := cells3p V3; have V4 : (w3.setCell ⟨w1.heap.size, 2, none⟩ (.slice ua (unionL lla llb).length uc)).heap[w1.heap.size]? = some (.cells #[.bool false, .slice fa1 lfa.length fa2, .slice ua (unionL lla llb).length uc] 109) := heap_setCell T4; obtain ⟨o0, o1, o2, o3, o4, o5⟩ := cells3p V4)
        | (go_at_call 50; refine GL.out.mono ?_; rintro e w1 ⟨rfl, hS1, K1⟩; obtain ⟨⟨q1, q2, q3⟩, hsz, K2, pA, pB⟩ := hK.out w1 K1; obtain ⟨a0, a1, a2, a3, a4, a5⟩ := cells3p q1; obtain ⟨b0, b1, b2, b3, b4, b5⟩ := cells3p q2; have Q1 := hs_keep q1 (al' w1 (.cells #[.bool false, .slice fa1 lfa.length fa2, .slice lb1 llb.length lb2] 109)); have Q2 := hs_keep q2 (al' w1 (.cells #[.bool false, .slice fa1 lfa.length fa2, .slice lb1 llb.length lb2] 109)); have Q3 := hs_keep q3 (al' w1 (.cells #[.bool false, .slice fa1 lfa.length fa2, .slice lb1 llb.length lb2] 109)); have Q4 := heap_new w1 (.cells #[.bool false, .slice fa1 lfa.length fa2, .slice lb1 llb.length lb2] 109); obtain ⟨A0, A1, A2, A3, A4, A5⟩ := cells3p Q1; obtain ⟨B0, B1, B2, B3, B4, B5⟩ := cells3p Q2; obtain ⟨Z0, Z1, Z2, Z3, Z4, Z5⟩ := cells3p Q3; obtain ⟨X0, X1, X2, X3, X4, X5⟩ := cells3p Q4; have n1 : ¬ w.heap.size = w1.heap.size := (by omega); have n2 : ¬ w.heap.size + 1 = w1.heap.size := (by omega); have n3 : ¬ w.heap.size + 2 = w1.heap.size := (by omega); have pA1 := pA.keep (al' w1 (.cells #[.bool false, .slice fa1 lfa.length fa2, .slice lb1 llb.length lb2] 109)); have pB1 := pB.keep (al' w1 (.cells #[.bool false, .slice fa1 lfa.length fa2, .slice lb1 llb.length lb2] 109))))
      have hfb : (put3 (w3.setCell ⟨w1.heap.size, 2, none⟩ (.slice ua (unionL lla llb).length uc)) (w.heap.size + 2) (.bool false) (.slice fa1 lfa.length fa2) (.slice ua (unionL lla llb).length uc)).heap[w.heap.size + 2]? = some (.cells #[.bool false, .slice fa1 lfa.length fa2, .slice ua (unionL lla llb).length uc] 109) := put3_blk V3
      obtain ⟨r0, r1, r2, -, -, -⟩ := cells3p hfb
      have hKf : Kept (oneBlk (w.heap.size + 2)) w1 (put3 (w3.setCell ⟨w1.heap.size, 2, none⟩ (.slice ua (unionL lla llb).length uc)) (w.heap.size + 2) (.bool false) (.slice fa1 lfa.length fa2) (.slice ua (unionL lla llb).length uc)) := put3_kept (Kept.of_below (bl_set (bl_step (al' w1 (.cells #[.bool false, .slice fa1 lfa.length fa2, .slice lb1 llb.length lb2] 109)) hb3) _ _ _ (Nat.le_refl _))) rfl
      obtain ⟨e1, e2⟩ := hend.out w1 _ hKf K2 hS1
      unfold put3 at r0 r1 r2
      have hK3 : Kept (fun k => k = w.heap.size + 2 ∨ k = w1.heap.size) w3 (put3 (w3.setCell ⟨w1.heap.size, 2, none⟩ (.slice ua (unionL lla llb).length uc)) (w.heap.size + 2) (.bool false) (.slice fa1 lfa.length fa2) (.slice ua (unionL lla llb).length uc)) := put3_kept ((Kept.refl _ _).setCell (fun _ => Or.inr rfl)) (Or.inl rfl)
      have hoF3 : ∀ k, (k = w.heap.size + 2 ∨ k = w1.heap.size) → k < (w1.alloc (.cells #[.bool false, .slice fa1 lfa.length fa2, .slice lb1 llb.length lb2] 109)).heap.size := fun k hk => by
        rw [size_al]; rcases hk with hk | hk <;> omega
      have hoX3 : ∀ k, Fx F w.heap.size k → k < (w1.alloc (.cells #[.bool false, .slice fa1 lfa.length fa2, .slice lb1 llb.length lb2] 109)).heap.size := fun k hk => by
        have := hFlt.out k hk
        rw [size_al]; omega
      exact bodyPost_ret (v := .agg #[.bool false, .slice fa1 lfa.length fa2, .slice ua (unionL lla llb).length uc]) (by simp [results, Tryz.results69, go_sem, r0, r1, r2]) rfl ⟨_, _, rfl, ⟨pA.first.kept hKf (hone.out _ pA.offF), hsub.out _ pA.offF, (Nums.of_row hO3).kept hK3 (Off.new hO3 hoF3), hsub.out _ (Off.new hO3 hoX3)⟩, e1, e2⟩
  | true =>
    cases nb with
    | false =>
      go_enter Tryz.func69, Tryz.ntmps69
      go_wp2_with (first
        | (go_at_call_of 51 (Value.slice fa1 lfa.length fa2); refine (GU.out _ _ lfa lfb _ h3 h2 pA1.first pB1.first).mono ?_; rintro e w2 ⟨v2, rfl, hO2, hb2⟩; obtain ⟨va, vc, rfl, hx2⟩ := id (Nums.of_row hO2); clear hx2; have R1 := hs_keep Q1 hb2; have R2 := hs_keep Q2 hb2; have R3 := hs_keep Q3 hb2; have R4 := hs_keep Q4 hb2; clear A0 A1 A2 A3 A4 A5 B0 B1 B2 B3 B4 B5 Z0 Z1 Z2 Z3 Z4 Z5 X0 X1 X2 X3 X4 X5; obtain ⟨c0, c1, c2, c3, c4, c5⟩ := cells3p R1; obtain ⟨d0, d1, d2, d3, d4, d5⟩ := cells3p R2; obtain ⟨y0, y1, y2, y3, y4, y5⟩ := cells3p R3; obtain ⟨x0, x1, x2, x3, x4, x5⟩ := cells3p R4; have hbs : Below w1.heap.size w1 (w2.setCell ⟨w1.heap.size, 1, none⟩ (.slice va (unionL lfa lfb).length vc)) := bl_set (bl_step (al' w1 (.cells #[.bool false, .slice fa1 lfa.length fa2, .slice lb1 llb.length lb2] 109)) hb2) _ _ _ (Nat.le_refl _); have S1 : (w2.setCell ⟨w1.heap.size, 1, none⟩ (.slice va (unionL lfa lfb).length vc)).heap[w.heap.size]? = _ := hs_set R1 n1; have S2 : (w2.setCell ⟨w1.heap.size, 1, none⟩ (.slice va (unionL lfa lfb).length vc)).heap[w.heap.size + 1]? = _ := hs_set R2 n2; have S3 : (w2.setCell ⟨w1.heap.size, 1, none⟩ (.slice va (unionL lfa lfb).length vc)).heap[w.heap.size + 2]? = _ := hs_set R3 n3; have S4 : (w2.setCell ⟨w1.heap.size, 1, none⟩ (.slice va (unionL lfa lfb).length vc)).heap[w1.heap.size]? = some (.cells #[.bool false, .slice va (unionL lfa lfb).length vc, .slice lb1 llb.length lb2] 109) := heap_setCell R4; obtain ⟨C0, C1, C2, C3, C4, C5⟩ := cells3p S1; obtain ⟨D0, D1, D2, D3, D4, D5⟩ := cells3p S2; obtain ⟨Y0, Y1, Y2, Y3, Y4, Y5⟩ := cells3p S3; obtain ⟨E0, E1, E2, E3, E4, E5⟩ := cells3p S4; have pA3 := pA.keep hbs; have pB3 := pB.keep hbs; have hsz2 := hb2.size)
        | (go_at_call 50; refine GL.out.mono ?_; rintro e w1 ⟨rfl, hS1, K1⟩; obtain ⟨⟨q1, q2, q3⟩, hsz, K2, pA, pB⟩ := hK.out w1 K1; obtain ⟨a0, a1, a2, a3, a4, a5⟩ := cells3p q1; obtain ⟨b0, b1, b2, b3, b4, b5⟩ := cells3p q2; have Q1 := hs_keep q1 (al' w1 (.cells #[.bool false, .slice fa1 lfa.length fa2, .slice lb1 llb.length lb2] 109)); have Q2 := hs_keep q2 (al' w1 (.cells #[.bool false, .slice fa1 lfa.length fa2, .slice lb1 llb.length lb2] 109)); have Q3 := hs_keep q3 (al' w1 (.cells #[.bool false, .slice fa1 lfa.length fa2, .slice lb1 llb.length lb2] 109)); have Q4 := heap_new w1 (.cells #[.bool false, .slice fa1 lfa.length fa2, .slice lb1 llb.length lb2] 109); obtain ⟨A0, A1, A2, A3, A4, A5⟩ := cells3p Q1; obtain ⟨B0, B1, B2, B3, B4, B5⟩ := cells3p Q2; obtain ⟨Z0, Z1, Z2, Z3, Z4, Z5⟩ := cells3p Q3; obtain ⟨X0, X1, X2, X3, X4, X5⟩ := cells3p Q4; have n1 : ¬ w.heap.size = w1.heap.size := (by omega); have n2 : ¬ w.heap.size + 1 = w1.heap.size := (by omega); have n3 : ¬ w.heap.size + 2 = w1.heap.size := (by omega); have pA1 := pA.keep (al' w1 (.cells #[.bool false, .slice fa1 lfa.length fa2, .slice lb1 llb.length lb2] 109)); have pB1 := pB.keep (al' w1 (.cells #[.bool false, .slice fa1 lfa.length fa2, .slice lb1 llb.length lb2] 109))))
      have hfb : (put3 (w2.setCell ⟨w1.heap.size, 1, none⟩ (.slice va (unionL lfa lfb).length vc)) (w.heap.size + 2) (.bool false) (.slice va (unionL lfa lfb).length vc) (.slice lb1 llb.length lb2)).heap[w.heap.size + 2]? = some (.cells #[.bool false, .slice va (unionL lfa lfb).length vc, .slice lb1 llb.length lb2] 109) := put3_blk S3
      obtain ⟨r0, r1, r2, -, -, -⟩ := cells3p hfb
      have hKf : Kept (oneBlk (w.heap.size + 2)) w1 (put3 (w2.setCell ⟨w1.heap.size, 1, none⟩ (.slice va (unionL lfa lfb).length vc)) (w.heap.size + 2) (.bool false) (.slice va (unionL lfa lfb).length vc) (.slice lb1 llb.length lb2)) := put3_kept (Kept.of_below (hbs)) rfl
      obtain ⟨e1, e2⟩ := hend.out w1 _ hKf K2 hS1
      unfold put3 at r0 r1 r2
      have hK2 : Kept (fun k => k = w.heap.size + 2 ∨ k = w1.heap.size) w2 (put3 (w2.setCell ⟨w1.heap.size, 1, none⟩ (.slice va (unionL lfa lfb).length vc)) (w.heap.size + 2) (.bool false) (.slice va (unionL lfa lfb).length vc) (.slice lb1 llb.length lb2)) := put3_kept ((Kept.refl _ _).setCell (fun _ => Or.inr rfl)) (Or.inl rfl)
      have hoF : ∀ k, (k = w.heap.size + 2 ∨ k = w1.heap.size) → k < (w1.alloc (.cells #[.bool false, .slice fa1 lfa.length fa2, .slice lb1 llb.length lb2] 109)).heap.size := fun k hk => by rw [size_al]; rcases hk with hk | hk <;> omega
      have hoX : ∀ k, Fx F w.heap.size k → k < (w1.alloc (.cells #[.bool false, .slice fa1 lfa.length fa2, .slice lb1 llb.length lb2] 109)).heap.size := fun k hk => by rw [size_al]; have := hFlt.out k hk; omega
      exact bodyPost_ret (v := .agg #[.bool false, .slice va (unionL lfa lfb).length vc, .slice lb1 llb.length lb2]) (by simp [results, Tryz.results69, go_sem, r0, r1, r2]) rfl ⟨_, _, rfl, ⟨(Nums.of_row hO2).kept hK2 (Off.new hO2 hoF), hsub.out _ (Off.new hO2 hoX), pB.last.kept hKf (hone.out _ pB.offL), hsub.out _ pB.offL⟩, e1, e2⟩
    | true =>
      go_enter Tryz.func69, Tryz.ntmps69
      go_wp2_with (first
        | (go_at_call_of 51 (Value.slice fa1 lfa.length fa2); refine (GU.out _ _ lfa lfb _ h3 h2 pA1.first pB1.first).mono ?_; rintro e w2 ⟨v2, rfl, hO2, hb2⟩; obtain ⟨va, vc, rfl, hx2⟩ := id (Nums.of_row hO2); clear hx2; have R1 := hs_keep Q1 hb2; have R2 := hs_keep Q2 hb2; have R3 := hs_keep Q3 hb2; have R4 := hs_keep Q4 hb2; clear A0 A1 A2 A3 A4 A5 B0 B1 B2 B3 B4 B5 Z0 Z1 Z2 Z3 Z4 Z5 X0 X1 X2 X3 X4 X5; obtain ⟨c0, c1, c2, c3, c4, c5⟩ := cells3p R1; obtain ⟨d0, d1, d2, d3, d4, d5⟩ := cells3p R2; obtain ⟨y0, y1, y2, y3, y4, y5⟩ := cells3p R3; obtain ⟨x0, x1, x2, x3, x4, x5⟩ := cells3p R4; have hbs : Below w1.heap.size w1 (w2.setCell ⟨w1.heap.size, 1, none⟩ (.slice va (unionL lfa lfb).length vc)) := bl_set (bl_step (al' w1 (.cells #[.bool true, .slice fa1 lfa.length fa2, .slice lb1 llb.length lb2] 109)) hb2) _ _ _ (Nat.le_refl _); have S1 : (w2.setCell ⟨w1.heap.size, 1, none⟩ (.slice va (unionL lfa lfb).length vc)).heap[w.heap.size]? = _ := hs_set R1 n1; have S2 : (w2.setCell ⟨w1.heap.size, 1, none⟩ (.slice va (unionL lfa lfb).length vc)).heap[w.heap.size + 1]? = _ := hs_set R2 n2; have S3 : (w2.setCell ⟨w1.heap.size, 1, none⟩ (.slice va (unionL lfa lfb).length vc)).heap[w.heap.size + 2]? = _ := hs_set R3 n3; have S4 : (w2.setCell ⟨w1.heap.size, 1, none⟩ (.slice va (unionL lfa lfb).length vc)).heap[w1.heap.size]? = some (.cells #[.bool true, .slice va (unionL lfa lfb).length vc, .slice lb1 llb.length lb2] 109) := heap_setCell R4; obtain ⟨C0, C1, C2, C3, C4, C5⟩ := cells3p S1; obtain ⟨D0, D1, D2, D3, D4, D5⟩ := cells3p S2; obtain ⟨Y0, Y1, Y2, Y3, Y4, Y5⟩ := cells3p S3; obtain ⟨E0, E1, E2, E3, E4, E5⟩ := cells3p S4; have pA3 := pA.keep hbs; have pB3 := pB.keep hbs; have hsz2 := hb2.size)
        | (go_at_call_of 51 (Value.slice la1 lla.length la2); refine (GU.out _ _ lla llb _ h1 h4 pA3.last pB3.last).mono ?_; rintro e w3 ⟨v3, rfl, hO3, hb3⟩; obtain ⟨ua, uc, rfl, hx3⟩ := id (Nums.of_row hO3); clear hx3; have T3 := hs_keep S3 hb3; have T4 := hs_keep S4 hb3; clear C0 C1 C2 C3 C4 C5 D0 D1 D2 D3 D4 D5 Y0 Y1 Y2 Y3 Y4 Y5 E0 E1 E2 E3 E4 E5; obtain ⟨t0, t1, t2, t3, t4, t5⟩ := cells3p T3; obtain ⟨s0, s1, s2, s3, s4, s5⟩ := cells3p T4; have V3 : (w3.setCell ⟨w1.heap.size, 2, none⟩ (.slice ua (unionL lla llb).length uc)).heap[w.heap.size + 2]? = _ := hs_set T3 n3; obtain ⟨p0, p1, p2, p3, p4, p5⟩ := cells3p V3; have V4 : (w3.setCell ⟨w1.heap.size, 2, none⟩ (.slice ua (unionL lla llb).length uc)).heap[w1.heap.size]? = some (.cells #[.bool true, .slice va (unionL lfa lfb).length vc, .slice ua (unionL lla llb).length uc] 109) := heap_setCell T4; obtain ⟨o0, o1, o2, o3, o4, o5⟩ := cells3p V4)
        | (go_at_call 50; refine GL.out.mono ?_; rintro e w1 ⟨rfl, hS1, K1⟩; obtain ⟨⟨q1, q2, q3⟩, hsz, K2, pA, pB⟩ := hK.out w1 K1; obtain ⟨a0, a1, a2, a3, a4, a5⟩ := cells3p q1; obtain ⟨b0, b1, b2, b3, b4, b5⟩ := cells3p q2; have Q1 := hs_keep q1 (al' w1 (.cells #[.bool true, .slice fa1 lfa.length fa2, .slice lb1 llb.length lb2] 109)); have Q2 := hs_keep q2 (al' w1 (.cells #[.bool true, .slice fa1 lfa.length fa2, .slice lb1 llb.length lb2] 109)); have Q3 := hs_keep q3 (al' w1 (.cells #[.bool true, .slice fa1 lfa.length fa2, .slice lb1 llb.length lb2] 109)); have Q4 := heap_new w1 (.cells #[.bool true, .slice fa1 lfa.length fa2, .slice lb1 llb.length lb2] 109); obtain ⟨A0, A1, A2, A3, A4, A5⟩ := cells3p Q1; obtain ⟨B0, B1, B2, B3, B4, B5⟩ := cells3p Q2; obtain ⟨Z0, Z1, Z2, Z3, Z4, Z5⟩ := cells3p Q3; obtain ⟨X0, X1, X2, X3, X4, X5⟩ := cells3p Q4; have n1 : ¬ w.heap.size = w1.heap.size := (by omega); have n2 : ¬ w.heap.size + 1 = w1.heap.size := (by omega); have n3 : ¬ w.heap.size + 2 = w1.heap.size := (by omega); have pA1 := pA.keep (al' w1 (.cells #[.bool true, .slice fa1 lfa.length fa2, .slice lb1 llb.length lb2] 109)); have pB1 := pB.keep (al' w1 (.cells #[.bool true, .slice fa1 lfa.length fa2, .slice lb1 llb.length lb2] 109))))
      have hfb : (put3 (w3.setCell ⟨w1.heap.size, 2, none⟩ (.slice ua (unionL lla llb).length uc)) (w.heap.size + 2) (.bool true) (.slice va (unionL lfa lfb).length vc) (.slice ua (unionL lla llb).length uc)).heap[w.heap.size + 2]? = some (.cells #[.bool true, .slice va (unionL lfa lfb).length vc, .slice ua (unionL lla llb).length uc] 109) := put3_blk V3
      obtain ⟨r0, r1, r2, -, -, -⟩ := cells3p hfb
      have hKf : Kept (oneBlk (w.heap.size + 2)) w1 (put3 (w3.setCell ⟨w1.heap.size, 2, none⟩ (.slice ua (unionL lla llb).length uc)) (w.heap.size + 2) (.bool true) (.slice va (unionL lfa lfb).length vc) (.slice ua (unionL lla llb).length uc)) := put3_kept (Kept.of_below (bl_set (bl_step (hbs) hb3) _ _ _ (Nat.le_refl _))) rfl
      obtain ⟨e1, e2⟩ := hend.out w1 _ hKf K2 hS1
      unfold put3 at r0 r1 r2
      have hK2 : Kept (fun k => k = w.heap.size + 2 ∨ k = w1.heap.size) w2 (put3 (w3.setCell ⟨w1.heap.size, 2, none⟩ (.slice ua (unionL lla llb).length uc)) (w.heap.size + 2) (.bool true) (.slice va (unionL lfa lfb).length vc) (.slice ua (unionL lla llb).length uc)) := put3_kept ((((Kept.refl _ _).setCell (fun _ => Or.inr rfl)).step (Kept.of_below hb3) (fun _ _ h => h)).setCell (fun _ => Or.inr rfl)) (Or.inl rfl)
      have hoF : ∀ k, (k = w.heap.size + 2 ∨ k = w1.heap.size) → k < (w1.alloc (.cells #[.bool true, .slice fa1 lfa.length fa2, .slice lb1 llb.length lb2] 109)).heap.size := fun k hk => by rw [size_al]; rcases hk with hk | hk <;> omega
      have hoX : ∀ k, Fx F w.heap.size k → k < (w1.alloc (.cells #[.bool true, .slice fa1 lfa.length fa2, .slice lb1 llb.length lb2] 109)).heap.size := fun k hk => by rw [size_al]; have := hFlt.out k hk; omega
      have hK3 : Kept (fun k => k = w.heap.size + 2 ∨ k = w1.heap.size) w3 (put3 (w3.setCell ⟨w1.heap.size, 2, none⟩ (.slice ua (unionL lla llb).length uc)) (w.heap.size + 2) (.bool true) (.slice va (unionL lfa lfb).length vc) (.slice ua (unionL lla llb).length uc)) := put3_kept ((Kept.refl _ _).setCell (fun _ => Or.inr rfl)) (Or.inl rfl)
      have hoF3 : ∀ k, (k = w.heap.size + 2 ∨ k = w1.heap.size) → k < (w2.setCell ⟨w1.heap.size, 1, none⟩ (.slice va (unionL lfa lfb).length vc)).heap.size := fun k hk => by
        have hz : w1.heap.size + 1 ≤ w2.heap.size := by have h := hb2.size; rw [size_al] at h; exact h
        simp; rcases hk with hk | hk <;> omega
      have hoX3 : ∀ k, Fx F w.heap.size k → k < (w2.setCell ⟨w1.heap.size, 1, none⟩ (.slice va (unionL lfa lfb).length vc)).heap.size := fun k hk => by
        have := hFlt.out k hk
        have hz : w1.heap.size + 1 ≤ w2.heap.size := by have h := hb2.size; rw [size_al] at h; exact h
        simp; omega
      exact bodyPost_ret (v := .agg #[.bool true, .slice va (unionL lfa lfb).length vc, .slice ua (unionL lla llb).length uc]) (by simp [results, Tryz.results69, go_sem, r0, r1, r2]) rfl ⟨_, _, rfl, ⟨(Nums.of_row hO2).kept hK2 (Off.new hO2 hoF), hsub.out _ (Off.new hO2 hoX), (Nums.of_row hO3).kept hK3 (Off.new hO3 hoF3), hsub.out _ (Off.new hO3 hoX3)⟩, e1, e2⟩

end Go.Proofs.YtonlcnmlklaicaaGreatDoor
namespace Go.Proofs.YtonlcnmlklaicaaGreatDoor
open Go.RowKit

set_option maxRecDepth 20000 in
set_option maxHeartbeats 4000000 in
theorem joinedCat (F : Nat → Prop) (B pb n : Nat) (gv fa la fb lb : Value) (na nb : Bool) (lfa lla lfb llb : List Int) (gs : List Value) (fl : List (List Int)) (w : World)
    (hS : LkS F B pb gv n w gs fl) (hA : PtV F w fa la lfa lla) (hB : PtV F w fb lb lfb llb) (hlla : InN lla n) (h1 : lla.length ≤ 60) (hlfb : InN lfb n) (h2 : lfb.length ≤ 60) (h3 : lfa.length ≤ 60) (h4 : llb.length ≤ 60) :
    Calls Tryz.prog 53 #[.int .i64 3, .agg #[.bool na, fa, la], .agg #[.bool nb, fb, lb], .func (.func 50) #[] #[.pointer (some ⟨pb, 0, none⟩)]] w fun e w' => ∃ fv lv, e = .returned (.agg #[.bool (na && nb), fv, lv]) ∧
      PtV F w' fv lv (if na then unionL lfa lfb else lfa) (if nb then unionL lla llb else llb) ∧ (∃ gs', LkS F B pb gv n w' gs' (linkL fl lfb lla)) ∧ Kept (fun k => gv.ownBlock = some k) w w' := by
  have hlt := hid hS.lt
  have hrow := hid hS.row
  have hin := hid hS.inF
  have hnb : Hid (∀ k, w.heap.size ≤ k → ¬ gv.ownBlock = some k) := hid (fun k hk e => by have := hlt.out k (hrow.out k e).1; omega)
  obtain ⟨fa1, fa2, rfl⟩ : ∃ a c, fa = .slice a lfa.length c := by obtain ⟨a, c, e, _⟩ := hA.first; exact ⟨a, c, e⟩
  obtain ⟨la1, la2, rfl⟩ : ∃ a c, la = .slice a lla.length c := by obtain ⟨a, c, e, _⟩ := hA.last; exact ⟨a, c, e⟩
  obtain ⟨fb1, fb2, rfl⟩ : ∃ a c, fb = .slice a lfb.length c := by obtain ⟨a, c, e, _⟩ := hB.first; exact ⟨a, c, e⟩
  obtain ⟨lb1, lb2, rfl⟩ : ∃ a c, lb = .slice a llb.length c := by obtain ⟨a, c, e, _⟩ := hB.last; exact ⟨a, c, e⟩
  obtain ⟨W0, hW0⟩ : ∃ W0, W0 = ((w.alloc (.cells #[.bool na, .slice fa1 lfa.length fa2, .slice la1 lla.length la2] 109)).alloc (.cells #[.bool nb, .slice fb1 lfb.length fb2, .slice lb1 llb.length lb2] 109)).alloc (.cells #[.bool false, .slice none 0 0, .slice none 0 0] 109) := ⟨_, rfl⟩
  have hb0 : Below w.heap.size w W0 := by rw [hW0]; exact bl_step (bl_step (al' w _) (al' _ _)) (al' _ _)
  have hs0 : W0.heap.size = w.heap.size + 3 := by rw [hW0]; simp
  have hblk : W0.heap[w.heap.size]? = some (.cells #[.bool na, .slice fa1 lfa.length fa2, .slice la1 lla.length la2] 109) ∧ W0.heap[w.heap.size + 1]? = some (.cells #[.bool nb, .slice fb1 lfb.length fb2, .slice lb1 llb.length lb2] 109) ∧ W0.heap[w.heap.size + 2]? = some (.cells #[.bool false, .slice none 0 0, .slice none 0 0] 109) := by rw [hW0]; exact three_blocks w _ _ _
  have hFx : ∀ k, Fx F w.heap.size k → F k ∨ w.heap.size ≤ k := fun k hk => by
    rcases hk with hk | hk
    · exact Or.inl hk
    · exact Or.inr hk.1
  have GT := hid (inTurnC (Fx F w.heap.size) B pb n gv _ _ _ _ na nb lfa lla lfb llb gs fl W0 (hS.more hb0 (by omega)) ((hA.more hFx).keep hb0) ((hB.more hFx).keep hb0) hlla h1 hlfb h2 h3 h4)
  have hK : Hid (∀ w1, Kept (fun k => gv.ownBlock = some k) W0 w1 → w1.heap[w.heap.size + 2]? = some (.cells #[.bool false, .slice none 0 0, .slice none 0 0] 109) ∧ Kept (fun k => gv.ownBlock = some k) w w1) := hid (fun w1 K1 => ⟨K1.blk hblk.2.2 (hnb.out _ (by omega)), (Kept.of_below hb0).step K1 (fun k hk e => e)⟩)
  have hend : Hid (∀ w1 u, Kept (oneBlk (w.heap.size + 2)) w1 u → Kept (fun k => gv.ownBlock = some k) w w1 → (∃ gs', LkS (Fx F w.heap.size) B pb gv n w1 gs' (linkL fl lfb lla)) → (∃ gs', LkS F B pb gv n u gs' (linkL fl lfb lla)) ∧ Kept (fun k => gv.ownBlock = some k) w u) := hid (fun w1 u h1 h2 ⟨gs', h3⟩ => ⟨⟨gs', h3.less hlt.out (fun k e => (hrow.out k e).1) hin.out (by omega) (by omega) h1⟩, h2.step h1 (fun k hk e => by have e' : k = w.heap.size + 2 := e; omega)⟩)
  have hsub : Hid (∀ v, Off (Fx F w.heap.size) v → Off F v) := hid (fun v h => h.sub fun k e => Or.inl e)
  have hone : Hid (∀ v, Off (Fx F w.heap.size) v → Off (oneBlk (w.heap.size + 2)) v) := hid (fun v h => h.sub fun k e => Or.inr (by have e' : k = w.heap.size + 2 := e; omega))
  obtain ⟨⟨a0, a1, a2, -⟩, ⟨b0, b1, b2, -⟩⟩ := And.intro (cells3p hblk.1) (cells3p hblk.2.1)
  clear hS hA hB hblk hFx
  subst hW0
  generalize (if na then unionL lfa lfb else lfa) = rf at GT ⊢
  generalize (if nb then unionL lla llb else llb) = rl at GT ⊢
  generalize (na && nb) = rn at GT ⊢
  go_enter Tryz.func53, Tryz.ntmps53
  go_wp2_with (go_at_call 69; refine GT.out.mono ?_; rintro e w1 ⟨fv, lv, rfl, pR, hS1, K1⟩; obtain ⟨xa, xc, rfl, hx1⟩ := id pR.first; obtain ⟨ya, yc, rfl, hx2⟩ := id pR.last; clear hx1 hx2; obtain ⟨q3, K2⟩ := hK.out w1 K1; obtain ⟨z0, z1, z2, z3, z4, z5⟩ := cells3p q3)
  have hfb : (put3 w1 (w.heap.size + 2) (.bool rn) (.slice xa rf.length xc) (.slice ya rl.length yc)).heap[w.heap.size + 2]? = some (.cells #[.bool rn, .slice xa rf.length xc, .slice ya rl.length yc] 109) := put3_blk q3
  obtain ⟨r0, r1, r2, -, -, -⟩ := cells3p hfb
  have hKf : Kept (oneBlk (w.heap.size + 2)) w1 (put3 w1 (w.heap.size + 2) (.bool rn) (.slice xa rf.length xc) (.slice ya rl.length yc)) := put3_kept (Kept.refl _ _) rfl
  obtain ⟨e1, e2⟩ := hend.out w1 _ hKf K2 hS1
  unfold put3 at r0 r1 r2
  exact bodyPost_ret (v := .agg #[.bool rn, .slice xa rf.length xc, .slice ya rl.length yc]) (by simp [results, Tryz.results53, go_sem, r0, r1, r2]) rfl ⟨_, _, rfl, ⟨pR.first.kept hKf (hone.out _ pR.offF), hsub.out _ pR.offF, pR.last.kept hKf (hone.out _ pR.offL), hsub.out _ pR.offL⟩, e1, e2⟩

end Go.Proofs.YtonlcnmlklaicaaGreatDoor
namespace Go.Proofs.YtonlcnmlklaicaaGreatDoor
open Go.RowKit

set_option maxRecDepth 20000 in
set_option maxHeartbeats 4000000 in
theorem joinedOr (F : Nat → Prop) (fa la fb lb lk : Value) (na nb : Bool) (lfa lla lfb llb : List Int) (w : World) (hF : ∀ k, F k → k < w.heap.size)
    (hA : PtV F w fa la lfa lla) (hB : PtV F w fb lb lfb llb) (h1 : lla.length ≤ 60) (h2 : lfb.length ≤ 60) (h3 : lfa.length ≤ 60) (h4 : llb.length ≤ 60) :
    Calls Tryz.prog 53 #[.int .i64 4, .agg #[.bool na, fa, la], .agg #[.bool nb, fb, lb], lk] w fun e w' => ∃ fv lv, e = .returned (.agg #[.bool (na || nb), fv, lv]) ∧
      PtV F w' fv lv (unionL lfa lfb) (unionL lla llb) ∧ Below w.heap.size w w' := by
  have GU := hid (fun va vb (la lb : List Int) u (h1 : la.length ≤ 60) (h2 : lb.length ≤ 60) hA hB => setsUnion va vb la lb u (by omega) (by omega) hA hB)
  obtain ⟨fa1, fa2, rfl⟩ : ∃ a c, fa = .slice a lfa.length c := by obtain ⟨a, c, e, _⟩ := hA.first; exact ⟨a, c, e⟩
  obtain ⟨la1, la2, rfl⟩ : ∃ a c, la = .slice a lla.length c := by obtain ⟨a, c, e, _⟩ := hA.last; exact ⟨a, c, e⟩
  obtain ⟨fb1, fb2, rfl⟩ : ∃ a c, fb = .slice a lfb.length c := by obtain ⟨a, c, e, _⟩ := hB.first; exact ⟨a, c, e⟩
  obtain ⟨lb1, lb2, rfl⟩ : ∃ a c, lb = .slice a llb.length c := by obtain ⟨a, c, e, _⟩ := hB.last; exact ⟨a, c, e⟩
  obtain ⟨W0, hW0⟩ : ∃ W0, W0 = ((w.alloc (.cells #[.bool na, .slice fa1 lfa.length fa2, .slice la1 lla.length la2] 109)).alloc (.cells #[.bool nb, .slice fb1 lfb.length fb2, .slice lb1 llb.length lb2] 109)).alloc (.cells #[.bool false, .slice none 0 0, .slice none 0 0] 109) := ⟨_, rfl⟩
  have hb0 : Below w.heap.size w W0 := by rw [hW0]; exact bl_step (bl_step (al' w _) (al' _ _)) (al' _ _)
  have hs0 : W0.heap.size = w.heap.size + 3 := by rw [hW0]; simp
  have hblk : W0.heap[w.heap.size]? = some (.cells #[.bool na, .slice fa1 lfa.length fa2, .slice la1 lla.length la2] 109) ∧ W0.heap[w.heap.size + 1]? = some (.cells #[.bool nb, .slice fb1 lfb.length fb2, .slice lb1 llb.length lb2] 109) ∧ W0.heap[w.heap.size + 2]? = some (.cells #[.bool false, .slice none 0 0, .slice none 0 0] 109) := by rw [hW0]; exact three_blocks w _ _ _
  have hC : Hid (∀ u, Below W0.heap.size W0 u → (u.heap[w.heap.size]? = some (.cells #[.bool na, .slice fa1 lfa.length fa2, .slice la1 lla.length la2] 109) ∧ u.heap[w.heap.size + 1]? = some (.cells #[.bool nb, .slice fb1 lfb.length fb2, .slice lb1 llb.length lb2] 109) ∧ u.heap[w.heap.size + 2]? = some (.cells #[.bool false, .slice none 0 0, .slice none 0 0] 109)) ∧ PtV F u (.slice fa1 lfa.length fa2) (.slice la1 lla.length la2) lfa lla ∧ PtV F u (.slice fb1 lfb.length fb2) (.slice lb1 llb.length lb2) lfb llb ∧ Below w.heap.size w u ∧ w.heap.size + 3 ≤ u.heap.size) := hid (fun u hu => ⟨⟨hs_keep hblk.1 hu, hs_keep hblk.2.1 hu, hs_keep hblk.2.2 hu⟩, (hA.keep hb0).keep hu, (hB.keep hb0).keep hu, bl_step hb0 hu, by have := hu.size; omega⟩)
  have hF := hid hF
  have hfin : Hid (∀ u vA vB, Own u W0.heap.size vA (unionL lfa lfb) → Own u W0.heap.size vB (unionL lla llb) → Below W0.heap.size W0 u → PtV F (put3 u (w.heap.size + 2) (.bool (na || nb)) vA vB) vA vB (unionL lfa lfb) (unionL lla llb) ∧ Below w.heap.size w (put3 u (w.heap.size + 2) (.bool (na || nb)) vA vB)) := hid (fun u vA vB hA' hB' hu => by
    have hk : Kept (oneBlk (w.heap.size + 2)) u (put3 u (w.heap.size + 2) (.bool (na || nb)) vA vB) := put3_kept (Kept.refl _ _) rfl
    have ho : ∀ k, oneBlk (w.heap.size + 2) k → k < W0.heap.size := fun k e => by have e' : k = w.heap.size + 2 := e; omega
    have hf : ∀ k, F k → k < W0.heap.size := fun k e => by have := hF.out k e; omega
    refine ⟨⟨(Nums.of_row hA').kept hk (Off.new hA' ho), Off.new hA' hf, (Nums.of_row hB').kept hk (Off.new hB' ho), Off.new hB' hf⟩, ?_⟩
    exact ((Kept.of_below (F := oneBlk (w.heap.size + 2)) (bl_step hb0 hu)).step hk (fun k _ h => h)).below (fun k e => by have e' : k = w.heap.size + 2 := e; omega) (Nat.le_refl _))
  have hbd := hid ((Below.refl W0.heap.size W0).drew)
  obtain ⟨⟨q1, q2, q3⟩, -, -, -, -⟩ := hC.out W0.drew hbd.out
  obtain ⟨a0, a1, a2, -, -, -⟩ := cells3p q1
  obtain ⟨b0, b1, b2, -, -, -⟩ := cells3p q2
  obtain ⟨z0, z1, z2, z3, z4, z5⟩ := cells3p q3
  clear hA hB hblk q1 q2 q3 hb0
  subst hW0
  go_enter Tryz.func53, Tryz.ntmps53
  go_wp2_with fail
  have hset : Hid (∀ (u : World) y0 y1 y2, u.heap[w.heap.size]? = some (.cells #[.bool na, .slice fa1 lfa.length fa2, .slice la1 lla.length la2] 109) → u.heap[w.heap.size + 1]? = some (.cells #[.bool nb, .slice fb1 lfb.length fb2, .slice lb1 llb.length lb2] 109) →
      (((((u.setCell ⟨w.heap.size + 1 + 1, 0, none⟩ y0).setCell ⟨w.heap.size + 1 + 1, 1, none⟩ y1).setCell ⟨w.heap.size + 1 + 1, 2, none⟩ y2).heap[w.heap.size]? = some (.cells #[.bool na, .slice fa1 lfa.length fa2, .slice la1 lla.length la2] 109)) ∧ (((u.setCell ⟨w.heap.size + 1 + 1, 0, none⟩ y0).setCell ⟨w.heap.size + 1 + 1, 1, none⟩ y1).setCell ⟨w.heap.size + 1 + 1, 2, none⟩ y2).heap[w.heap.size + 1]? = some (.cells #[.bool nb, .slice fb1 lfb.length fb2, .slice lb1 llb.length lb2] 109))) := hid (fun u y0 y1 y2 h1 h2 => ⟨hs_set (hs_set (hs_set h1 (by omega)) (by omega)) (by omega), hs_set (hs_set (hs_set h2 (by omega)) (by omega)) (by omega)⟩)
  cases na with
  | true =>
    refine wp_region_held_drew (S := (fun w' => w'.cell? ⟨w.heap.size, 0, none⟩ = some (.bool true) ∧ w'.cell? ⟨w.heap.size, 1, none⟩ = some (.slice fa1 lfa.length fa2) ∧ w'.cell? ⟨w.heap.size, 2, none⟩ = some (.slice la1 lla.length la2) ∧ w'.cell? ⟨w.heap.size + 1, 0, none⟩ = some (.bool nb) ∧ w'.cell? ⟨w.heap.size + 1, 1, none⟩ = some (.slice fb1 lfb.length fb2) ∧ w'.cell? ⟨w.heap.size + 1, 2, none⟩ = some (.slice lb1 llb.length lb2))) (by kernel_rfl) ⟨a0, a1, a2, b0, b1, b2⟩ (fun hHeld => ?_)
    refine wpAnyH_take (i := 0) (oi := { dst := some 15, op := .fieldAddr 109 (.tmp 5) 0, type := 0, pos := "spots.go:79", after := #[], guard := none }) (v := ?_) rfl (by kernel_rfl) (by kernel_rfl) (by kernel_rfl) (fun _ _ _ h => h) (Or.inl ⟨by rfl, ?_⟩) (by assumption) ?_
    rotate_left
    · (intro w hSw; (try dsimp only at hSw); go_simp; try with_reducible rfl)
    try simp only [Act.put, List.setIfInBounds_toArray, List.set_cons_zero, List.set_cons_succ]
    refine wpAnyH_take (i := 1) (oi := { dst := some 16, op := .load 4 (.tmp 15), type := 4, pos := "spots.go:79", after := #[{ on := 0, ground := .data }], guard := none }) (v := ?_) rfl (by kernel_rfl) (by kernel_rfl) (by kernel_rfl) (fun _ _ _ h => h) (Or.inl ⟨by rfl, ?_⟩) (by assumption) ?_
    rotate_left
    · (intro w hSw; (try dsimp only at hSw); go_simp; try with_reducible rfl)
    try simp only [Act.put, List.setIfInBounds_toArray, List.set_cons_zero, List.set_cons_succ]
    refine wpAnyH_take (i := 2) (oi := { dst := some 17, op := .move (.tmp 16), type := 4, pos := "spots.go:79", after := #[{ on := 1, ground := .data }], guard := none }) (v := ?_) rfl (by kernel_rfl) (by kernel_rfl) (by kernel_rfl) (fun _ _ _ h => h) (Or.inl ⟨by rfl, ?_⟩) (by assumption) ?_
    rotate_left
    · (intro w hSw; (try dsimp only at hSw); go_simp; try with_reducible rfl)
    try simp only [Act.put, List.setIfInBounds_toArray, List.set_cons_zero, List.set_cons_succ]
    refine wpAnyH_take (i := 3) (oi := { dst := some 18, op := .fieldAddr 109 (.tmp 6) 0, type := 0, pos := "spots.go:79", after := #[{ on := 2, ground := .guard }], guard := some (2, false) }) (v := undef) rfl (by kernel_rfl) (by kernel_rfl) (by kernel_rfl) (fun _ _ _ h => h) (Or.inr ⟨by rfl, rfl⟩) (by assumption) ?_
    try simp only [Act.put, List.setIfInBounds_toArray, List.set_cons_zero, List.set_cons_succ]
    refine wpAnyH_take (i := 4) (oi := { dst := some 19, op := .load 4 (.tmp 18), type := 4, pos := "spots.go:79", after := #[{ on := 3, ground := .data }, { on := 2, ground := .guard }], guard := some (2, false) }) (v := undef) rfl (by kernel_rfl) (by kernel_rfl) (by kernel_rfl) (fun _ _ _ h => h) (Or.inr ⟨by rfl, rfl⟩) (by assumption) ?_
    try simp only [Act.put, List.setIfInBounds_toArray, List.set_cons_zero, List.set_cons_succ]
    refine wpAnyH_take (i := 5) (oi := { dst := some 20, op := .pick (.tmp 17) (.const (.bool true)) (.tmp 19), type := 4, pos := "spots.go:79", after := #[{ on := 2, ground := .data }, { on := 4, ground := .data }], guard := none }) (v := ?_) rfl (by kernel_rfl) (by kernel_rfl) (by kernel_rfl) (fun _ _ _ h => h) (Or.inl ⟨by rfl, ?_⟩) (by assumption) ?_
    rotate_left
    · (intro w hSw; (try dsimp only at hSw); go_simp; try with_reducible rfl)
    try simp only [Act.put, List.setIfInBounds_toArray, List.set_cons_zero, List.set_cons_succ]
    refine wpAnyH_take (i := 6) (oi := { dst := some 21, op := .fieldAddr 109 (.tmp 5) 1, type := 0, pos := "spots.go:79", after := #[], guard := none }) (v := ?_) rfl (by kernel_rfl) (by kernel_rfl) (by kernel_rfl) (fun _ _ _ h => h) (Or.inl ⟨by rfl, ?_⟩) (by assumption) ?_
    rotate_left
    · (intro w hSw; (try dsimp only at hSw); go_simp; try with_reducible rfl)
    try simp only [Act.put, List.setIfInBounds_toArray, List.set_cons_zero, List.set_cons_succ]
    refine wpAnyH_take (i := 7) (oi := { dst := some 22, op := .load 23 (.tmp 21), type := 23, pos := "spots.go:79", after := #[{ on := 6, ground := .data }], guard := none }) (v := ?_) rfl (by kernel_rfl) (by kernel_rfl) (by kernel_rfl) (fun _ _ _ h => h) (Or.inl ⟨by rfl, ?_⟩) (by assumption) ?_
    rotate_left
    · (intro w hSw; (try dsimp only at hSw); go_simp; try with_reducible rfl)
    try simp only [Act.put, List.setIfInBounds_toArray, List.set_cons_zero, List.set_cons_succ]
    refine wpAnyH_take (i := 8) (oi := { dst := some 23, op := .fieldAddr 109 (.tmp 6) 1, type := 0, pos := "spots.go:79", after := #[], guard := none }) (v := ?_) rfl (by kernel_rfl) (by kernel_rfl) (by kernel_rfl) (fun _ _ _ h => h) (Or.inl ⟨by rfl, ?_⟩) (by assumption) ?_
    rotate_left
    · (intro w hSw; (try dsimp only at hSw); go_simp; try with_reducible rfl)
    try simp only [Act.put, List.setIfInBounds_toArray, List.set_cons_zero, List.set_cons_succ]
    refine wpAnyH_take (i := 9) (oi := { dst := some 24, op := .load 23 (.tmp 23), type := 23, pos := "spots.go:79", after := #[{ on := 8, ground := .data }], guard := none }) (v := ?_) rfl (by kernel_rfl) (by kernel_rfl) (by kernel_rfl) (fun _ _ _ h => h) (Or.inl ⟨by rfl, ?_⟩) (by assumption) ?_
    rotate_left
    · (intro w hSw; (try dsimp only at hSw); go_simp; try with_reducible rfl)
    try simp only [Act.put, List.setIfInBounds_toArray, List.set_cons_zero, List.set_cons_succ]
    refine wpAnyH_take (i := 11) (oi := { dst := some 26, op := .fieldAddr 109 (.tmp 5) 2, type := 0, pos := "spots.go:79", after := #[], guard := none }) (v := ?_) rfl (by kernel_rfl) (by kernel_rfl) (by kernel_rfl) (fun _ _ _ h => h) (Or.inl ⟨by rfl, ?_⟩) (by assumption) ?_
    rotate_left
    · (intro w hSw; (try dsimp only at hSw); go_simp; try with_reducible rfl)
    try simp only [Act.put, List.setIfInBounds_toArray, List.set_cons_zero, List.set_cons_succ]
    refine wpAnyH_take (i := 12) (oi := { dst := some 27, op := .load 23 (.tmp 26), type := 23, pos := "spots.go:79", after := #[{ on := 11, ground := .data }], guard := none }) (v := ?_) rfl (by kernel_rfl) (by kernel_rfl) (by kernel_rfl) (fun _ _ _ h => h) (Or.inl ⟨by rfl, ?_⟩) (by assumption) ?_
    rotate_left
    · (intro w hSw; (try dsimp only at hSw); go_simp; try with_reducible rfl)
    try simp only [Act.put, List.setIfInBounds_toArray, List.set_cons_zero, List.set_cons_succ]
    refine wpAnyH_take (i := 13) (oi := { dst := some 28, op := .fieldAddr 109 (.tmp 6) 2, type := 0, pos := "spots.go:79", after := #[], guard := none }) (v := ?_) rfl (by kernel_rfl) (by kernel_rfl) (by kernel_rfl) (fun _ _ _ h => h) (Or.inl ⟨by rfl, ?_⟩) (by assumption) ?_
    rotate_left
    · (intro w hSw; (try dsimp only at hSw); go_simp; try with_reducible rfl)
    try simp only [Act.put, List.setIfInBounds_toArray, List.set_cons_zero, List.set_cons_succ]
    refine wpAnyH_take (i := 14) (oi := { dst := some 29, op := .load 23 (.tmp 28), type := 23, pos := "spots.go:79", after := #[{ on := 13, ground := .data }], guard := none }) (v := ?_) rfl (by kernel_rfl) (by kernel_rfl) (by kernel_rfl) (fun _ _ _ h => h) (Or.inl ⟨by rfl, ?_⟩) (by assumption) ?_
    rotate_left
    · (intro w hSw; (try dsimp only at hSw); go_simp; try with_reducible rfl)
    try simp only [Act.put, List.setIfInBounds_toArray, List.set_cons_zero, List.set_cons_succ]
    refine wpAnyH_ready (rs := [10]) (by kernel_rfl) (by simp) ?_
    refine AllReadyH.cons (o := { dst := some 25, op := .call { callee := .value (.func 51), args := #[.tmp 22, .tmp 24], argTypes := #[23, 23] }, type := 23, pos := "spots.go:79", after := #[{ on := 7, ground := .data }, { on := 9, ground := .data }, { on := 2, ground := .chain }], guard := none }) rfl (fun K hK => ?_) AllReadyH.nil
    obtain ⟨-, pa, pb, -, -⟩ := hC.out _ hbd.out
    refine step_call (by rfl) 51 #[.slice fa1 lfa.length fa2, .slice fb1 lfb.length fb2] (by (go_simp; done)) (GU.out _ _ lfa lfb _ h3 h2 pa.first pb.first) ?_
    rintro e wA ⟨vA, rfl, hOA, hbA0⟩
    have hbA := bl_step hbd.out hbA0
    obtain ⟨xa, xc, rfl, hx1⟩ := id (Nums.of_row hOA)
    clear hx1 pa pb
    obtain ⟨⟨m1, m2, m3⟩, pa, pb, -, -⟩ := hC.out _ hbA
    obtain ⟨c0, c1, c2, -, -, -⟩ := cells3p m1
    obtain ⟨d0, d1, d2, -, -, -⟩ := cells3p m2
    refine ⟨_, rfl, hK.out _ _ ⟨c0, c1, c2, d0, d1, d2⟩ (fun hHeld2 => ?_)⟩
    clear hK K hHeld
    try simp only [Act.put, List.setIfInBounds_toArray, List.set_cons_zero, List.set_cons_succ]
    refine wpAnyH_ready (rs := [15]) (by kernel_rfl) (by simp) ?_
    refine AllReadyH.cons (o := { dst := some 30, op := .call { callee := .value (.func 51), args := #[.tmp 27, .tmp 29], argTypes := #[23, 23] }, type := 23, pos := "spots.go:79", after := #[{ on := 12, ground := .data }, { on := 14, ground := .data }, { on := 10, ground := .chain }], guard := none }) rfl (fun K hK => ?_) AllReadyH.nil
    refine step_call (by rfl) 51 #[.slice la1 lla.length la2, .slice lb1 llb.length lb2] (by (go_simp; done)) (GU.out _ _ lla llb _ h1 h4 pa.last pb.last) ?_
    rintro e wB ⟨vB, rfl, hOB, hbB0⟩
    have hbB := bl_step hbA hbB0
    obtain ⟨ya, yc, rfl, hx2⟩ := id (Nums.of_row hOB)
    clear hx2 pa pb
    obtain ⟨⟨m4, m5, m6⟩, -, -, -, -⟩ := hC.out _ hbB
    obtain ⟨e0, e1, e2, -, -, -⟩ := cells3p m4
    obtain ⟨f0, f1, f2, -, -, -⟩ := cells3p m5
    obtain ⟨y0, y1, y2, y3, y4, y5⟩ := cells3p m6
    have g := hset.out wB (.bool true) (.slice xa (unionL lfa lfb).length xc) (.slice ya (unionL lla llb).length yc) m4 m5
    obtain ⟨i0, i1, i2, -, -, -⟩ := cells3p g.1
    obtain ⟨j0, j1, j2, -, -, -⟩ := cells3p g.2
    refine ⟨_, rfl, hK.out _ _ ⟨e0, e1, e2, f0, f1, f2⟩ (fun hHeld => ?_)⟩
    clear hK K hHeld2
    try simp only [Act.put, List.setIfInBounds_toArray, List.set_cons_zero, List.set_cons_succ]
    refine wpAnyH_take (i := 16) (oi := { dst := some 31, op := .build 109 #[(0, .tmp 20), (1, .tmp 25), (2, .tmp 30)], type := 109, pos := "spots.go:79", after := #[{ on := 5, ground := .data }, { on := 10, ground := .data }, { on := 15, ground := .data }], guard := none }) (v := ?_) rfl (by kernel_rfl) (by kernel_rfl) (by kernel_rfl) (fun _ _ _ h => h) (Or.inl ⟨by rfl, ?_⟩) (by assumption) ?_
    rotate_left
    · (intro w hSw; (try dsimp only at hSw); go_simp; try with_reducible rfl)
    try simp only [Act.put, List.setIfInBounds_toArray, List.set_cons_zero, List.set_cons_succ]
    refine wpAnyH_ready (rs := [17]) (by kernel_rfl) (by simp) ?_
    refine AllReadyH.cons (o := { dst := none, op := .store 109 (.tmp 8) (.tmp 31), type := 0, pos := "spots.go:79", after := #[{ on := 16, ground := .data }, { on := 15, ground := .chain }, { on := 0, ground := .phase }, { on := 1, ground := .phase }, { on := 2, ground := .phase }, { on := 3, ground := .phase }, { on := 4, ground := .phase }, { on := 5, ground := .phase }, { on := 6, ground := .phase }, { on := 7, ground := .phase }, { on := 8, ground := .phase }, { on := 9, ground := .phase }, { on := 10, ground := .phase }, { on := 11, ground := .phase }, { on := 12, ground := .phase }, { on := 13, ground := .phase }, { on := 14, ground := .phase }, { on := 15, ground := .phase }, { on := 16, ground := .phase }], guard := none }) rfl (fun K hK => ?_) AllReadyH.nil
    go_simp
    refine hK.out _ _ ⟨i0, i1, i2, j0, j1, j2⟩ (fun hHeld2 => ?_)
    refine wpAnyH_done (by kernel_rfl) ?_ _
    clear hK K hHeld
    try simp only [Act.put, List.setIfInBounds_toArray, List.set_cons_zero, List.set_cons_succ]
    all_goals
      go_wp2
      have hfb : (put3 wB (w.heap.size + 2) (.bool true) (.slice xa (unionL lfa lfb).length xc) (.slice ya (unionL lla llb).length yc)).heap[w.heap.size + 2]? = some (.cells #[.bool true, .slice xa (unionL lfa lfb).length xc, .slice ya (unionL lla llb).length yc] 109) := put3_blk m6
      obtain ⟨r0, r1, r2, -, -, -⟩ := cells3p hfb
      unfold put3 at r0 r1 r2
      obtain ⟨t1, t2⟩ := hfin.out wB _ _ (own_below hOA hbB0) (own_base hOB hbA.size) hbB
      exact bodyPost_ret (v := .agg #[.bool true, .slice xa (unionL lfa lfb).length xc, .slice ya (unionL lla llb).length yc]) (by simp [results, Tryz.results53, go_sem, r0, r1, r2]) rfl ⟨_, _, rfl, t1, t2⟩
  | false =>
    cases nb with
    | true =>
      go_region_held3 (fun w' => w'.cell? ⟨w.heap.size, 0, none⟩ = some (.bool false) ∧ w'.cell? ⟨w.heap.size, 1, none⟩ = some (.slice fa1 lfa.length fa2) ∧ w'.cell? ⟨w.heap.size, 2, none⟩ = some (.slice la1 lla.length la2) ∧ w'.cell? ⟨w.heap.size + 1, 0, none⟩ = some (.bool true) ∧ w'.cell? ⟨w.heap.size + 1, 1, none⟩ = some (.slice fb1 lfb.length fb2) ∧ w'.cell? ⟨w.heap.size + 1, 2, none⟩ = some (.slice lb1 llb.length lb2))
      (go_keep)
      ((first
      | (go_at_call_of 51 (Value.slice fa1 lfa.length fa2); obtain ⟨-, pa, pb, -, -⟩ := hC.out _ (by first | exact hbB | exact hbd.out); refine (GU.out _ _ lfa lfb _ h3 h2 pa.first pb.first).mono ?_; rintro e wA ⟨vA, rfl, hOA, hbA0⟩; have hbA := bl_step (by first | exact hbB | exact hbd.out) hbA0; obtain ⟨xa, xc, rfl, hx1⟩ := id (Nums.of_row hOA); clear hx1; obtain ⟨⟨m1, m2, m3⟩, -, -, -, -⟩ := hC.out _ hbA; obtain ⟨c0, c1, c2, -, -, -⟩ := cells3p m1; obtain ⟨d0, d1, d2, -, -, -⟩ := cells3p m2; obtain ⟨x0, x1, x2, x3, x4, x5⟩ := cells3p m3; (first | (have g := hset.out wA (.bool true) (.slice xa (unionL lfa lfb).length xc) (.slice ya (unionL lla llb).length yc) m1 m2; obtain ⟨i0, i1, i2, -, -, -⟩ := cells3p g.1; obtain ⟨j0, j1, j2, -, -, -⟩ := cells3p g.2) | skip))
      | (go_at_call_of 51 (Value.slice la1 lla.length la2); obtain ⟨-, pa, pb, -, -⟩ := hC.out _ (by first | exact hbA | exact hbd.out); refine (GU.out _ _ lla llb _ h1 h4 pa.last pb.last).mono ?_; rintro e wB ⟨vB, rfl, hOB, hbB0⟩; have hbB := bl_step (by first | exact hbA | exact hbd.out) hbB0; obtain ⟨ya, yc, rfl, hx2⟩ := id (Nums.of_row hOB); clear hx2; obtain ⟨⟨m4, m5, m6⟩, -, -, -, -⟩ := hC.out _ hbB; obtain ⟨e0, e1, e2, -, -, -⟩ := cells3p m4; obtain ⟨f0, f1, f2, -, -, -⟩ := cells3p m5; obtain ⟨y0, y1, y2, y3, y4, y5⟩ := cells3p m6; (first | (have g := hset.out wB (.bool true) (.slice xa (unionL lfa lfb).length xc) (.slice ya (unionL lla llb).length yc) m4 m5; obtain ⟨i0, i1, i2, -, -, -⟩ := cells3p g.1; obtain ⟨j0, j1, j2, -, -, -⟩ := cells3p g.2) | skip))))
      all_goals
        go_wp2
        have hfb : (put3 wB (w.heap.size + 2) (.bool true) (.slice xa (unionL lfa lfb).length xc) (.slice ya (unionL lla llb).length yc)).heap[w.heap.size + 2]? = some (.cells #[.bool true, .slice xa (unionL lfa lfb).length xc, .slice ya (unionL lla llb).length yc] 109) := put3_blk m6
        obtain ⟨r0, r1, r2, -, -, -⟩ := cells3p hfb
        unfold put3 at r0 r1 r2
        obtain ⟨t1, t2⟩ := hfin.out wB _ _ (own_below hOA hbB0) (own_base hOB hbA.size) hbB
        exact bodyPost_ret (v := .agg #[.bool true, .slice xa (unionL lfa lfb).length xc, .slice ya (unionL lla llb).length yc]) (by simp [results, Tryz.results53, go_sem, r0, r1, r2]) rfl ⟨_, _, rfl, t1, t2⟩
    | false =>
      go_region_held3 (fun w' => w'.cell? ⟨w.heap.size, 0, none⟩ = some (.bool false) ∧ w'.cell? ⟨w.heap.size, 1, none⟩ = some (.slice fa1 lfa.length fa2) ∧ w'.cell? ⟨w.heap.size, 2, none⟩ = some (.slice la1 lla.length la2) ∧ w'.cell? ⟨w.heap.size + 1, 0, none⟩ = some (.bool false) ∧ w'.cell? ⟨w.heap.size + 1, 1, none⟩ = some (.slice fb1 lfb.length fb2) ∧ w'.cell? ⟨w.heap.size + 1, 2, none⟩ = some (.slice lb1 llb.length lb2))
      (go_keep)
      ((first
      | (go_at_call_of 51 (Value.slice fa1 lfa.length fa2); obtain ⟨-, pa, pb, -, -⟩ := hC.out _ (by first | exact hbB | exact hbd.out); refine (GU.out _ _ lfa lfb _ h3 h2 pa.first pb.first).mono ?_; rintro e wA ⟨vA, rfl, hOA, hbA0⟩; have hbA := bl_step (by first | exact hbB | exact hbd.out) hbA0; obtain ⟨xa, xc, rfl, hx1⟩ := id (Nums.of_row hOA); clear hx1; obtain ⟨⟨m1, m2, m3⟩, -, -, -, -⟩ := hC.out _ hbA; obtain ⟨c0, c1, c2, -, -, -⟩ := cells3p m1; obtain ⟨d0, d1, d2, -, -, -⟩ := cells3p m2; obtain ⟨x0, x1, x2, x3, x4, x5⟩ := cells3p m3; (first | (have g := hset.out wA (.bool false) (.slice xa (unionL lfa lfb).length xc) (.slice ya (unionL lla llb).length yc) m1 m2; obtain ⟨i0, i1, i2, -, -, -⟩ := cells3p g.1; obtain ⟨j0, j1, j2, -, -, -⟩ := cells3p g.2) | skip))
      | (go_at_call_of 51 (Value.slice la1 lla.length la2); obtain ⟨-, pa, pb, -, -⟩ := hC.out _ (by first | exact hbA | exact hbd.out); refine (GU.out _ _ lla llb _ h1 h4 pa.last pb.last).mono ?_; rintro e wB ⟨vB, rfl, hOB, hbB0⟩; have hbB := bl_step (by first | exact hbA | exact hbd.out) hbB0; obtain ⟨ya, yc, rfl, hx2⟩ := id (Nums.of_row hOB); clear hx2; obtain ⟨⟨m4, m5, m6⟩, -, -, -, -⟩ := hC.out _ hbB; obtain ⟨e0, e1, e2, -, -, -⟩ := cells3p m4; obtain ⟨f0, f1, f2, -, -, -⟩ := cells3p m5; obtain ⟨y0, y1, y2, y3, y4, y5⟩ := cells3p m6; (first | (have g := hset.out wB (.bool false) (.slice xa (unionL lfa lfb).length xc) (.slice ya (unionL lla llb).length yc) m4 m5; obtain ⟨i0, i1, i2, -, -, -⟩ := cells3p g.1; obtain ⟨j0, j1, j2, -, -, -⟩ := cells3p g.2) | skip))))
      all_goals
        go_wp2
        have hfb : (put3 wB (w.heap.size + 2) (.bool false) (.slice xa (unionL lfa lfb).length xc) (.slice ya (unionL lla llb).length yc)).heap[w.heap.size + 2]? = some (.cells #[.bool false, .slice xa (unionL lfa lfb).length xc, .slice ya (unionL lla llb).length yc] 109) := put3_blk m6
        obtain ⟨r0, r1, r2, -, -, -⟩ := cells3p hfb
        unfold put3 at r0 r1 r2
        obtain ⟨t1, t2⟩ := hfin.out wB _ _ (own_below hOA hbB0) (own_base hOB hbA.size) hbB
        exact bodyPost_ret (v := .agg #[.bool false, .slice xa (unionL lfa lfb).length xc, .slice ya (unionL lla llb).length yc]) (by simp [results, Tryz.results53, go_sem, r0, r1, r2]) rfl ⟨_, _, rfl, t1, t2⟩

end Go.Proofs.YtonlcnmlklaicaaGreatDoor
namespace Go.Proofs.YtonlcnmlklaicaaGreatDoor
open Go.RowKit

/-- what changes, and two more blocks -/
def Fy (F : Nat → Prop) (b : Nat) : Nat → Prop := fun k => F k ∨ (b ≤ k ∧ k < b + 2)
def twoBlk (b : Nat) : Nat → Prop := fun k => b ≤ k ∧ k < b + 2
theorem LkS.more2 {F : Nat → Prop} {B pb n : Nat} {gv : Value} {w u : World} {gs : List Value} {fl : List (List Int)} (h : LkS F B pb gv n w gs fl) (hb : Below w.heap.size w u) (hs : w.heap.size + 2 ≤ u.heap.size) : LkS (Fy F w.heap.size) B pb gv n u gs fl where
  base := (h.keep hb).base
  lt := fun k hk => by
    rcases hk with hk | hk
    · exact (h.keep hb).lt k hk
    · omega
  row := fun k e => ⟨Or.inl (h.row k e).1, (h.row k e).2⟩
  inF := Or.inl h.inF
  p := (h.keep hb).p
  own := (h.keep hb).own
  nums := (h.nums.more (G := Fy F w.heap.size) fun k hk => by
    rcases hk with hk | hk
    · exact Or.inl hk
    · exact Or.inr hk.1).kept (Kept.of_below hb)
  len := h.len
  n60 := h.n60
  good := h.good
theorem LkS.less2 {F : Nat → Prop} {b B pb n : Nat} {gv : Value} {w u : World} {gs : List Value} {fl : List (List Int)} (h : LkS (Fy F b) B pb gv n w gs fl) (hF : ∀ k, F k → k < b) (hrow : ∀ k, gv.ownBlock = some k → F k) (hp : F pb) (hk : Kept (twoBlk b) w u) : LkS F B pb gv n u gs fl where
  base := Nat.le_trans h.base hk.size
  lt := fun k hk' => Nat.lt_of_lt_of_le (h.lt k (Or.inl hk')) hk.size
  row := fun k e => ⟨hrow k e, (h.row k e).2⟩
  inF := hp
  p := hk.cell h.p (h.lt _ h.inF) (fun e => by have := hF _ hp; have e' : b ≤ pb := e.1; omega)
  own := own_kept h.own hk fun k e e' => by have := hF _ (hrow k e); have e2 : b ≤ k := e'.1; omega
  nums := ⟨h.nums.1, fun j => ⟨(h.nums.2 j).1.kept hk ((h.nums.2 j).2.sub fun k e => Or.inr e), (h.nums.2 j).2.sub fun k e => Or.inl e⟩⟩
  len := h.len
  n60 := h.n60
  good := h.good

theorem two_blk {w1 : World} {b : Nat} {a0 a1 a2 z0 z1 z2 r : Value} {T : TypeId} (q1 : w1.heap[b]? = some (.cells #[a0, a1, a2] T (0, 0))) (q2 : w1.heap[b + 1]? = some (.cells #[z0, z1, z2] T (0, 0))) :
    (w1.setCell ⟨b, 0, none⟩ r).heap[b]? = some (.cells #[r, a1, a2] T (0, 0)) ∧ (w1.setCell ⟨b, 0, none⟩ r).heap[b + 1]? = some (.cells #[z0, z1, z2] T (0, 0)) ∧ (put3 (w1.setCell ⟨b, 0, none⟩ r) (b + 1) r a1 a2).heap[b + 1]? = some (.cells #[r, a1, a2] T (0, 0)) :=
  ⟨heap_setCell q1, hs_set q2 (by omega), put3_blk (hs_set q2 (by omega))⟩

set_option maxRecDepth 20000 in
set_option maxHeartbeats 4000000 in
theorem repeatedC (F : Nat → Prop) (B pb n : Nat) (gv fa la : Value) (op : Int) (na : Bool) (lfa lla : List Int) (gs : List Value) (fl : List (List Int)) (w : World) (hop : op = 5 ∨ op = 6)
    (hS : LkS F B pb gv n w gs fl) (hA : PtV F w fa la lfa lla) (hlla : InN lla n) (h1 : lla.length ≤ 60) (hlfa : InN lfa n) (h2 : lfa.length ≤ 60) :
    Calls Tryz.prog 54 #[.int .i64 op, .agg #[.bool na, fa, la], .func (.func 50) #[] #[.pointer (some ⟨pb, 0, none⟩)]] w fun e w' => ∃ fv lv, e = .returned (.agg #[.bool (na || decide (op = 5)), fv, lv]) ∧
      PtV F w' fv lv lfa lla ∧ (∃ gs', LkS F B pb gv n w' gs' (linkL fl lfa lla)) ∧ Kept (fun k => gv.ownBlock = some k) w w' := by
  have hlt := hid hS.lt
  have hrow := hid hS.row
  have hin := hid hS.inF
  have hnb : Hid (∀ k, w.heap.size ≤ k → ¬ gv.ownBlock = some k) := hid (fun k hk e => by have := hlt.out k (hrow.out k e).1; omega)
  obtain ⟨fa1, fa2, rfl⟩ : ∃ a c, fa = .slice a lfa.length c := by obtain ⟨a, c, e, _⟩ := hA.first; exact ⟨a, c, e⟩
  obtain ⟨la1, la2, rfl⟩ : ∃ a c, la = .slice a lla.length c := by obtain ⟨a, c, e, _⟩ := hA.last; exact ⟨a, c, e⟩
  obtain ⟨W0, hW0⟩ : ∃ W0, W0 = (w.alloc (.cells #[.bool na, .slice fa1 lfa.length fa2, .slice la1 lla.length la2] 109)).alloc (.cells #[.bool false, .slice none 0 0, .slice none 0 0] 109) := ⟨_, rfl⟩
  have hb0 : Below w.heap.size w W0 := by rw [hW0]; exact bl_step (al' w _) (al' _ _)
  have hs0 : W0.heap.size = w.heap.size + 2 := by rw [hW0]; simp
  have hblk : W0.heap[w.heap.size]? = some (.cells #[.bool na, .slice fa1 lfa.length fa2, .slice la1 lla.length la2] 109) ∧ W0.heap[w.heap.size + 1]? = some (.cells #[.bool false, .slice none 0 0, .slice none 0 0] 109) := by rw [hW0]; exact two_blocks w _ _
  have hFx : ∀ k, Fy F w.heap.size k → F k ∨ w.heap.size ≤ k := fun k hk => by
    rcases hk with hk | hk
    · exact Or.inl hk
    · exact Or.inr hk.1
  have hA0 := (hA.more hFx).keep hb0
  have GL := hid (linkC (Fy F w.heap.size) B pb n _ _ gv lla lfa gs fl W0 (hS.more2 hb0 (by omega)) hA0.last hA0.offL hA0.first hA0.offF hlla h1 hlfa h2)
  have hK : Hid (∀ w1, Kept (fun k => gv.ownBlock = some k) W0 w1 → w1.heap[w.heap.size]? = some (.cells #[.bool na, .slice fa1 lfa.length fa2, .slice la1 lla.length la2] 109) ∧ w1.heap[w.heap.size + 1]? = some (.cells #[.bool false, .slice none 0 0, .slice none 0 0] 109) ∧ Kept (fun k => gv.ownBlock = some k) w w1 ∧ PtV (Fy F w.heap.size) w1 (.slice fa1 lfa.length fa2) (.slice la1 lla.length la2) lfa lla) := hid (fun w1 K1 => by
    have KF : Kept (Fy F w.heap.size) W0 w1 := K1.mono fun k _ e => Or.inl (hrow.out k e).1
    exact ⟨K1.blk hblk.1 (hnb.out _ (Nat.le_refl _)), K1.blk hblk.2 (hnb.out _ (by omega)), (Kept.of_below hb0).step K1 (fun k hk e => e), hA0.kept KF⟩)
  have hend : Hid (∀ w1 u, Kept (twoBlk w.heap.size) w1 u → Kept (fun k => gv.ownBlock = some k) w w1 → PtV (Fy F w.heap.size) w1 (.slice fa1 lfa.length fa2) (.slice la1 lla.length la2) lfa lla → (∃ gs', LkS (Fy F w.heap.size) B pb gv n w1 gs' (linkL fl lfa lla)) → PtV F u (.slice fa1 lfa.length fa2) (.slice la1 lla.length la2) lfa lla ∧ (∃ gs', LkS F B pb gv n u gs' (linkL fl lfa lla)) ∧ Kept (fun k => gv.ownBlock = some k) w u) := hid (fun w1 u h1 h2 hp ⟨gs', h3⟩ => ⟨⟨hp.first.kept h1 (hp.offF.sub fun k e => Or.inr e), hp.offF.sub fun k e => Or.inl e, hp.last.kept h1 (hp.offL.sub fun k e => Or.inr e), hp.offL.sub fun k e => Or.inl e⟩, ⟨gs', h3.less2 hlt.out (fun k e => (hrow.out k e).1) hin.out h1⟩, h2.step h1 (fun k hk e => by have e' : w.heap.size ≤ k := e.1; omega)⟩)
  have hkp : Hid (∀ (w1 : World) r y0 y1 y2, Kept (twoBlk w.heap.size) w1 (put3 (w1.setCell ⟨w.heap.size, 0, none⟩ r) (w.heap.size + 1) y0 y1 y2)) := hid (fun w1 r y0 y1 y2 => put3_kept ((Kept.refl _ _).setCell fun _ => ⟨Nat.le_refl _, by simp⟩) ⟨by omega, by omega⟩)
  clear hS hA hblk hA0 hFx
  subst hW0
  rcases hop with rfl | rfl
  · rw [show decide ((5 : Int) = 5) = true from rfl]
    cases na with
    | false =>
      show Calls Tryz.prog _ _ _ fun e w' => ∃ fv lv, e = .returned (.agg #[.bool true, fv, lv]) ∧ _
      go_enter Tryz.func54, Tryz.ntmps54
      go_wp2_with (go_at_call 50; refine GL.out.mono ?_; rintro e w1 ⟨rfl, hS1, K1⟩; obtain ⟨q1, q2, K2, pA⟩ := hK.out w1 K1; obtain ⟨a0, a1, a2, a3, a4, a5⟩ := cells3p q1; obtain ⟨z0, z1, z2, z3, z4, z5⟩ := cells3p q2; obtain ⟨Q1, Q2, Q3⟩ := two_blk (r := .bool true) q1 q2; obtain ⟨b0, b1, b2, b3, b4, b5⟩ := cells3p Q1; obtain ⟨y0, y1, y2, y3, y4, y5⟩ := cells3p Q2; obtain ⟨r0, r1, r2, -, -, -⟩ := cells3p Q3)
      unfold put3 at r0 r1 r2
      exact bodyPost_ret (v := .agg #[.bool true, .slice fa1 lfa.length fa2, .slice la1 lla.length la2]) (by simp [results, Tryz.results54, go_sem, r0, r1, r2]) rfl ⟨_, _, rfl, hend.out w1 _ (hkp.out w1 (.bool true) (.bool true) (.slice fa1 lfa.length fa2) (.slice la1 lla.length la2)) K2 pA hS1⟩
    | true =>
      show Calls Tryz.prog _ _ _ fun e w' => ∃ fv lv, e = .returned (.agg #[.bool true, fv, lv]) ∧ _
      go_enter Tryz.func54, Tryz.ntmps54
      go_wp2_with (go_at_call 50; refine GL.out.mono ?_; rintro e w1 ⟨rfl, hS1, K1⟩; obtain ⟨q1, q2, K2, pA⟩ := hK.out w1 K1; obtain ⟨a0, a1, a2, a3, a4, a5⟩ := cells3p q1; obtain ⟨z0, z1, z2, z3, z4, z5⟩ := cells3p q2; obtain ⟨Q1, Q2, Q3⟩ := two_blk (r := .bool true) q1 q2; obtain ⟨b0, b1, b2, b3, b4, b5⟩ := cells3p Q1; obtain ⟨y0, y1, y2, y3, y4, y5⟩ := cells3p Q2; obtain ⟨r0, r1, r2, -, -, -⟩ := cells3p Q3)
      unfold put3 at r0 r1 r2
      exact bodyPost_ret (v := .agg #[.bool true, .slice fa1 lfa.length fa2, .slice la1 lla.length la2]) (by simp [results, Tryz.results54, go_sem, r0, r1, r2]) rfl ⟨_, _, rfl, hend.out w1 _ (hkp.out w1 (.bool true) (.bool true) (.slice fa1 lfa.length fa2) (.slice la1 lla.length la2)) K2 pA hS1⟩
  · rw [show decide ((6 : Int) = 5) = false from rfl]
    cases na with
    | false =>
      show Calls Tryz.prog _ _ _ fun e w' => ∃ fv lv, e = .returned (.agg #[.bool false, fv, lv]) ∧ _
      go_enter Tryz.func54, Tryz.ntmps54
      go_wp2_with (go_at_call 50; refine GL.out.mono ?_; rintro e w1 ⟨rfl, hS1, K1⟩; obtain ⟨q1, q2, K2, pA⟩ := hK.out w1 K1; obtain ⟨a0, a1, a2, a3, a4, a5⟩ := cells3p q1; obtain ⟨z0, z1, z2, z3, z4, z5⟩ := cells3p q2; obtain ⟨Q1, Q2, Q3⟩ := two_blk (r := .bool false) q1 q2; obtain ⟨b0, b1, b2, b3, b4, b5⟩ := cells3p Q1; obtain ⟨y0, y1, y2, y3, y4, y5⟩ := cells3p Q2; obtain ⟨r0, r1, r2, -, -, -⟩ := cells3p Q3)
      unfold put3 at r0 r1 r2
      exact bodyPost_ret (v := .agg #[.bool false, .slice fa1 lfa.length fa2, .slice la1 lla.length la2]) (by simp [results, Tryz.results54, go_sem, r0, r1, r2]) rfl ⟨_, _, rfl, hend.out w1 _ (hkp.out w1 (.bool false) (.bool false) (.slice fa1 lfa.length fa2) (.slice la1 lla.length la2)) K2 pA hS1⟩
    | true =>
      show Calls Tryz.prog _ _ _ fun e w' => ∃ fv lv, e = .returned (.agg #[.bool true, fv, lv]) ∧ _
      go_enter Tryz.func54, Tryz.ntmps54
      go_wp2_with (go_at_call 50; refine GL.out.mono ?_; rintro e w1 ⟨rfl, hS1, K1⟩; obtain ⟨q1, q2, K2, pA⟩ := hK.out w1 K1; obtain ⟨a0, a1, a2, a3, a4, a5⟩ := cells3p q1; obtain ⟨z0, z1, z2, z3, z4, z5⟩ := cells3p q2; obtain ⟨Q1, Q2, Q3⟩ := two_blk (r := .bool true) q1 q2; obtain ⟨b0, b1, b2, b3, b4, b5⟩ := cells3p Q1; obtain ⟨y0, y1, y2, y3, y4, y5⟩ := cells3p Q2; obtain ⟨r0, r1, r2, -, -, -⟩ := cells3p Q3)
      unfold put3 at r0 r1 r2
      exact bodyPost_ret (v := .agg #[.bool true, .slice fa1 lfa.length fa2, .slice la1 lla.length la2]) (by simp [results, Tryz.results54, go_sem, r0, r1, r2]) rfl ⟨_, _, rfl, hend.out w1 _ (hkp.out w1 (.bool true) (.bool true) (.slice fa1 lfa.length fa2) (.slice la1 lla.length la2)) K2 pA hS1⟩

set_option maxRecDepth 20000 in
set_option maxHeartbeats 4000000 in
theorem repeatedOpt (F : Nat → Prop) (fa la lk : Value) (na : Bool) (lfa lla : List Int) (w : World) (hA : PtV F w fa la lfa lla) :
    Calls Tryz.prog 54 #[.int .i64 7, .agg #[.bool na, fa, la], lk] w fun e w' => ∃ fv lv, e = .returned (.agg #[.bool true, fv, lv]) ∧ PtV F w' fv lv lfa lla ∧ Below w.heap.size w w' := by
  obtain ⟨fa1, fa2, rfl⟩ : ∃ a c, fa = .slice a lfa.length c := by obtain ⟨a, c, e, _⟩ := hA.first; exact ⟨a, c, e⟩
  obtain ⟨la1, la2, rfl⟩ : ∃ a c, la = .slice a lla.length c := by obtain ⟨a, c, e, _⟩ := hA.last; exact ⟨a, c, e⟩
  have hA := hid hA
  cases na with
  | false =>
    go_enter Tryz.func54, Tryz.ntmps54
    go_wp2
    have hb : Below w.heap.size w ((w.alloc (.cells #[.bool true, .slice fa1 lfa.length fa2, .slice la1 lla.length la2] 109)).alloc (.cells #[.bool true, .slice fa1 lfa.length fa2, .slice la1 lla.length la2] 109)) := bl_step (al' w _) (al' _ _)
    exact bodyPost_ret (v := .agg #[.bool true, .slice fa1 lfa.length fa2, .slice la1 lla.length la2]) (by simp [results, Tryz.results54, go_sem]) rfl ⟨_, _, rfl, hA.out.keep hb, hb⟩
  | true =>
    go_enter Tryz.func54, Tryz.ntmps54
    go_wp2
    have hb : Below w.heap.size w ((w.alloc (.cells #[.bool true, .slice fa1 lfa.length fa2, .slice la1 lla.length la2] 109)).alloc (.cells #[.bool true, .slice fa1 lfa.length fa2, .slice la1 lla.length la2] 109)) := bl_step (al' w _) (al' _ _)
    exact bodyPost_ret (v := .agg #[.bool true, .slice fa1 lfa.length fa2, .slice la1 lla.length la2]) (by simp [results, Tryz.results54, go_sem]) rfl ⟨_, _, rfl, hA.out.keep hb, hb⟩

end Go.Proofs.YtonlcnmlklaicaaGreatDoor
