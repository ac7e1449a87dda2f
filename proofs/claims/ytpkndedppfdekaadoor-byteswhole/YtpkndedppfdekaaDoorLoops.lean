/- The contracts of topiaryref05.Not, And, Or, Span, Count, Least. -/
import Derived.Test.YtpkndedppfdekaaDoorPut
namespace Go.Proofs.YtpkndedppfdekaaDoor
open Go.RowKit

/-- a block holds a set -/
def Blk (w : World) (b : Nat) (S : W4) : Prop := w.heap[b]? = some (.cells #[.int .u64 (S.a : Int), .int .u64 (S.b : Int), .int .u64 (S.c : Int), .int .u64 (S.d : Int)] 25 (0, 0))
theorem Blk.lt {w : World} {b : Nat} {S : W4} (h : Blk w b S) : b < w.heap.size := by
  rcases Nat.lt_or_ge b w.heap.size with h' | h'
  · exact h'
  · unfold Blk at h; rw [Array.getElem?_eq_none h'] at h; cases h
theorem Blk.keep {w w' : World} {b : Nat} {S : W4} (h : Blk w b S) (hb : Below w.heap.size w w') : Blk w' b S := (hb.block b h.lt).trans h
theorem Blk.cells {w : World} {b sa sb sc sd : Nat} (h : Blk w b ⟨sa, sb, sc, sd⟩) :
    w.cell? ⟨b, 0, none⟩ = some (.int .u64 sa) ∧ w.cell? ⟨b, 1, none⟩ = some (.int .u64 sb) ∧ w.cell? ⟨b, 2, none⟩ = some (.int .u64 sc) ∧ w.cell? ⟨b, 3, none⟩ = some (.int .u64 sd) ∧
    w.frozen? ⟨b, 0, none⟩ = false ∧ w.frozen? ⟨b, 1, none⟩ = false ∧ w.frozen? ⟨b, 2, none⟩ = false ∧ w.frozen? ⟨b, 3, none⟩ = false := cells4 h
theorem heap_setCell {w : World} {b o : Nat} {cs : Array Value} {T : TypeId} {fr : Nat × Nat} {v : Value} (h : w.heap[b]? = some (.cells cs T fr)) : (w.setCell ⟨b, o, none⟩ v).heap[b]? = some (.cells (cs.setIfInBounds o v) T fr) := by
  simp [World.setCell, Array.getElem?_modify, h]
/-- a set stored into a block -/
def put4 (w : World) (b : Nat) (S : W4) : World := (((w.setCell ⟨b, 0, none⟩ (.int .u64 (S.a : Int))).setCell ⟨b, 1, none⟩ (.int .u64 (S.b : Int))).setCell ⟨b, 2, none⟩ (.int .u64 (S.c : Int))).setCell ⟨b, 3, none⟩ (.int .u64 (S.d : Int))
theorem Blk.put {w : World} {b : Nat} {S S' : W4} (h : Blk w b S) : Blk (put4 w b S') b S' := heap_setCell (heap_setCell (heap_setCell (heap_setCell h)))
theorem Blk.other {w : World} {b k : Nat} {S S' : W4} (h : Blk w k S) (hne : k ≠ b) : Blk (put4 w b S') k S := by
  unfold put4 Blk
  rw [Below.heap_setCell _ _ _ _ hne, Below.heap_setCell _ _ _ _ hne, Below.heap_setCell _ _ _ _ hne, Below.heap_setCell _ _ _ _ hne]
  exact h
theorem bl_put {B : Nat} {u w : World} (h : Below B u w) {b : Nat} (S : W4) (hb : B ≤ b) : Below B u (put4 w b S) := bl_set (bl_set (bl_set (bl_set h _ _ _ hb) _ _ _ hb) _ _ _ hb) _ _ _ hb
theorem size_al (u : World) (o : Obj) : (u.alloc o).heap.size = u.heap.size + 1 := by simp
theorem three_blocks (w : World) (o o' o'' : Obj) : (((w.alloc o).alloc o').alloc o'').heap[w.heap.size]? = some o ∧ (((w.alloc o).alloc o').alloc o'').heap[w.heap.size + 1]? = some o' ∧ (((w.alloc o).alloc o').alloc o'').heap[w.heap.size + 2]? = some o'' := by
  refine ⟨(Below.heap_alloc _ _ _ (by rw [size_al, size_al]; omega)).trans (two_blocks w o o').1, (Below.heap_alloc _ _ _ (by rw [size_al, size_al]; omega)).trans (two_blocks w o o').2, ?_⟩
  have := heap_new ((w.alloc o).alloc o') o''
  rwa [show ((w.alloc o).alloc o').heap.size = w.heap.size + 2 by simp] at this
theorem four_blocks (w : World) (o o' o'' o3 : Obj) : ((((w.alloc o).alloc o').alloc o'').alloc o3).heap[w.heap.size]? = some o ∧ ((((w.alloc o).alloc o').alloc o'').alloc o3).heap[w.heap.size + 1]? = some o' ∧ ((((w.alloc o).alloc o').alloc o'').alloc o3).heap[w.heap.size + 2]? = some o'' ∧ ((((w.alloc o).alloc o').alloc o'').alloc o3).heap[w.heap.size + 3]? = some o3 := by
  obtain ⟨h1, h2, h3⟩ := three_blocks w o o' o''
  refine ⟨(Below.heap_alloc _ _ _ (by rw [size_al, size_al, size_al]; omega)).trans h1, (Below.heap_alloc _ _ _ (by rw [size_al, size_al, size_al]; omega)).trans h2, (Below.heap_alloc _ _ _ (by rw [size_al, size_al, size_al]; omega)).trans h3, ?_⟩
  have := heap_new (((w.alloc o).alloc o').alloc o'') o3
  rwa [show (((w.alloc o).alloc o').alloc o'').heap.size = w.heap.size + 3 by simp] at this
/-- a set to which those for which something holds are put, up to a byte -/
def addN (S : W4) (p : Nat → Bool) : Nat → W4
  | 0 => S
  | k + 1 => if p k then putB (addN S p k) k else addN S p k
theorem addN_zero (S : W4) (p : Nat → Bool) : addN S p 0 = S := rfl
theorem addN_yes {S : W4} {p : Nat → Bool} {k : Nat} (h : p k = true) : addN S p (k + 1) = putB (addN S p k) k := by rw [addN, if_pos h]
theorem addN_no {S : W4} {p : Nat → Bool} {k : Nat} (h : p k = false) : addN S p (k + 1) = addN S p k := by rw [addN, if_neg (by rw [h]; exact Bool.false_ne_true)]
theorem addN_fit {S : W4} (h : Fit4 S) (p : Nat → Bool) : ∀ k, Fit4 (addN S p k)
  | 0 => h
  | k + 1 => by
    unfold addN
    cases p k with
    | true => simpa using putB_fit (addN_fit h p k) k
    | false => simpa using addN_fit h p k
theorem addN_has (S : W4) (p : Nat → Bool) : ∀ k, k ≤ 256 → ∀ x, x < 256 → hasB (addN S p k) x = (hasB S x || (decide (x < k) && p x))
  | 0, _, x, _ => by rw [addN]; simp
  | k + 1, hk, x, hx => by
    have ih := addN_has S p k (by omega) x hx
    unfold addN
    by_cases e : x = k
    · subst e
      cases hp : p x with
      | true => simp [putB_has _ x x hx hx]
      | false => simp [ih]
    · have h1 : decide (x < k + 1) = decide (x < k) := by rw [decide_eq_decide]; omega
      rw [h1, ← ih]
      cases p k with
      | true => simp [putB_has _ k x (by omega) hx, e]
      | false => simp
theorem addN_all {S : W4} (h : Fit4 S) (p : Nat → Bool) : addN S p 256 = mkB fun x => hasB S x || p x :=
  mkB_eq (addN_fit h p 256) fun x hx => by rw [addN_has S p 256 (Nat.le_refl _) x hx]; simp [hx]
theorem addN_none (p : Nat → Bool) : addN noneB p 256 = mkB p := by
  rw [addN_all noneB_fit]
  exact mkB_congr fun x _ => by rw [noneB_has]; rfl

attribute [irreducible] addN

set_option maxHeartbeats 400000 in
theorem refNot (sa sb sc sd : Nat) (w : World) (hS : Fit4 ⟨sa, sb, sc, sd⟩) :
    Calls Tryd.prog 17 #[valB ⟨sa, sb, sc, sd⟩] w fun e w' => e = .returned (valB (notB ⟨sa, sb, sc, sd⟩)) ∧ Below w.heap.size w w' := by
  obtain ⟨p, hp⟩ : ∃ p : Nat → Bool, Hid (p = fun x => !hasB ⟨sa, sb, sc, sd⟩ x) := ⟨_, hid rfl⟩
  obtain ⟨R, hR⟩ : ∃ R, Hid (notB ⟨sa, sb, sc, sd⟩ = R) := ⟨_, hid rfl⟩
  have hlast : Hid (∀ k, k = 256 → addN noneB p k = R) := hid (fun k hk => by rw [hk, addN_none, ← hR.out, hp.out]; rfl)
  rw [show notB ⟨sa, sb, sc, sd⟩ = R from hR.out]
  have GP : Hid (∀ k Q u, k < 256 → Fit4 Q → Calls Tryd.prog 27 #[valB Q, .int .i64 ((k : Nat) : Int)] u fun e w' => e = .returned (valB (putB Q k)) ∧ Below u.heap.size u w') := fun k Q u hk hQ => putC Q k u hQ hk
  have GH : Hid (∀ k u, k < 256 → Calls Tryd.prog 23 #[valB ⟨sa, sb, sc, sd⟩, .int .i64 ((k : Nat) : Int)] u fun e w' => e = .returned (.bool (!p k)) ∧ Below u.heap.size u w') := fun k u hk => by
    have := hasC ⟨sa, sb, sc, sd⟩ k u hS hk
    rwa [show hasB ⟨sa, sb, sc, sd⟩ k = !p k by rw [hp.out]; simp] at this
  have hfit := hid (addN_fit noneB_fit p)
  obtain ⟨ra, rb, rc, rd⟩ := R
  clear hR hp
  go_enter Tryd.func17, Tryd.ntmps17
  go_wp2
  go_loopw [4] (fun i wr => ∃ k : Nat, k ≤ 256 ∧ i = .int .i64 k ∧ Hid (Blk wr w.heap.size ⟨sa, sb, sc, sd⟩) ∧ Hid (Blk wr (w.heap.size + 1) noneB) ∧ Hid (Blk wr (w.heap.size + 2) (addN noneB p k)) ∧ Below w.heap.size w wr) (fun i _ => 256 - (intOf i).toNat)
  case atStart => exact ⟨0, Nat.zero_le _, rfl, hid (three_blocks w _ _ _).1, hid (three_blocks w _ _ _).2.1, by rw [addN_zero]; exact hid (three_blocks w _ _ _).2.2, bl_step (bl_step (al' w _) (al' _ _)) (al' _ _)⟩
  case round =>
    obtain ⟨k, hk, rfl, bS0, bR0, bO0, hbl⟩ := hrel
    by_cases hlt : k < 256
    · have hltz : (k : Int) < 256 := by omega
      have hQ := hid (hfit.out k)
      have hy := hid (@addN_yes noneB p k)
      have hno := hid (@addN_no noneB p k)
      have GH0 := hid (GH.out k wr hlt)
      obtain ⟨s0, s1, s2, s3, s4, s5, s6, s7⟩ := bS0.out.cells
      generalize addN noneB p k = Q at hQ hy hno bO0
      obtain ⟨a, b, c, d⟩ := Q
      have GP0 := hid (fun u => GP.out k ⟨a, b, c, d⟩ u hlt hQ.out)
      cases hr : p k with
      | false =>
        rw [hr] at GH0
        have hS' := hid (hno.out hr)
        clear hy hno hr
        go_wp2_with (go_at_call 23; refine (GH0.out).mono ?_; rintro e w1 ⟨rfl, hb1⟩)
        go_roundw
        case rel => exact ⟨k + 1, by omega, by go_num, hid (bS0.out.keep hb1), hid (bR0.out.keep hb1), by rw [hS'.out]; exact hid (bO0.out.keep hb1), bl_step hbl hb1⟩
        case measure => simp [intOf]; omega
      | true =>
        rw [hr] at GH0
        have hS' := hid (hy.out hr)
        clear hy hno hr
        generalize putB ⟨a, b, c, d⟩ k = Q' at hS' GP0
        obtain ⟨a', b', c', d'⟩ := Q'
        go_wp2_with (first
          | (go_at_call 23; refine (GH0.out).mono ?_; rintro e w1 ⟨rfl, hb1⟩; have bS1 := hid (bS0.out.keep hb1); have bR1 := hid (bR0.out.keep hb1); have bO1 := hid (bO0.out.keep hb1); obtain ⟨o0, o1, o2, o3, o4, o5, o6, o7⟩ := bO1.out.cells)
          | (go_at_call 27; refine (GP0.out _).mono ?_; rintro e w2 ⟨rfl, hb2⟩; have bS2 := hid (bS1.out.keep hb2); have bR2 := hid (bR1.out.keep hb2); have bO2 := hid (bO1.out.keep hb2); obtain ⟨p0, p1, p2, p3, p4, p5, p6, p7⟩ := bO2.out.cells))
        go_roundw
        case rel => exact ⟨k + 1, by omega, by go_num, hid (bS2.out.other (b := w.heap.size + 2) (S' := ⟨a', b', c', d'⟩) (by omega)), hid (bR2.out.other (b := w.heap.size + 2) (S' := ⟨a', b', c', d'⟩) (by omega)), by rw [hS'.out]; exact hid (bO2.out.put (S' := ⟨a', b', c', d'⟩)), bl_put (bl_step (bl_step hbl hb1) hb2) ⟨a', b', c', d'⟩ (by omega)⟩
        case measure => simp [intOf]; omega
    · have hltz : ¬ (k : Int) < 256 := by omega
      rw [hlast.out k (by omega)] at bO0
      obtain ⟨o0, o1, o2, o3, o4, o5, o6, o7⟩ := bO0.out.cells
      obtain ⟨r0, r1, r2, r3, r4, r5, r6, r7⟩ := Blk.cells (sa := 0) (sb := 0) (sc := 0) (sd := 0) bR0.out
      clear hfit
      go_wp2
      refine bodyPost_ret (v := .agg #[.int .u64 ra, .int .u64 rb, .int .u64 rc, .int .u64 rd]) (by simp [results, Tryd.results17, go_sem, r0, r1, r2, r3]) rfl ⟨rfl, bl_put hbl ⟨ra, rb, rc, rd⟩ (by omega)⟩

set_option maxHeartbeats 1000000 in
theorem refAnd (sa sb sc sd ta tb tc td : Nat) (w : World) (hS : Fit4 ⟨sa, sb, sc, sd⟩) (hT : Fit4 ⟨ta, tb, tc, td⟩) :
    Calls Tryd.prog 15 #[valB ⟨sa, sb, sc, sd⟩, valB ⟨ta, tb, tc, td⟩] w fun e w' => e = .returned (valB (andB ⟨sa, sb, sc, sd⟩ ⟨ta, tb, tc, td⟩)) ∧ Below w.heap.size w w' := by
  obtain ⟨p, hp⟩ : ∃ p : Nat → Bool, Hid (p = fun x => hasB ⟨sa, sb, sc, sd⟩ x) := ⟨_, hid rfl⟩
  obtain ⟨q, hq⟩ : ∃ q : Nat → Bool, Hid (q = fun x => hasB ⟨ta, tb, tc, td⟩ x) := ⟨_, hid rfl⟩
  obtain ⟨R, hR⟩ : ∃ R, Hid (andB ⟨sa, sb, sc, sd⟩ ⟨ta, tb, tc, td⟩ = R) := ⟨_, hid rfl⟩
  have hlast : Hid (∀ k, k = 256 → addN noneB (fun x => p x && q x) k = R) := hid (fun k hk => by rw [hk, addN_none, ← hR.out, hp.out, hq.out]; rfl)
  rw [show andB ⟨sa, sb, sc, sd⟩ ⟨ta, tb, tc, td⟩ = R from hR.out]
  have GP : Hid (∀ k Q u, k < 256 → Fit4 Q → Calls Tryd.prog 27 #[valB Q, .int .i64 ((k : Nat) : Int)] u fun e w' => e = .returned (valB (putB Q k)) ∧ Below u.heap.size u w') := fun k Q u hk hQ => putC Q k u hQ hk
  have GH : Hid (∀ k u, k < 256 → Calls Tryd.prog 23 #[valB ⟨sa, sb, sc, sd⟩, .int .i64 ((k : Nat) : Int)] u fun e w' => e = .returned (.bool (p k)) ∧ Below u.heap.size u w') := fun k u hk => by
    have := hasC ⟨sa, sb, sc, sd⟩ k u hS hk
    rwa [show hasB ⟨sa, sb, sc, sd⟩ k = p k by rw [hp.out]] at this
  have GI : Hid (∀ k u, k < 256 → Calls Tryd.prog 23 #[valB ⟨ta, tb, tc, td⟩, .int .i64 ((k : Nat) : Int)] u fun e w' => e = .returned (.bool (q k)) ∧ Below u.heap.size u w') := fun k u hk => by
    have := hasC ⟨ta, tb, tc, td⟩ k u hT hk
    rwa [show hasB ⟨ta, tb, tc, td⟩ k = q k by rw [hq.out]] at this
  have hfit := hid (addN_fit noneB_fit (fun x => p x && q x))
  obtain ⟨ra, rb, rc, rd⟩ := R
  clear hR hp hq
  go_enter Tryd.func15, Tryd.ntmps15
  go_wp2
  go_loopw [6] (fun i wr => ∃ k : Nat, k ≤ 256 ∧ i = .int .i64 k ∧ Hid (Blk wr w.heap.size ⟨sa, sb, sc, sd⟩) ∧ Hid (Blk wr (w.heap.size + 1) ⟨ta, tb, tc, td⟩) ∧ Hid (Blk wr (w.heap.size + 2) noneB) ∧ Hid (Blk wr (w.heap.size + 3) (addN noneB (fun x => p x && q x) k)) ∧ Below w.heap.size w wr) (fun i _ => 256 - (intOf i).toNat)
  case atStart => exact ⟨0, Nat.zero_le _, rfl, hid (four_blocks w _ _ _ _).1, hid (four_blocks w _ _ _ _).2.1, hid (four_blocks w _ _ _ _).2.2.1, by rw [addN_zero]; exact hid (four_blocks w _ _ _ _).2.2.2, bl_step (bl_step (bl_step (al' w _) (al' _ _)) (al' _ _)) (al' _ _)⟩
  case round =>
    obtain ⟨k, hk, rfl, bS0, bT0, bR0, bO0, hbl⟩ := hrel
    by_cases hlt : k < 256
    · have hltz : (k : Int) < 256 := by omega
      have hQ := hid (hfit.out k)
      have hy := hid (@addN_yes noneB (fun x => p x && q x) k)
      have hno := hid (@addN_no noneB (fun x => p x && q x) k)
      have GH0 := hid (GH.out k wr hlt)
      have GI0 := hid (fun u => GI.out k u hlt)
      obtain ⟨s0, s1, s2, s3, s4, s5, s6, s7⟩ := bS0.out.cells
      generalize addN noneB (fun x => p x && q x) k = Q at hQ hy hno bO0
      obtain ⟨a, b, c, d⟩ := Q
      have GP0 := hid (fun u => GP.out k ⟨a, b, c, d⟩ u hlt hQ.out)
      cases hr : p k with
      | false =>
        rw [hr] at GH0
        have hS' := hid (hno.out (by show (p k && q k) = false; rw [hr]; rfl))
        clear hy hno hr
        go_wp2_with (go_at_call 23; refine (GH0.out).mono ?_; rintro e w1 ⟨rfl, hb1⟩)
        go_roundw
        case rel => exact ⟨k + 1, by omega, by go_num, hid (bS0.out.keep hb1), hid (bT0.out.keep hb1), hid (bR0.out.keep hb1), by rw [hS'.out]; exact hid (bO0.out.keep hb1), bl_step hbl hb1⟩
        case measure => simp [intOf]; omega
      | true =>
        rw [hr] at GH0
        cases hr2 : q k with
        | false =>
          rw [hr2] at GI0
          have hS' := hid (hno.out (by show (p k && q k) = false; rw [hr, hr2]; rfl))
          clear hy hno hr hr2
          go_wp2_with (first
            | (go_at_call 23; refine (GI0.out w1).mono ?_; rintro e w2 ⟨rfl, hb2⟩)
            | (go_at_call 23; refine (GH0.out).mono ?_; rintro e w1 ⟨rfl, hb1⟩; have bT1 := hid (bT0.out.keep hb1); obtain ⟨t0, t1, t2, t3, t4, t5, t6, t7⟩ := bT1.out.cells))
          go_roundw
          case rel => exact ⟨k + 1, by omega, by go_num, hid ((bS0.out.keep hb1).keep hb2), hid (bT1.out.keep hb2), hid ((bR0.out.keep hb1).keep hb2), by rw [hS'.out]; exact hid ((bO0.out.keep hb1).keep hb2), bl_step (bl_step hbl hb1) hb2⟩
          case measure => simp [intOf]; omega
        | true =>
          rw [hr2] at GI0
          have hS' := hid (hy.out (by show (p k && q k) = true; rw [hr, hr2]; rfl))
          clear hy hno hr hr2
          generalize putB ⟨a, b, c, d⟩ k = Q' at hS' GP0
          obtain ⟨a', b', c', d'⟩ := Q'
          go_wp2_with (first
            | (go_at_call 23; refine (GI0.out w1).mono ?_; rintro e w2 ⟨rfl, hb2⟩; have bS2 := hid (bS1.out.keep hb2); have bT2 := hid (bT1.out.keep hb2); have bR2 := hid (bR1.out.keep hb2); have bO2 := hid (bO1.out.keep hb2); obtain ⟨o0, o1, o2, o3, o4, o5, o6, o7⟩ := bO2.out.cells)
            | (go_at_call 23; refine (GH0.out).mono ?_; rintro e w1 ⟨rfl, hb1⟩; have bS1 := hid (bS0.out.keep hb1); have bT1 := hid (bT0.out.keep hb1); have bR1 := hid (bR0.out.keep hb1); have bO1 := hid (bO0.out.keep hb1); obtain ⟨t0, t1, t2, t3, t4, t5, t6, t7⟩ := bT1.out.cells)
            | (go_at_call 27; refine (GP0.out _).mono ?_; rintro e w3 ⟨rfl, hb3⟩; have bS3 := hid (bS2.out.keep hb3); have bT3 := hid (bT2.out.keep hb3); have bR3 := hid (bR2.out.keep hb3); have bO3 := hid (bO2.out.keep hb3); obtain ⟨u0, u1, u2, u3, u4, u5, u6, u7⟩ := bO3.out.cells))
          go_roundw
          case rel => exact ⟨k + 1, by omega, by go_num, hid (bS3.out.other (b := w.heap.size + 3) (S' := ⟨a', b', c', d'⟩) (by omega)), hid (bT3.out.other (b := w.heap.size + 3) (S' := ⟨a', b', c', d'⟩) (by omega)), hid (bR3.out.other (b := w.heap.size + 3) (S' := ⟨a', b', c', d'⟩) (by omega)), by rw [hS'.out]; exact hid (bO3.out.put (S' := ⟨a', b', c', d'⟩)), bl_put (bl_step (bl_step (bl_step hbl hb1) hb2) hb3) ⟨a', b', c', d'⟩ (by omega)⟩
          case measure => simp [intOf]; omega
    · have hltz : ¬ (k : Int) < 256 := by omega
      rw [hlast.out k (by omega)] at bO0
      obtain ⟨o0, o1, o2, o3, o4, o5, o6, o7⟩ := bO0.out.cells
      obtain ⟨r0, r1, r2, r3, r4, r5, r6, r7⟩ := Blk.cells (sa := 0) (sb := 0) (sc := 0) (sd := 0) bR0.out
      clear hfit
      go_wp2
      refine bodyPost_ret (v := .agg #[.int .u64 ra, .int .u64 rb, .int .u64 rc, .int .u64 rd]) (by simp [results, Tryd.results15, go_sem, r0, r1, r2, r3]) rfl ⟨rfl, bl_put hbl ⟨ra, rb, rc, rd⟩ (by omega)⟩

set_option maxHeartbeats 1000000 in
theorem refOr (sa sb sc sd ta tb tc td : Nat) (w : World) (hS : Fit4 ⟨sa, sb, sc, sd⟩) (hT : Fit4 ⟨ta, tb, tc, td⟩) :
    Calls Tryd.prog 13 #[valB ⟨sa, sb, sc, sd⟩, valB ⟨ta, tb, tc, td⟩] w fun e w' => e = .returned (valB (orB ⟨sa, sb, sc, sd⟩ ⟨ta, tb, tc, td⟩)) ∧ Below w.heap.size w w' := by
  obtain ⟨q, hq⟩ : ∃ q : Nat → Bool, Hid (q = fun x => hasB ⟨ta, tb, tc, td⟩ x) := ⟨_, hid rfl⟩
  obtain ⟨R, hR⟩ : ∃ R, Hid (orB ⟨sa, sb, sc, sd⟩ ⟨ta, tb, tc, td⟩ = R) := ⟨_, hid rfl⟩
  have hlast : Hid (∀ k, k = 256 → addN ⟨sa, sb, sc, sd⟩ q k = R) := hid (fun k hk => by rw [hk, addN_all hS, ← hR.out, hq.out]; rfl)
  rw [show orB ⟨sa, sb, sc, sd⟩ ⟨ta, tb, tc, td⟩ = R from hR.out]
  have GP : Hid (∀ k Q u, k < 256 → Fit4 Q → Calls Tryd.prog 27 #[valB Q, .int .i64 ((k : Nat) : Int)] u fun e w' => e = .returned (valB (putB Q k)) ∧ Below u.heap.size u w') := fun k Q u hk hQ => putC Q k u hQ hk
  have GI : Hid (∀ k u, k < 256 → Calls Tryd.prog 23 #[valB ⟨ta, tb, tc, td⟩, .int .i64 ((k : Nat) : Int)] u fun e w' => e = .returned (.bool (q k)) ∧ Below u.heap.size u w') := fun k u hk => by
    have := hasC ⟨ta, tb, tc, td⟩ k u hT hk
    rwa [show hasB ⟨ta, tb, tc, td⟩ k = q k by rw [hq.out]] at this
  have hfit := hid (addN_fit hS q)
  obtain ⟨ra, rb, rc, rd⟩ := R
  clear hR hq
  go_enter Tryd.func13, Tryd.ntmps13
  go_wp2
  go_loopw [5] (fun i wr => ∃ k : Nat, k ≤ 256 ∧ i = .int .i64 k ∧ Hid (Blk wr (w.heap.size + 1) ⟨ta, tb, tc, td⟩) ∧ Hid (Blk wr (w.heap.size + 2) noneB) ∧ Hid (Blk wr w.heap.size (addN ⟨sa, sb, sc, sd⟩ q k)) ∧ Below w.heap.size w wr) (fun i _ => 256 - (intOf i).toNat)
  case atStart => exact ⟨0, Nat.zero_le _, rfl, hid (three_blocks w _ _ _).2.1, hid (three_blocks w _ _ _).2.2, by rw [addN_zero]; exact hid (three_blocks w _ _ _).1, bl_step (bl_step (al' w _) (al' _ _)) (al' _ _)⟩
  case round =>
    obtain ⟨k, hk, rfl, bT0, bR0, bO0, hbl⟩ := hrel
    by_cases hlt : k < 256
    · have hltz : (k : Int) < 256 := by omega
      have hQ := hid (hfit.out k)
      have hy := hid (@addN_yes ⟨sa, sb, sc, sd⟩ q k)
      have hno := hid (@addN_no ⟨sa, sb, sc, sd⟩ q k)
      have GI0 := hid (GI.out k wr hlt)
      obtain ⟨t0, t1, t2, t3, t4, t5, t6, t7⟩ := bT0.out.cells
      generalize addN ⟨sa, sb, sc, sd⟩ q k = Q at hQ hy hno bO0
      obtain ⟨a, b, c, d⟩ := Q
      have GP0 := hid (fun u => GP.out k ⟨a, b, c, d⟩ u hlt hQ.out)
      cases hr : q k with
      | false =>
        rw [hr] at GI0
        have hS' := hid (hno.out hr)
        clear hy hno hr
        go_wp2_with (go_at_call 23; refine (GI0.out).mono ?_; rintro e w1 ⟨rfl, hb1⟩)
        go_roundw
        case rel => exact ⟨k + 1, by omega, by go_num, hid (bT0.out.keep hb1), hid (bR0.out.keep hb1), by rw [hS'.out]; exact hid (bO0.out.keep hb1), bl_step hbl hb1⟩
        case measure => simp [intOf]; omega
      | true =>
        rw [hr] at GI0
        have hS' := hid (hy.out hr)
        clear hy hno hr
        generalize putB ⟨a, b, c, d⟩ k = Q' at hS' GP0
        obtain ⟨a', b', c', d'⟩ := Q'
        go_wp2_with (first
          | (go_at_call 23; refine (GI0.out).mono ?_; rintro e w1 ⟨rfl, hb1⟩; have bT1 := hid (bT0.out.keep hb1); have bR1 := hid (bR0.out.keep hb1); have bO1 := hid (bO0.out.keep hb1); obtain ⟨o0, o1, o2, o3, o4, o5, o6, o7⟩ := bO1.out.cells)
          | (go_at_call 27; refine (GP0.out _).mono ?_; rintro e w2 ⟨rfl, hb2⟩; have bT2 := hid (bT1.out.keep hb2); have bR2 := hid (bR1.out.keep hb2); have bO2 := hid (bO1.out.keep hb2); obtain ⟨u0, u1, u2, u3, u4, u5, u6, u7⟩ := bO2.out.cells))
        go_roundw
        case rel => exact ⟨k + 1, by omega, by go_num, hid (bT2.out.other (b := w.heap.size) (S' := ⟨a', b', c', d'⟩) (by omega)), hid (bR2.out.other (b := w.heap.size) (S' := ⟨a', b', c', d'⟩) (by omega)), by rw [hS'.out]; exact hid (bO2.out.put (S' := ⟨a', b', c', d'⟩)), bl_put (bl_step (bl_step hbl hb1) hb2) ⟨a', b', c', d'⟩ (by omega)⟩
        case measure => simp [intOf]; omega
    · have hltz : ¬ (k : Int) < 256 := by omega
      rw [hlast.out k (by omega)] at bO0
      obtain ⟨o0, o1, o2, o3, o4, o5, o6, o7⟩ := bO0.out.cells
      obtain ⟨r0, r1, r2, r3, r4, r5, r6, r7⟩ := Blk.cells (sa := 0) (sb := 0) (sc := 0) (sd := 0) bR0.out
      clear hfit
      go_wp2
      refine bodyPost_ret (v := .agg #[.int .u64 ra, .int .u64 rb, .int .u64 rc, .int .u64 rd]) (by simp [results, Tryd.results13, go_sem, r0, r1, r2, r3]) rfl ⟨rfl, bl_put hbl ⟨ra, rb, rc, rd⟩ (by omega)⟩

end Go.Proofs.YtpkndedppfdekaaDoor
