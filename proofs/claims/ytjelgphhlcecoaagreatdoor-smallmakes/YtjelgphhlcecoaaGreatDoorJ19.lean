/- spots.joined. spots.repeated. What spots.Of holds in memory. -/
import Derived.Test.YtjelgphhlcecoaaGreatDoorJ18
namespace Go.Proofs.YtjelgphhlcecoaaGreatDoor
open Go.RowKit

set_option maxRecDepth 20000 in
set_option maxHeartbeats 4000000 in
theorem joinedOr (F : Nat → Prop) (fa la fb lb lk : Value) (na nb : Bool) (lfa lla lfb llb : List Int) (w : World) (hF : ∀ k, F k → k < w.heap.size)
    (hA : PtV F w fa la lfa lla) (hB : PtV F w fb lb lfb llb) (h1 : lla.length ≤ 60) (h2 : lfb.length ≤ 60) (h3 : lfa.length ≤ 60) (h4 : llb.length ≤ 60) :
    Calls Tryz.prog 65 #[.int .i64 4, .agg #[.bool na, fa, la], .agg #[.bool nb, fb, lb], lk] w fun e w' => ∃ fv lv, e = .returned (.agg #[.bool (na || nb), fv, lv]) ∧
      PtV F w' fv lv (unionL lfa lfb) (unionL lla llb) ∧ Below w.heap.size w w' := by
  have GU := hid (fun va vb (la lb : List Int) u (h1 : la.length ≤ 60) (h2 : lb.length ≤ 60) hA hB => setsUnion va vb la lb u (by omega) (by omega) hA hB)
  obtain ⟨fa1, fa2, rfl⟩ : ∃ a c, fa = .slice a lfa.length c := by obtain ⟨a, c, e, _⟩ := hA.first; exact ⟨a, c, e⟩
  obtain ⟨la1, la2, rfl⟩ : ∃ a c, la = .slice a lla.length c := by obtain ⟨a, c, e, _⟩ := hA.last; exact ⟨a, c, e⟩
  obtain ⟨fb1, fb2, rfl⟩ : ∃ a c, fb = .slice a lfb.length c := by obtain ⟨a, c, e, _⟩ := hB.first; exact ⟨a, c, e⟩
  obtain ⟨lb1, lb2, rfl⟩ : ∃ a c, lb = .slice a llb.length c := by obtain ⟨a, c, e, _⟩ := hB.last; exact ⟨a, c, e⟩
  obtain ⟨W0, hW0⟩ : ∃ W0, W0 = ((w.alloc (.cells #[.bool na, .slice fa1 lfa.length fa2, .slice la1 lla.length la2] 117)).alloc (.cells #[.bool nb, .slice fb1 lfb.length fb2, .slice lb1 llb.length lb2] 117)).alloc (.cells #[.bool false, .slice none 0 0, .slice none 0 0] 117) := ⟨_, rfl⟩
  have hb0 : Below w.heap.size w W0 := by rw [hW0]; exact bl_step (bl_step (al' w _) (al' _ _)) (al' _ _)
  have hs0 : W0.heap.size = w.heap.size + 3 := by rw [hW0]; simp
  have hblk : W0.heap[w.heap.size]? = some (.cells #[.bool na, .slice fa1 lfa.length fa2, .slice la1 lla.length la2] 117) ∧ W0.heap[w.heap.size + 1]? = some (.cells #[.bool nb, .slice fb1 lfb.length fb2, .slice lb1 llb.length lb2] 117) ∧ W0.heap[w.heap.size + 2]? = some (.cells #[.bool false, .slice none 0 0, .slice none 0 0] 117) := by rw [hW0]; exact three_blocks w _ _ _
  have hC : Hid (∀ u, Below W0.heap.size W0 u → (u.heap[w.heap.size]? = some (.cells #[.bool na, .slice fa1 lfa.length fa2, .slice la1 lla.length la2] 117) ∧ u.heap[w.heap.size + 1]? = some (.cells #[.bool nb, .slice fb1 lfb.length fb2, .slice lb1 llb.length lb2] 117) ∧ u.heap[w.heap.size + 2]? = some (.cells #[.bool false, .slice none 0 0, .slice none 0 0] 117)) ∧ PtV F u (.slice fa1 lfa.length fa2) (.slice la1 lla.length la2) lfa lla ∧ PtV F u (.slice fb1 lfb.length fb2) (.slice lb1 llb.length lb2) lfb llb ∧ Below w.heap.size w u ∧ w.heap.size + 3 ≤ u.heap.size) := hid (fun u hu => ⟨⟨hs_keep hblk.1 hu, hs_keep hblk.2.1 hu, hs_keep hblk.2.2 hu⟩, (hA.keep hb0).keep hu, (hB.keep hb0).keep hu, bl_step hb0 hu, by have := hu.size; omega⟩)
  have hF := hid hF
  have hfin : Hid (∀ u vA vB, Own u W0.heap.size vA (unionL lfa lfb) → Own u W0.heap.size vB (unionL lla llb) → Below W0.heap.size W0 u → PtV F (put3 u (w.heap.size + 2) (.bool (na || nb)) vA vB) vA vB (unionL lfa lfb) (unionL lla llb) ∧ Below w.heap.size w (put3 u (w.heap.size + 2) (.bool (na || nb)) vA vB)) := hid (fun u vA vB hA' hB' hu => by
    have hk : Kept (oneBlk (w.heap.size + 2)) u (put3 u (w.heap.size + 2) (.bool (na || nb)) vA vB) := put3_kept (Kept.refl _ _) rfl
    have ho : ∀ k, oneBlk (w.heap.size + 2) k → k < W0.heap.size := fun k e => by have e' : k = w.heap.size + 2 := e; omega
    have hf : ∀ k, F k → k < W0.heap.size := fun k e => by have := hF.out k e; omega
    refine ⟨⟨(Nums.of_row hA').kept hk (Off.new hA' ho), Off.new hA' hf, (Nums.of_row hB').kept hk (Off.new hB' ho), Off.new hB' hf⟩, ?_⟩
    exact ((Kept.of_below (F := oneBlk (w.heap.size + 2)) (bl_step hb0 hu)).step hk (fun k _ h => h)).below (fun k e => by have e' : k = w.heap.size + 2 := e; omega) (Nat.le_refl _))
  have hbd := hid ((Below.refl W0.heap.size W0).drew)
  obtain ⟨⟨q1, q2, q3⟩, -, -, -, -⟩ := hC.out W0.drew hbd.out
  obtain ⟨a0, a1, a2, -, -, -⟩ := cells3p q1
  obtain ⟨b0, b1, b2, -, -, -⟩ := cells3p q2
  obtain ⟨z0, z1, z2, z3, z4, z5⟩ := cells3p q3
  clear hA hB hblk q1 q2 q3 hb0
  subst hW0
  go_enter Tryz.func65, Tryz.ntmps65
  go_wp2_with fail
  have hset : Hid (∀ (u : World) y0 y1 y2, u.heap[w.heap.size]? = some (.cells #[.bool na, .slice fa1 lfa.length fa2, .slice la1 lla.length la2] 117) → u.heap[w.heap.size + 1]? = some (.cells #[.bool nb, .slice fb1 lfb.length fb2, .slice lb1 llb.length lb2] 117) →
      (((((u.setCell ⟨w.heap.size + 1 + 1, 0, none⟩ y0).setCell ⟨w.heap.size + 1 + 1, 1, none⟩ y1).setCell ⟨w.heap.size + 1 + 1, 2, none⟩ y2).heap[w.heap.size]? = some (.cells #[.bool na, .slice fa1 lfa.length fa2, .slice la1 lla.length la2] 117)) ∧ (((u.setCell ⟨w.heap.size + 1 + 1, 0, none⟩ y0).setCell ⟨w.heap.size + 1 + 1, 1, none⟩ y1).setCell ⟨w.heap.size + 1 + 1, 2, none⟩ y2).heap[w.heap.size + 1]? = some (.cells #[.bool nb, .slice fb1 lfb.length fb2, .slice lb1 llb.length lb2] 117))) := hid (fun u y0 y1 y2 h1 h2 => ⟨hs_set (hs_set (hs_set h1 (by omega)) (by omega)) (by omega), hs_set (hs_set (hs_set h2 (by omega)) (by omega)) (by omega)⟩)
  cases na with
  | true =>
    refine wp_region_held_drew (S := (fun w' => w'.cell? ⟨w.heap.size, 0, none⟩ = some (.bool true) ∧ w'.cell? ⟨w.heap.size, 1, none⟩ = some (.slice fa1 lfa.length fa2) ∧ w'.cell? ⟨w.heap.size, 2, none⟩ = some (.slice la1 lla.length la2) ∧ w'.cell? ⟨w.heap.size + 1, 0, none⟩ = some (.bool nb) ∧ w'.cell? ⟨w.heap.size + 1, 1, none⟩ = some (.slice fb1 lfb.length fb2) ∧ w'.cell? ⟨w.heap.size + 1, 2, none⟩ = some (.slice lb1 llb.length lb2))) (by kernel_rfl) ⟨a0, a1, a2, b0, b1, b2⟩ (fun hHeld => ?_)
    refine wpAnyH_take (i := 0) (oi := { dst := some 15, op := .fieldAddr 117 (.tmp 5) 0, type := 0, pos := "spots.go:79", after := #[], guard := none }) (v := ?_) rfl (by kernel_rfl) (by kernel_rfl) (by kernel_rfl) (fun _ _ _ h => h) (Or.inl ⟨by rfl, ?_⟩) (by assumption) ?_
    rotate_left
    · (intro w hSw; (try dsimp only at hSw); go_simp; try with_reducible rfl)
    try simp only [Act.put, List.setIfInBounds_toArray, List.set_cons_zero, List.set_cons_succ]
    refine wpAnyH_take (i := 1) (oi := { dst := some 16, op := .load 4 (.tmp 15), type := 4, pos := "spots.go:79", after := #[{ on := 0, ground := .data }], guard := none }) (v := ?_) rfl (by kernel_rfl) (by kernel_rfl) (by kernel_rfl) (fun _ _ _ h => h) (Or.inl ⟨by rfl, ?_⟩) (by assumption) ?_
    rotate_left
    · (intro w hSw; (try dsimp only at hSw); go_simp; try with_reducible rfl)
    try simp only [Act.put, List.setIfInBounds_toArray, List.set_cons_zero, List.set_cons_succ]
    refine wpAnyH_take (i := 2) (oi := { dst := some 17, op := .move (.tmp 16), type := 4, pos := "spots.go:79", after := #[{ on := 1, ground := .data }], guard := none }) (v := ?_) rfl (by kernel_rfl) (by kernel_rfl) (by kernel_rfl) (fun _ _ _ h => h) (Or.inl ⟨by rfl, ?_⟩) (by assumption) ?_
    rotate_left
    · (intro w hSw; (try dsimp only at hSw); go_simp; try with_reducible rfl)
    try simp only [Act.put, List.setIfInBounds_toArray, List.set_cons_zero, List.set_cons_succ]
    refine wpAnyH_take (i := 3) (oi := { dst := some 18, op := .fieldAddr 117 (.tmp 6) 0, type := 0, pos := "spots.go:79", after := #[{ on := 2, ground := .guard }], guard := some (2, false) }) (v := undef) rfl (by kernel_rfl) (by kernel_rfl) (by kernel_rfl) (fun _ _ _ h => h) (Or.inr ⟨by rfl, rfl⟩) (by assumption) ?_
    try simp only [Act.put, List.setIfInBounds_toArray, List.set_cons_zero, List.set_cons_succ]
    refine wpAnyH_take (i := 4) (oi := { dst := some 19, op := .load 4 (.tmp 18), type := 4, pos := "spots.go:79", after := #[{ on := 3, ground := .data }, { on := 2, ground := .guard }], guard := some (2, false) }) (v := undef) rfl (by kernel_rfl) (by kernel_rfl) (by kernel_rfl) (fun _ _ _ h => h) (Or.inr ⟨by rfl, rfl⟩) (by assumption) ?_
    try simp only [Act.put, List.setIfInBounds_toArray, List.set_cons_zero, List.set_cons_succ]
    refine wpAnyH_take (i := 5) (oi := { dst := some 20, op := .pick (.tmp 17) (.const (.bool true)) (.tmp 19), type := 4, pos := "spots.go:79", after := #[{ on := 2, ground := .data }, { on := 4, ground := .data }], guard := none }) (v := ?_) rfl (by kernel_rfl) (by kernel_rfl) (by kernel_rfl) (fun _ _ _ h => h) (Or.inl ⟨by rfl, ?_⟩) (by assumption) ?_
    rotate_left
    · (intro w hSw; (try dsimp only at hSw); go_simp; try with_reducible rfl)
    try simp only [Act.put, List.setIfInBounds_toArray, List.set_cons_zero, List.set_cons_succ]
    refine wpAnyH_take (i := 6) (oi := { dst := some 21, op := .fieldAddr 117 (.tmp 5) 1, type := 0, pos := "spots.go:79", after := #[], guard := none }) (v := ?_) rfl (by kernel_rfl) (by kernel_rfl) (by kernel_rfl) (fun _ _ _ h => h) (Or.inl ⟨by rfl, ?_⟩) (by assumption) ?_
    rotate_left
    · (intro w hSw; (try dsimp only at hSw); go_simp; try with_reducible rfl)
    try simp only [Act.put, List.setIfInBounds_toArray, List.set_cons_zero, List.set_cons_succ]
    refine wpAnyH_take (i := 7) (oi := { dst := some 22, op := .load 23 (.tmp 21), type := 23, pos := "spots.go:79", after := #[{ on := 6, ground := .data }], guard := none }) (v := ?_) rfl (by kernel_rfl) (by kernel_rfl) (by kernel_rfl) (fun _ _ _ h => h) (Or.inl ⟨by rfl, ?_⟩) (by assumption) ?_
    rotate_left
    · (intro w hSw; (try dsimp only at hSw); go_simp; try with_reducible rfl)
    try simp only [Act.put, List.setIfInBounds_toArray, List.set_cons_zero, List.set_cons_succ]
    refine wpAnyH_take (i := 8) (oi := { dst := some 23, op := .fieldAddr 117 (.tmp 6) 1, type := 0, pos := "spots.go:79", after := #[], guard := none }) (v := ?_) rfl (by kernel_rfl) (by kernel_rfl) (by kernel_rfl) (fun _ _ _ h => h) (Or.inl ⟨by rfl, ?_⟩) (by assumption) ?_
    rotate_left
    · (intro w hSw; (try dsimp only at hSw); go_simp; try with_reducible rfl)
    try simp only [Act.put, List.setIfInBounds_toArray, List.set_cons_zero, List.set_cons_succ]
    refine wpAnyH_take (i := 9) (oi := { dst := some 24, op := .load 23 (.tmp 23), type := 23, pos := "spots.go:79", after := #[{ on := 8, ground := .data }], guard := none }) (v := ?_) rfl (by kernel_rfl) (by kernel_rfl) (by kernel_rfl) (fun _ _ _ h => h) (Or.inl ⟨by rfl, ?_⟩) (by assumption) ?_
    rotate_left
    · (intro w hSw; (try dsimp only at hSw); go_simp; try with_reducible rfl)
    try simp only [Act.put, List.setIfInBounds_toArray, List.set_cons_zero, List.set_cons_succ]
    refine wpAnyH_take (i := 11) (oi := { dst := some 26, op := .fieldAddr 117 (.tmp 5) 2, type := 0, pos := "spots.go:79", after := #[], guard := none }) (v := ?_) rfl (by kernel_rfl) (by kernel_rfl) (by kernel_rfl) (fun _ _ _ h => h) (Or.inl ⟨by rfl, ?_⟩) (by assumption) ?_
    rotate_left
    · (intro w hSw; (try dsimp only at hSw); go_simp; try with_reducible rfl)
    try simp only [Act.put, List.setIfInBounds_toArray, List.set_cons_zero, List.set_cons_succ]
    refine wpAnyH_take (i := 12) (oi := { dst := some 27, op := .load 23 (.tmp 26), type := 23, pos := "spots.go:79", after := #[{ on := 11, ground := .data }], guard := none }) (v := ?_) rfl (by kernel_rfl) (by kernel_rfl) (by kernel_rfl) (fun _ _ _ h => h) (Or.inl ⟨by rfl, ?_⟩) (by assumption) ?_
    rotate_left
    · (intro w hSw; (try dsimp only at hSw); go_simp; try with_reducible rfl)
    try simp only [Act.put, List.setIfInBounds_toArray, List.set_cons_zero, List.set_cons_succ]
    refine wpAnyH_take (i := 13) (oi := { dst := some 28, op := .fieldAddr 117 (.tmp 6) 2, type := 0, pos := "spots.go:79", after := #[], guard := none }) (v := ?_) rfl (by kernel_rfl) (by kernel_rfl) (by kernel_rfl) (fun _ _ _ h => h) (Or.inl ⟨by rfl, ?_⟩) (by assumption) ?_
    rotate_left
    · (intro w hSw; (try dsimp only at hSw); go_simp; try with_reducible rfl)
    try simp only [Act.put, List.setIfInBounds_toArray, List.set_cons_zero, List.set_cons_succ]
    refine wpAnyH_take (i := 14) (oi := { dst := some 29, op := .load 23 (.tmp 28), type := 23, pos := "spots.go:79", after := #[{ on := 13, ground := .data }], guard := none }) (v := ?_) rfl (by kernel_rfl) (by kernel_rfl) (by kernel_rfl) (fun _ _ _ h => h) (Or.inl ⟨by rfl, ?_⟩) (by assumption) ?_
    rotate_left
    · (intro w hSw; (try dsimp only at hSw); go_simp; try with_reducible rfl)
    try simp only [Act.put, List.setIfInBounds_toArray, List.set_cons_zero, List.set_cons_succ]
    refine wpAnyH_ready (rs := [10]) (by kernel_rfl) (by simp) ?_
    refine AllReadyH.cons (o := { dst := some 25, op := .call { callee := .value (.func 63), args := #[.tmp 22, .tmp 24], argTypes := #[23, 23] }, type := 23, pos := "spots.go:79", after := #[{ on := 7, ground := .data }, { on := 9, ground := .data }, { on := 2, ground := .chain }], guard := none }) rfl (fun K hK => ?_) AllReadyH.nil
    obtain ⟨-, pa, pb, -, -⟩ := hC.out _ hbd.out
    refine step_call (by rfl) 63 #[.slice fa1 lfa.length fa2, .slice fb1 lfb.length fb2] (by (go_simp; done)) (GU.out _ _ lfa lfb _ h3 h2 pa.first pb.first) ?_
    rintro e wA ⟨vA, rfl, hOA, hbA0⟩
    have hbA := bl_step hbd.out hbA0
    obtain ⟨xa, xc, rfl, hx1⟩ := id (Nums.of_row hOA)
    clear hx1 pa pb
    obtain ⟨⟨m1, m2, m3⟩, pa, pb, -, -⟩ := hC.out _ hbA
    obtain ⟨c0, c1, c2, -, -, -⟩ := cells3p m1
    obtain ⟨d0, d1, d2, -, -, -⟩ := cells3p m2
    refine ⟨_, rfl, hK.out _ _ ⟨c0, c1, c2, d0, d1, d2⟩ (fun hHeld2 => ?_)⟩
    clear hK K hHeld
    try simp only [Act.put, List.setIfInBounds_toArray, List.set_cons_zero, List.set_cons_succ]
    refine wpAnyH_ready (rs := [15]) (by kernel_rfl) (by simp) ?_
    refine AllReadyH.cons (o := { dst := some 30, op := .call { callee := .value (.func 63), args := #[.tmp 27, .tmp 29], argTypes := #[23, 23] }, type := 23, pos := "spots.go:79", after := #[{ on := 12, ground := .data }, { on := 14, ground := .data }, { on := 10, ground := .chain }], guard := none }) rfl (fun K hK => ?_) AllReadyH.nil
    refine step_call (by rfl) 63 #[.slice la1 lla.length la2, .slice lb1 llb.length lb2] (by (go_simp; done)) (GU.out _ _ lla llb _ h1 h4 pa.last pb.last) ?_
    rintro e wB ⟨vB, rfl, hOB, hbB0⟩
    have hbB := bl_step hbA hbB0
    obtain ⟨ya, yc, rfl, hx2⟩ := id (Nums.of_row hOB)
    clear hx2 pa pb
    obtain ⟨⟨m4, m5, m6⟩, -, -, -, -⟩ := hC.out _ hbB
    obtain ⟨e0, e1, e2, -, -, -⟩ := cells3p m4
    obtain ⟨f0, f1, f2, -, -, -⟩ := cells3p m5
    obtain ⟨y0, y1, y2, y3, y4, y5⟩ := cells3p m6
    have g := hset.out wB (.bool true) (.slice xa (unionL lfa lfb).length xc) (.slice ya (unionL lla llb).length yc) m4 m5
    obtain ⟨i0, i1, i2, -, -, -⟩ := cells3p g.1
    obtain ⟨j0, j1, j2, -, -, -⟩ := cells3p g.2
    refine ⟨_, rfl, hK.out _ _ ⟨e0, e1, e2, f0, f1, f2⟩ (fun hHeld => ?_)⟩
    clear hK K hHeld2
    try simp only [Act.put, List.setIfInBounds_toArray, List.set_cons_zero, List.set_cons_succ]
    refine wpAnyH_take (i := 16) (oi := { dst := some 31, op := .build 117 #[(0, .tmp 20), (1, .tmp 25), (2, .tmp 30)], type := 117, pos := "spots.go:79", after := #[{ on := 5, ground := .data }, { on := 10, ground := .data }, { on := 15, ground := .data }], guard := none }) (v := ?_) rfl (by kernel_rfl) (by kernel_rfl) (by kernel_rfl) (fun _ _ _ h => h) (Or.inl ⟨by rfl, ?_⟩) (by assumption) ?_
    rotate_left
    · (intro w hSw; (try dsimp only at hSw); go_simp; try with_reducible rfl)
    try simp only [Act.put, List.setIfInBounds_toArray, List.set_cons_zero, List.set_cons_succ]
    refine wpAnyH_ready (rs := [17]) (by kernel_rfl) (by simp) ?_
    refine AllReadyH.cons (o := { dst := none, op := .store 117 (.tmp 8) (.tmp 31), type := 0, pos := "spots.go:79", after := #[{ on := 16, ground := .data }, { on := 15, ground := .chain }, { on := 0, ground := .phase }, { on := 1, ground := .phase }, { on := 2, ground := .phase }, { on := 3, ground := .phase }, { on := 4, ground := .phase }, { on := 5, ground := .phase }, { on := 6, ground := .phase }, { on := 7, ground := .phase }, { on := 8, ground := .phase }, { on := 9, ground := .phase }, { on := 10, ground := .phase }, { on := 11, ground := .phase }, { on := 12, ground := .phase }, { on := 13, ground := .phase }, { on := 14, ground := .phase }, { on := 15, ground := .phase }, { on := 16, ground := .phase }], guard := none }) rfl (fun K hK => ?_) AllReadyH.nil
    go_simp
    refine hK.out _ _ ⟨i0, i1, i2, j0, j1, j2⟩ (fun hHeld2 => ?_)
    refine wpAnyH_done (by kernel_rfl) ?_ _
    clear hK K hHeld
    try simp only [Act.put, List.setIfInBounds_toArray, List.set_cons_zero, List.set_cons_succ]
    all_goals
      go_wp2
      have hfb : (put3 wB (w.heap.size + 2) (.bool true) (.slice xa (unionL lfa lfb).length xc) (.slice ya (unionL lla llb).length yc)).heap[w.heap.size + 2]? = some (.cells #[.bool true, .slice xa (unionL lfa lfb).length xc, .slice ya (unionL lla llb).length yc] 117) := put3_blk m6
      obtain ⟨r0, r1, r2, -, -, -⟩ := cells3p hfb
      unfold put3 at r0 r1 r2
      obtain ⟨t1, t2⟩ := hfin.out wB _ _ (own_below hOA hbB0) (own_base hOB hbA.size) hbB
      exact bodyPost_ret (v := .agg #[.bool true, .slice xa (unionL lfa lfb).length xc, .slice ya (unionL lla llb).length yc]) (by simp [results, Tryz.results65, go_sem, r0, r1, r2]) rfl ⟨_, _, rfl, t1, t2⟩
  | false =>
    cases nb with
    | true =>
      go_region_held3 (fun w' => w'.cell? ⟨w.heap.size, 0, none⟩ = some (.bool false) ∧ w'.cell? ⟨w.heap.size, 1, none⟩ = some (.slice fa1 lfa.length fa2) ∧ w'.cell? ⟨w.heap.size, 2, none⟩ = some (.slice la1 lla.length la2) ∧ w'.cell? ⟨w.heap.size + 1, 0, none⟩ = some (.bool true) ∧ w'.cell? ⟨w.heap.size + 1, 1, none⟩ = some (.slice fb1 lfb.length fb2) ∧ w'.cell? ⟨w.heap.size + 1, 2, none⟩ = some (.slice lb1 llb.length lb2))
      (go_keep)
      ((first
      | (go_at_call_of 63 (Value.slice fa1 lfa.length fa2); obtain ⟨-, pa, pb, -, -⟩ := hC.out _ (by first | exact hbB | exact hbd.out); refine (GU.out _ _ lfa lfb _ h3 h2 pa.first pb.first).mono ?_; rintro e wA ⟨vA, rfl, hOA, hbA0⟩; have hbA := bl_step (by first | exact hbB | exact hbd.out) hbA0; obtain ⟨xa, xc, rfl, hx1⟩ := id (Nums.of_row hOA); clear hx1; obtain ⟨⟨m1, m2, m3⟩, -, -, -, -⟩ := hC.out _ hbA; obtain ⟨c0, c1, c2, -, -, -⟩ := cells3p m1; obtain ⟨d0, d1, d2, -, -, -⟩ := cells3p m2; obtain ⟨x0, x1, x2, x3, x4, x5⟩ := cells3p m3; (first | (have g := hset.out wA (.bool true) (.slice xa (unionL lfa lfb).length xc) (.slice ya (unionL lla llb).length yc) m1 m2; obtain ⟨i0, i1, i2, -, -, -⟩ := cells3p g.1; obtain ⟨j0, j1, j2, -, -, -⟩ := cells3p g.2) | skip))
      | (go_at_call_of 63 (Value.slice la1 lla.length la2); obtain ⟨-, pa, pb, -, -⟩ := hC.out _ (by first | exact hbA | exact hbd.out); refine (GU.out _ _ lla llb _ h1 h4 pa.last pb.last).mono ?_; rintro e wB ⟨vB, rfl, hOB, hbB0⟩; have hbB := bl_step (by first | exact hbA | exact hbd.out) hbB0; obtain ⟨ya, yc, rfl, hx2⟩ := id (Nums.of_row hOB); clear hx2; obtain ⟨⟨m4, m5, m6⟩, -, -, -, -⟩ := hC.out _ hbB; obtain ⟨e0, e1, e2, -, -, -⟩ := cells3p m4; obtain ⟨f0, f1, f2, -, -, -⟩ := cells3p m5; obtain ⟨y0, y1, y2, y3, y4, y5⟩ := cells3p m6; (first | (have g := hset.out wB (.bool true) (.slice xa (unionL lfa lfb).length xc) (.slice ya (unionL lla llb).length yc) m4 m5; obtain ⟨i0, i1, i2, -, -, -⟩ := cells3p g.1; obtain ⟨j0, j1, j2, -, -, -⟩ := cells3p g.2) | skip))))
      all_goals
        go_wp2
        have hfb : (put3 wB (w.heap.size + 2) (.bool true) (.slice xa (unionL lfa lfb).length xc) (.slice ya (unionL lla llb).length yc)).heap[w.heap.size + 2]? = some (.cells #[.bool true, .slice xa (unionL lfa lfb).length xc, .slice ya (unionL lla llb).length yc] 117) := put3_blk m6
        obtain ⟨r0, r1, r2, -, -, -⟩ := cells3p hfb
        unfold put3 at r0 r1 r2
        obtain ⟨t1, t2⟩ := hfin.out wB _ _ (own_below hOA hbB0) (own_base hOB hbA.size) hbB
        exact bodyPost_ret (v := .agg #[.bool true, .slice xa (unionL lfa lfb).length xc, .slice ya (unionL lla llb).length yc]) (by simp [results, Tryz.results65, go_sem, r0, r1, r2]) rfl ⟨_, _, rfl, t1, t2⟩
    | false =>
      go_region_held3 (fun w' => w'.cell? ⟨w.heap.size, 0, none⟩ = some (.bool false) ∧ w'.cell? ⟨w.heap.size, 1, none⟩ = some (.slice fa1 lfa.length fa2) ∧ w'.cell? ⟨w.heap.size, 2, none⟩ = some (.slice la1 lla.length la2) ∧ w'.cell? ⟨w.heap.size + 1, 0, none⟩ = some (.bool false) ∧ w'.cell? ⟨w.heap.size + 1, 1, none⟩ = some (.slice fb1 lfb.length fb2) ∧ w'.cell? ⟨w.heap.size + 1, 2, none⟩ = some (.slice lb1 llb.length lb2))
      (go_keep)
      ((first
      | (go_at_call_of 63 (Value.slice fa1 lfa.length fa2); obtain ⟨-, pa, pb, -, -⟩ := hC.out _ (by first | exact hbB | exact hbd.out); refine (GU.out _ _ lfa lfb _ h3 h2 pa.first pb.first).mono ?_; rintro e wA ⟨vA, rfl, hOA, hbA0⟩; have hbA := bl_step (by first | exact hbB | exact hbd.out) hbA0; obtain ⟨xa, xc, rfl, hx1⟩ := id (Nums.of_row hOA); clear hx1; obtain ⟨⟨m1, m2, m3⟩, -, -, -, -⟩ := hC.out _ hbA; obtain ⟨c0, c1, c2, -, -, -⟩ := cells3p m1; obtain ⟨d0, d1, d2, -, -, -⟩ := cells3p m2; obtain ⟨x0, x1, x2, x3, x4, x5⟩ := cells3p m3; (first | (have g := hset.out wA (.bool false) (.slice xa (unionL lfa lfb).length xc) (.slice ya (unionL lla llb).length yc) m1 m2; obtain ⟨i0, i1, i2, -, -, -⟩ := cells3p g.1; obtain ⟨j0, j1, j2, -, -, -⟩ := cells3p g.2) | skip))
      | (go_at_call_of 63 (Value.slice la1 lla.length la2); obtain ⟨-, pa, pb, -, -⟩ := hC.out _ (by first | exact hbA | exact hbd.out); refine (GU.out _ _ lla llb _ h1 h4 pa.last pb.last).mono ?_; rintro e wB ⟨vB, rfl, hOB, hbB0⟩; have hbB := bl_step (by first | exact hbA | exact hbd.out) hbB0; obtain ⟨ya, yc, rfl, hx2⟩ := id (Nums.of_row hOB); clear hx2; obtain ⟨⟨m4, m5, m6⟩, -, -, -, -⟩ := hC.out _ hbB; obtain ⟨e0, e1, e2, -, -, -⟩ := cells3p m4; obtain ⟨f0, f1, f2, -, -, -⟩ := cells3p m5; obtain ⟨y0, y1, y2, y3, y4, y5⟩ := cells3p m6; (first | (have g := hset.out wB (.bool false) (.slice xa (unionL lfa lfb).length xc) (.slice ya (unionL lla llb).length yc) m4 m5; obtain ⟨i0, i1, i2, -, -, -⟩ := cells3p g.1; obtain ⟨j0, j1, j2, -, -, -⟩ := cells3p g.2) | skip))))
      all_goals
        go_wp2
        have hfb : (put3 wB (w.heap.size + 2) (.bool false) (.slice xa (unionL lfa lfb).length xc) (.slice ya (unionL lla llb).length yc)).heap[w.heap.size + 2]? = some (.cells #[.bool false, .slice xa (unionL lfa lfb).length xc, .slice ya (unionL lla llb).length yc] 117) := put3_blk m6
        obtain ⟨r0, r1, r2, -, -, -⟩ := cells3p hfb
        unfold put3 at r0 r1 r2
        obtain ⟨t1, t2⟩ := hfin.out wB _ _ (own_below hOA hbB0) (own_base hOB hbA.size) hbB
        exact bodyPost_ret (v := .agg #[.bool false, .slice xa (unionL lfa lfb).length xc, .slice ya (unionL lla llb).length yc]) (by simp [results, Tryz.results65, go_sem, r0, r1, r2]) rfl ⟨_, _, rfl, t1, t2⟩

end Go.Proofs.YtjelgphhlcecoaaGreatDoor
namespace Go.Proofs.YtjelgphhlcecoaaGreatDoor
open Go.RowKit

/-- what changes, and two more blocks -/
def Fy (F : Nat → Prop) (b : Nat) : Nat → Prop := fun k => F k ∨ (b ≤ k ∧ k < b + 2)
def twoBlk (b : Nat) : Nat → Prop := fun k => b ≤ k ∧ k < b + 2
theorem LkS.more2 {F : Nat → Prop} {B pb n : Nat} {gv : Value} {w u : World} {gs : List Value} {fl : List (List Int)} (h : LkS F B pb gv n w gs fl) (hb : Below w.heap.size w u) (hs : w.heap.size + 2 ≤ u.heap.size) : LkS (Fy F w.heap.size) B pb gv n u gs fl where
  base := (h.keep hb).base
  lt := fun k hk => by
    rcases hk with hk | hk
    · exact (h.keep hb).lt k hk
    · omega
  row := fun k e => ⟨Or.inl (h.row k e).1, (h.row k e).2⟩
  inF := Or.inl h.inF
  p := (h.keep hb).p
  own := (h.keep hb).own
  nums := (h.nums.more (G := Fy F w.heap.size) fun k hk => by
    rcases hk with hk | hk
    · exact Or.inl hk
    · exact Or.inr hk.1).kept (Kept.of_below hb)
  len := h.len
  n60 := h.n60
  good := h.good
theorem LkS.less2 {F : Nat → Prop} {b B pb n : Nat} {gv : Value} {w u : World} {gs : List Value} {fl : List (List Int)} (h : LkS (Fy F b) B pb gv n w gs fl) (hF : ∀ k, F k → k < b) (hrow : ∀ k, gv.ownBlock = some k → F k) (hp : F pb) (hk : Kept (twoBlk b) w u) : LkS F B pb gv n u gs fl where
  base := Nat.le_trans h.base hk.size
  lt := fun k hk' => Nat.lt_of_lt_of_le (h.lt k (Or.inl hk')) hk.size
  row := fun k e => ⟨hrow k e, (h.row k e).2⟩
  inF := hp
  p := hk.cell h.p (h.lt _ h.inF) (fun e => by have := hF _ hp; have e' : b ≤ pb := e.1; omega)
  own := own_kept h.own hk fun k e e' => by have := hF _ (hrow k e); have e2 : b ≤ k := e'.1; omega
  nums := ⟨h.nums.1, fun j => ⟨(h.nums.2 j).1.kept hk ((h.nums.2 j).2.sub fun k e => Or.inr e), (h.nums.2 j).2.sub fun k e => Or.inl e⟩⟩
  len := h.len
  n60 := h.n60
  good := h.good

theorem two_blk {w1 : World} {b : Nat} {a0 a1 a2 z0 z1 z2 r : Value} {T : TypeId} (q1 : w1.heap[b]? = some (.cells #[a0, a1, a2] T (0, 0))) (q2 : w1.heap[b + 1]? = some (.cells #[z0, z1, z2] T (0, 0))) :
    (w1.setCell ⟨b, 0, none⟩ r).heap[b]? = some (.cells #[r, a1, a2] T (0, 0)) ∧ (w1.setCell ⟨b, 0, none⟩ r).heap[b + 1]? = some (.cells #[z0, z1, z2] T (0, 0)) ∧ (put3 (w1.setCell ⟨b, 0, none⟩ r) (b + 1) r a1 a2).heap[b + 1]? = some (.cells #[r, a1, a2] T (0, 0)) :=
  ⟨heap_setCell q1, hs_set q2 (by omega), put3_blk (hs_set q2 (by omega))⟩

set_option maxRecDepth 20000 in
set_option maxHeartbeats 4000000 in
theorem repeatedC (F : Nat → Prop) (B pb n : Nat) (gv fa la : Value) (op : Int) (na : Bool) (lfa lla : List Int) (gs : List Value) (fl : List (List Int)) (w : World) (hop : op = 5 ∨ op = 6)
    (hS : LkS F B pb gv n w gs fl) (hA : PtV F w fa la lfa lla) (hlla : InN lla n) (h1 : lla.length ≤ 60) (hlfa : InN lfa n) (h2 : lfa.length ≤ 60) :
    Calls Tryz.prog 66 #[.int .i64 op, .agg #[.bool na, fa, la], .func (.func 62) #[] #[.pointer (some ⟨pb, 0, none⟩)]] w fun e w' => ∃ fv lv, e = .returned (.agg #[.bool (na || decide (op = 5)), fv, lv]) ∧
      PtV F w' fv lv lfa lla ∧ (∃ gs', LkS F B pb gv n w' gs' (linkL fl lfa lla)) ∧ Kept (fun k => gv.ownBlock = some k) w w' := by
  have hlt := hid hS.lt
  have hrow := hid hS.row
  have hin := hid hS.inF
  have hnb : Hid (∀ k, w.heap.size ≤ k → ¬ gv.ownBlock = some k) := hid (fun k hk e => by have := hlt.out k (hrow.out k e).1; omega)
  obtain ⟨fa1, fa2, rfl⟩ : ∃ a c, fa = .slice a lfa.length c := by obtain ⟨a, c, e, _⟩ := hA.first; exact ⟨a, c, e⟩
  obtain ⟨la1, la2, rfl⟩ : ∃ a c, la = .slice a lla.length c := by obtain ⟨a, c, e, _⟩ := hA.last; exact ⟨a, c, e⟩
  obtain ⟨W0, hW0⟩ : ∃ W0, W0 = (w.alloc (.cells #[.bool na, .slice fa1 lfa.length fa2, .slice la1 lla.length la2] 117)).alloc (.cells #[.bool false, .slice none 0 0, .slice none 0 0] 117) := ⟨_, rfl⟩
  have hb0 : Below w.heap.size w W0 := by rw [hW0]; exact bl_step (al' w _) (al' _ _)
  have hs0 : W0.heap.size = w.heap.size + 2 := by rw [hW0]; simp
  have hblk : W0.heap[w.heap.size]? = some (.cells #[.bool na, .slice fa1 lfa.length fa2, .slice la1 lla.length la2] 117) ∧ W0.heap[w.heap.size + 1]? = some (.cells #[.bool false, .slice none 0 0, .slice none 0 0] 117) := by rw [hW0]; exact two_blocks w _ _
  have hFx : ∀ k, Fy F w.heap.size k → F k ∨ w.heap.size ≤ k := fun k hk => by
    rcases hk with hk | hk
    · exact Or.inl hk
    · exact Or.inr hk.1
  have hA0 := (hA.more hFx).keep hb0
  have GL := hid (linkC (Fy F w.heap.size) B pb n _ _ gv lla lfa gs fl W0 (hS.more2 hb0 (by omega)) hA0.last hA0.offL hA0.first hA0.offF hlla h1 hlfa h2)
  have hK : Hid (∀ w1, Kept (fun k => gv.ownBlock = some k) W0 w1 → w1.heap[w.heap.size]? = some (.cells #[.bool na, .slice fa1 lfa.length fa2, .slice la1 lla.length la2] 117) ∧ w1.heap[w.heap.size + 1]? = some (.cells #[.bool false, .slice none 0 0, .slice none 0 0] 117) ∧ Kept (fun k => gv.ownBlock = some k) w w1 ∧ PtV (Fy F w.heap.size) w1 (.slice fa1 lfa.length fa2) (.slice la1 lla.length la2) lfa lla) := hid (fun w1 K1 => by
    have KF : Kept (Fy F w.heap.size) W0 w1 := K1.mono fun k _ e => Or.inl (hrow.out k e).1
    exact ⟨K1.blk hblk.1 (hnb.out _ (Nat.le_refl _)), K1.blk hblk.2 (hnb.out _ (by omega)), (Kept.of_below hb0).step K1 (fun k hk e => e), hA0.kept KF⟩)
  have hend : Hid (∀ w1 u, Kept (twoBlk w.heap.size) w1 u → Kept (fun k => gv.ownBlock = some k) w w1 → PtV (Fy F w.heap.size) w1 (.slice fa1 lfa.length fa2) (.slice la1 lla.length la2) lfa lla → (∃ gs', LkS (Fy F w.heap.size) B pb gv n w1 gs' (linkL fl lfa lla)) → PtV F u (.slice fa1 lfa.length fa2) (.slice la1 lla.length la2) lfa lla ∧ (∃ gs', LkS F B pb gv n u gs' (linkL fl lfa lla)) ∧ Kept (fun k => gv.ownBlock = some k) w u) := hid (fun w1 u h1 h2 hp ⟨gs', h3⟩ => ⟨⟨hp.first.kept h1 (hp.offF.sub fun k e => Or.inr e), hp.offF.sub fun k e => Or.inl e, hp.last.kept h1 (hp.offL.sub fun k e => Or.inr e), hp.offL.sub fun k e => Or.inl e⟩, ⟨gs', h3.less2 hlt.out (fun k e => (hrow.out k e).1) hin.out h1⟩, h2.step h1 (fun k hk e => by have e' : w.heap.size ≤ k := e.1; omega)⟩)
  have hkp : Hid (∀ (w1 : World) r y0 y1 y2, Kept (twoBlk w.heap.size) w1 (put3 (w1.setCell ⟨w.heap.size, 0, none⟩ r) (w.heap.size + 1) y0 y1 y2)) := hid (fun w1 r y0 y1 y2 => put3_kept ((Kept.refl _ _).setCell fun _ => ⟨Nat.le_refl _, by simp⟩) ⟨by omega, by omega⟩)
  clear hS hA hblk hA0 hFx
  subst hW0
  rcases hop with rfl | rfl
  · rw [show decide ((5 : Int) = 5) = true from rfl]
    cases na with
    | false =>
      show Calls Tryz.prog _ _ _ fun e w' => ∃ fv lv, e = .returned (.agg #[.bool true, fv, lv]) ∧ _
      go_enter Tryz.func66, Tryz.ntmps66
      go_wp2_with (go_at_call 62; refine GL.out.mono ?_; rintro e w1 ⟨rfl, hS1, K1⟩; obtain ⟨q1, q2, K2, pA⟩ := hK.out w1 K1; obtain ⟨a0, a1, a2, a3, a4, a5⟩ := cells3p q1; obtain ⟨z0, z1, z2, z3, z4, z5⟩ := cells3p q2; obtain ⟨Q1, Q2, Q3⟩ := two_blk (r := .bool true) q1 q2; obtain ⟨b0, b1, b2, b3, b4, b5⟩ := cells3p Q1; obtain ⟨y0, y1, y2, y3, y4, y5⟩ := cells3p Q2; obtain ⟨r0, r1, r2, -, -, -⟩ := cells3p Q3)
      unfold put3 at r0 r1 r2
      exact bodyPost_ret (v := .agg #[.bool true, .slice fa1 lfa.length fa2, .slice la1 lla.length la2]) (by simp [results, Tryz.results66, go_sem, r0, r1, r2]) rfl ⟨_, _, rfl, hend.out w1 _ (hkp.out w1 (.bool true) (.bool true) (.slice fa1 lfa.length fa2) (.slice la1 lla.length la2)) K2 pA hS1⟩
    | true =>
      show Calls Tryz.prog _ _ _ fun e w' => ∃ fv lv, e = .returned (.agg #[.bool true, fv, lv]) ∧ _
      go_enter Tryz.func66, Tryz.ntmps66
      go_wp2_with (go_at_call 62; refine GL.out.mono ?_; rintro e w1 ⟨rfl, hS1, K1⟩; obtain ⟨q1, q2, K2, pA⟩ := hK.out w1 K1; obtain ⟨a0, a1, a2, a3, a4, a5⟩ := cells3p q1; obtain ⟨z0, z1, z2, z3, z4, z5⟩ := cells3p q2; obtain ⟨Q1, Q2, Q3⟩ := two_blk (r := .bool true) q1 q2; obtain ⟨b0, b1, b2, b3, b4, b5⟩ := cells3p Q1; obtain ⟨y0, y1, y2, y3, y4, y5⟩ := cells3p Q2; obtain ⟨r0, r1, r2, -, -, -⟩ := cells3p Q3)
      unfold put3 at r0 r1 r2
      exact bodyPost_ret (v := .agg #[.bool true, .slice fa1 lfa.length fa2, .slice la1 lla.length la2]) (by simp [results, Tryz.results66, go_sem, r0, r1, r2]) rfl ⟨_, _, rfl, hend.out w1 _ (hkp.out w1 (.bool true) (.bool true) (.slice fa1 lfa.length fa2) (.slice la1 lla.length la2)) K2 pA hS1⟩
  · rw [show decide ((6 : Int) = 5) = false from rfl]
    cases na with
    | false =>
      show Calls Tryz.prog _ _ _ fun e w' => ∃ fv lv, e = .returned (.agg #[.bool false, fv, lv]) ∧ _
      go_enter Tryz.func66, Tryz.ntmps66
      go_wp2_with (go_at_call 62; refine GL.out.mono ?_; rintro e w1 ⟨rfl, hS1, K1⟩; obtain ⟨q1, q2, K2, pA⟩ := hK.out w1 K1; obtain ⟨a0, a1, a2, a3, a4, a5⟩ := cells3p q1; obtain ⟨z0, z1, z2, z3, z4, z5⟩ := cells3p q2; obtain ⟨Q1, Q2, Q3⟩ := two_blk (r := .bool false) q1 q2; obtain ⟨b0, b1, b2, b3, b4, b5⟩ := cells3p Q1; obtain ⟨y0, y1, y2, y3, y4, y5⟩ := cells3p Q2; obtain ⟨r0, r1, r2, -, -, -⟩ := cells3p Q3)
      unfold put3 at r0 r1 r2
      exact bodyPost_ret (v := .agg #[.bool false, .slice fa1 lfa.length fa2, .slice la1 lla.length la2]) (by simp [results, Tryz.results66, go_sem, r0, r1, r2]) rfl ⟨_, _, rfl, hend.out w1 _ (hkp.out w1 (.bool false) (.bool false) (.slice fa1 lfa.length fa2) (.slice la1 lla.length la2)) K2 pA hS1⟩
    | true =>
      show Calls Tryz.prog _ _ _ fun e w' => ∃ fv lv, e = .returned (.agg #[.bool true, fv, lv]) ∧ _
      go_enter Tryz.func66, Tryz.ntmps66
      go_wp2_with (go_at_call 62; refine GL.out.mono ?_; rintro e w1 ⟨rfl, hS1, K1⟩; obtain ⟨q1, q2, K2, pA⟩ := hK.out w1 K1; obtain ⟨a0, a1, a2, a3, a4, a5⟩ := cells3p q1; obtain ⟨z0, z1, z2, z3, z4, z5⟩ := cells3p q2; obtain ⟨Q1, Q2, Q3⟩ := two_blk (r := .bool true) q1 q2; obtain ⟨b0, b1, b2, b3, b4, b5⟩ := cells3p Q1; obtain ⟨y0, y1, y2, y3, y4, y5⟩ := cells3p Q2; obtain ⟨r0, r1, r2, -, -, -⟩ := cells3p Q3)
      unfold put3 at r0 r1 r2
      exact bodyPost_ret (v := .agg #[.bool true, .slice fa1 lfa.length fa2, .slice la1 lla.length la2]) (by simp [results, Tryz.results66, go_sem, r0, r1, r2]) rfl ⟨_, _, rfl, hend.out w1 _ (hkp.out w1 (.bool true) (.bool true) (.slice fa1 lfa.length fa2) (.slice la1 lla.length la2)) K2 pA hS1⟩

set_option maxRecDepth 20000 in
set_option maxHeartbeats 4000000 in
theorem repeatedOpt (F : Nat → Prop) (fa la lk : Value) (na : Bool) (lfa lla : List Int) (w : World) (hA : PtV F w fa la lfa lla) :
    Calls Tryz.prog 66 #[.int .i64 7, .agg #[.bool na, fa, la], lk] w fun e w' => ∃ fv lv, e = .returned (.agg #[.bool true, fv, lv]) ∧ PtV F w' fv lv lfa lla ∧ Below w.heap.size w w' := by
  obtain ⟨fa1, fa2, rfl⟩ : ∃ a c, fa = .slice a lfa.length c := by obtain ⟨a, c, e, _⟩ := hA.first; exact ⟨a, c, e⟩
  obtain ⟨la1, la2, rfl⟩ : ∃ a c, la = .slice a lla.length c := by obtain ⟨a, c, e, _⟩ := hA.last; exact ⟨a, c, e⟩
  have hA := hid hA
  cases na with
  | false =>
    go_enter Tryz.func66, Tryz.ntmps66
    go_wp2
    have hb : Below w.heap.size w ((w.alloc (.cells #[.bool true, .slice fa1 lfa.length fa2, .slice la1 lla.length la2] 117)).alloc (.cells #[.bool true, .slice fa1 lfa.length fa2, .slice la1 lla.length la2] 117)) := bl_step (al' w _) (al' _ _)
    exact bodyPost_ret (v := .agg #[.bool true, .slice fa1 lfa.length fa2, .slice la1 lla.length la2]) (by simp [results, Tryz.results66, go_sem]) rfl ⟨_, _, rfl, hA.out.keep hb, hb⟩
  | true =>
    go_enter Tryz.func66, Tryz.ntmps66
    go_wp2
    have hb : Below w.heap.size w ((w.alloc (.cells #[.bool true, .slice fa1 lfa.length fa2, .slice la1 lla.length la2] 117)).alloc (.cells #[.bool true, .slice fa1 lfa.length fa2, .slice la1 lla.length la2] 117)) := bl_step (al' w _) (al' _ _)
    exact bodyPost_ret (v := .agg #[.bool true, .slice fa1 lfa.length fa2, .slice la1 lla.length la2]) (by simp [results, Tryz.results66, go_sem]) rfl ⟨_, _, rfl, hA.out.keep hb, hb⟩

end Go.Proofs.YtjelgphhlcecoaaGreatDoor
namespace Go.Proofs.YtjelgphhlcecoaaGreatDoor
open Go.RowKit

/-- the parts that lie open, the last first; their cells, the first first -/
def PtS (F : Nat → Prop) (w : World) : List Rx → List Value → Prop
  | [], xs => xs = []
  | t :: r, xs => ∃ ys fv lv, xs = ys ++ [.bool t.null, fv, lv] ∧ PtS F w r ys ∧ PtV F w fv lv (firstL t (nS r)) (lastL t (nS r))
theorem PtS.kept {F : Nat → Prop} {w w' : World} (hk : Kept F w w') : ∀ {st : List Rx} {xs : List Value}, PtS F w st xs → PtS F w' st xs
  | [], _, h => h
  | _ :: _, _, ⟨ys, fv, lv, e, h1, h2⟩ => ⟨ys, fv, lv, e, PtS.kept hk h1, h2.kept hk⟩
theorem PtS.more {F G : Nat → Prop} {w : World} (hG : ∀ k, G k → F k ∨ w.heap.size ≤ k) : ∀ {st : List Rx} {xs : List Value}, PtS F w st xs → PtS G w st xs
  | [], _, h => h
  | _ :: _, _, ⟨ys, fv, lv, e, h1, h2⟩ => ⟨ys, fv, lv, e, PtS.more hG h1, h2.more hG⟩
theorem PtS.len {F : Nat → Prop} {w : World} : ∀ {st : List Rx} {xs : List Value}, PtS F w st xs → xs.length = st.length * 3
  | [], _, h => by cases h; rfl
  | _ :: _, _, ⟨ys, fv, lv, e, h1, h2⟩ => by rw [e, List.length_append, PtS.len h1]; simp; omega

theorem LkS.grow {F G : Nat → Prop} {B pb n : Nat} {gv : Value} {u w' : World} {gs : List Value} {fl : List (List Int)} (h : LkS F B pb gv n u gs fl) (hG : ∀ k, G k → F k ∨ u.heap.size ≤ k) (hFG : ∀ k, F k → G k) (hlt : ∀ k, G k → k < w'.heap.size) {H : Nat → Prop} (hk : Kept H u w') (hHG : ∀ k, H k → G k) (hHp : ¬ H pb) (hHg : ∀ k, gv.ownBlock = some k → ¬ H k) : LkS G B pb gv n w' gs fl where
  base := Nat.le_trans h.base hk.size
  lt := hlt
  row := fun k e => ⟨hFG k (h.row k e).1, (h.row k e).2⟩
  inF := hFG _ h.inF
  p := hk.cell h.p (h.lt _ h.inF) hHp
  own := own_kept h.own hk hHg
  nums := (h.nums.more hG).kept (hk.mono fun k _ e => hHG k e)
  len := h.len
  n60 := h.n60
  good := h.good

structure OfM (B pb : Nat) (F : Nat → Prop) (n : Nat) (w : World) (sv gv ov : Value) (S : List W4) (gs : List Value) (fl : List (List Int)) (st : List Rx) (xs : List Value) : Prop where
  lk : LkS F B pb gv n w gs fl
  blk : w.heap[pb]? = some (.cells #[sv, .bool false, nilV, nilV, gv] 91 (0, 0))
  sets : OwnS w B sv S
  sF : ∀ k, sv.ownBlock = some k → F k ∧ k ≠ pb ∧ gv.ownBlock ≠ some k
  own : w.ownsRow B 117 3 ov st.length xs
  oF : ∀ k, ov.ownBlock = some k → F k ∧ k ≠ pb ∧ gv.ownBlock ≠ some k ∧ sv.ownBlock ≠ some k
  pts : PtS F w st xs
theorem OfM.keep {B pb n : Nat} {F : Nat → Prop} {w u : World} {sv gv ov : Value} {S : List W4} {gs : List Value} {fl : List (List Int)} {st : List Rx} {xs : List Value} (h : OfM B pb F n w sv gv ov S gs fl st xs) (hu : Below w.heap.size w u) : OfM B pb F n u sv gv ov S gs fl st xs :=
  ⟨h.lk.keep hu, hs_keep h.blk hu, own_below h.sets hu, h.sF, own_below h.own hu, h.oF, h.pts.kept (Kept.of_below hu)⟩
theorem OfM.linked {B pb n : Nat} {F : Nat → Prop} {w u : World} {sv gv ov : Value} {S : List W4} {gs gs' : List Value} {fl fl' : List (List Int)} {st : List Rx} {xs : List Value} (h : OfM B pb F n w sv gv ov S gs fl st xs) (hu : Kept (fun k => gv.ownBlock = some k) w u) (hl : LkS F B pb gv n u gs' fl') : OfM B pb F n u sv gv ov S gs' fl' st xs :=
  ⟨hl, hu.blk h.blk (fun e => (h.lk.row _ e).2 rfl), own_kept h.sets hu (fun k e e' => (h.sF k e).2.2 e'), h.sF, own_kept h.own hu (fun k e e' => (h.oF k e).2.2.1 e'), h.oF, h.pts.kept (hu.mono fun k _ e => (h.lk.row k e).1)⟩
/-- one part more -/
theorem OfM.push {B pb n : Nat} {F : Nat → Prop} {u w' : World} {sv gv ov : Value} {S : List W4} {gs : List Value} {fl : List (List Int)} {st : List Rx} {xs : List Value} (h : OfM B pb F n u sv gv ov S gs fl st xs) {g cap : Nat} {t : Rx} {fv lv : Value} (hp : PtV F u fv lv (firstL t (nS st)) (lastL t (nS st)))
    (ho : w'.ownsRow B 117 3 (.slice (some ⟨g, 0, none⟩) (st.length + 1) cap) (st.length + 1) (xs ++ [.bool t.null, fv, lv])) (hg : u.grownBy w' ov.ownBlock) (hat : ov.ownBlock = some g ∨ g = u.heap.size) :
    OfM B pb (fun k => F k ∨ k = g) n w' sv gv (.slice (some ⟨g, 0, none⟩) (st.length + 1) cap) S gs fl (t :: st) (xs ++ [.bool t.null, fv, lv]) := by
  have hG : ∀ k, (F k ∨ k = g) → F k ∨ u.heap.size ≤ k := fun k hk => by
    rcases hk with hk | rfl
    · exact Or.inl hk
    · rcases hat with h1 | h1
      · exact Or.inl (h.oF k h1).1
      · exact Or.inr (Nat.le_of_eq h1.symm)
  have hk := Kept.of_grown hg
  have hgl := ho.lt g rfl
  have hlt : ∀ k, (F k ∨ k = g) → k < w'.heap.size := fun k hk' => by
    rcases hk' with hk' | rfl
    · exact Nat.lt_of_lt_of_le (h.lk.lt k hk') hk.size
    · exact hgl.2
  have hHG : ∀ k, ov.ownBlock = some k → (F k ∨ k = g) := fun k e => Or.inl (h.oF k e).1
  have hpb := h.lk.lt _ h.lk.inF
  have hkF : Kept (fun k => F k ∨ k = g) u w' := hk.mono fun k _ e => hHG k e
  refine ⟨h.lk.grow hG (fun k e => Or.inl e) hlt hk hHG (fun e => (h.oF _ e).2.1 rfl) (fun k e e' => (h.oF k e').2.2.1 e), hk.blk h.blk (fun e => (h.oF _ e).2.1 rfl), own_kept h.sets hk (fun k e e' => (h.oF k e').2.2.2 e), fun k e => ⟨Or.inl (h.sF k e).1, (h.sF k e).2⟩, ho, fun k e => ?_, ⟨xs, fv, lv, rfl, (h.pts.more hG).kept hkF, (hp.more hG).kept hkF⟩⟩
  · have e' : g = k := by injection e
    subst e'
    refine ⟨Or.inr rfl, ?_⟩
    rcases hat with h1 | h1
    · exact (h.oF g h1).2
    · refine ⟨fun e2 => by omega, fun e2 => ?_, fun e2 => ?_⟩
      · have := h.lk.lt _ (h.lk.row g e2).1; omega
      · have := h.lk.lt _ (h.sF g e2).1; omega
/-- one set more -/
theorem OfM.addSet {B pb n : Nat} {F : Nat → Prop} {u w' : World} {sv gv ov : Value} {S : List W4} {gs : List Value} {fl : List (List Int)} {st : List Rx} {xs : List Value} (h : OfM B pb F n u sv gv ov S gs fl st xs) {g cap : Nat} {T : W4}
    (ho : w'.ownsRow B 97 4 (.slice (some ⟨g, 0, none⟩) (S.length + 1) cap) (S.length + 1) (flatS S ++ [.int .u64 (T.a : Int), .int .u64 (T.b : Int), .int .u64 (T.c : Int), .int .u64 (T.d : Int)])) (hg : u.grownBy w' sv.ownBlock) (hat : sv.ownBlock = some g ∨ g = u.heap.size) :
    OfM B pb (fun k => F k ∨ k = g) n (w'.setCell ⟨pb, 0, none⟩ (.slice (some ⟨g, 0, none⟩) (S.length + 1) cap)) (.slice (some ⟨g, 0, none⟩) (S.length + 1) cap) gv ov (S ++ [T]) gs fl st xs := by
  have hG : ∀ k, (F k ∨ k = g) → F k ∨ u.heap.size ≤ k := fun k hk => by
    rcases hk with hk | rfl
    · exact Or.inl hk
    · rcases hat with h1 | h1
      · exact Or.inl (h.sF k h1).1
      · exact Or.inr (Nat.le_of_eq h1.symm)
  have hpb := h.lk.lt _ h.lk.inF
  have hgl := ho.lt g rfl
  have hgp : g ≠ pb := by
    rcases hat with h1 | h1
    · exact (h.sF g h1).2.1
    · omega
  have hk0 := Kept.of_grown hg
  have hk : Kept (fun k => sv.ownBlock = some k ∨ k = pb) u (w'.setCell ⟨pb, 0, none⟩ (.slice (some ⟨g, 0, none⟩) (S.length + 1) cap)) := (hk0.mono fun k _ e => Or.inl e).setCell fun _ => Or.inr rfl
  have hHG : ∀ k, (sv.ownBlock = some k ∨ k = pb) → (F k ∨ k = g) := fun k e => by
    rcases e with e | rfl
    · exact Or.inl (h.sF k e).1
    · exact Or.inl h.lk.inF
  have hkF : Kept (fun k => F k ∨ k = g) u (w'.setCell ⟨pb, 0, none⟩ (.slice (some ⟨g, 0, none⟩) (S.length + 1) cap)) := hk.mono fun k _ e => hHG k e
  have hb1 : (w'.setCell ⟨pb, 0, none⟩ (.slice (some ⟨g, 0, none⟩) (S.length + 1) cap)).heap[pb]? = some (.cells #[.slice (some ⟨g, 0, none⟩) (S.length + 1) cap, .bool false, nilV, nilV, gv] 91 (0, 0)) := heap_setCell (hk0.blk h.blk (fun e => (h.sF _ e).2.1 rfl))
  have hkp : Kept (oneBlk pb) w' (w'.setCell ⟨pb, 0, none⟩ (.slice (some ⟨g, 0, none⟩) (S.length + 1) cap)) := (Kept.refl _ _).setCell fun _ => rfl
  refine ⟨⟨Nat.le_trans h.lk.base hk.size, fun k hk' => ?_, fun k e => ⟨Or.inl (h.lk.row k e).1, (h.lk.row k e).2⟩, Or.inl h.lk.inF, blk_cell hb1 rfl, own_kept h.lk.own hk (fun k e e' => ?_), (h.lk.nums.more hG).kept hkF, h.lk.len, h.lk.n60, h.lk.good⟩, hb1, ?_, fun k e => ?_, own_kept h.own hk (fun k e e' => ?_), fun k e => ⟨Or.inl (h.oF k e).1, (h.oF k e).2.1, (h.oF k e).2.2.1, fun e' => ?_⟩, (h.pts.more hG).kept hkF⟩
  · rcases hk' with hk' | rfl
    · exact Nat.lt_of_lt_of_le (h.lk.lt k hk') hk.size
    · simpa using hgl.2
  · rcases e' with e' | e'
    · exact (h.sF k e').2.2 e
    · exact (h.lk.row k e).2 e'
  · have := own_kept ho hkp (fun k e e' => by have e2 : g = k := by injection e
                                              have e3 : k = pb := e'
                                              omega)
    unfold OwnS
    rw [flatS_app, List.length_append]
    exact this
  · have e' : g = k := by injection e
    subst e'
    refine ⟨Or.inr rfl, hgp, fun e2 => ?_⟩
    rcases hat with h1 | h1
    · exact (h.sF g h1).2.2 e2
    · have := h.lk.lt _ (h.lk.row g e2).1; omega
  · rcases e' with e' | e'
    · exact (h.oF k e).2.2.2 e'
    · exact (h.oF k e).2.1 e'
  · have e2 : g = k := by injection e'
    subst e2
    rcases hat with h1 | h1
    · exact (h.oF g e).2.2.2 h1
    · have := h.lk.lt _ (h.oF g e).1; omega
/-- one more that nothing stands behind -/
theorem OfM.addFol {B pb n : Nat} {F : Nat → Prop} {u w' : World} {sv gv ov : Value} {S : List W4} {gs : List Value} {fl : List (List Int)} {st : List Rx} {xs : List Value} (h : OfM B pb F n u sv gv ov S gs fl st xs) (hn : n + 1 ≤ 60) {g cap : Nat}
    (ho : w'.ownsRow B 23 1 (.slice (some ⟨g, 0, none⟩) (gs.length + 1) cap) (gs.length + 1) (gs ++ [nilV])) (hg : u.grownBy w' gv.ownBlock) (hat : gv.ownBlock = some g ∨ g = u.heap.size) :
    OfM B pb (fun k => F k ∨ k = g) (n + 1) (w'.setCell ⟨pb, 4, none⟩ (.slice (some ⟨g, 0, none⟩) (gs.length + 1) cap)) sv (.slice (some ⟨g, 0, none⟩) (gs.length + 1) cap) ov S (gs ++ [nilV]) (fl ++ [[]]) st xs := by
  have hG : ∀ k, (F k ∨ k = g) → F k ∨ u.heap.size ≤ k := fun k hk => by
    rcases hk with hk | rfl
    · exact Or.inl hk
    · rcases hat with h1 | h1
      · exact Or.inl (h.lk.row k h1).1
      · exact Or.inr (Nat.le_of_eq h1.symm)
  have hpb := h.lk.lt _ h.lk.inF
  have hgl := ho.lt g rfl
  have hgp : g ≠ pb := by
    rcases hat with h1 | h1
    · exact (h.lk.row g h1).2
    · omega
  have hk0 := Kept.of_grown hg
  have hk : Kept (fun k => gv.ownBlock = some k ∨ k = pb) u (w'.setCell ⟨pb, 4, none⟩ (.slice (some ⟨g, 0, none⟩) (gs.length + 1) cap)) := (hk0.mono fun k _ e => Or.inl e).setCell fun _ => Or.inr rfl
  have hHG : ∀ k, (gv.ownBlock = some k ∨ k = pb) → (F k ∨ k = g) := fun k e => by
    rcases e with e | rfl
    · exact Or.inl (h.lk.row k e).1
    · exact Or.inl h.lk.inF
  have hkF : Kept (fun k => F k ∨ k = g) u (w'.setCell ⟨pb, 4, none⟩ (.slice (some ⟨g, 0, none⟩) (gs.length + 1) cap)) := hk.mono fun k _ e => hHG k e
  have hb1 : (w'.setCell ⟨pb, 4, none⟩ (.slice (some ⟨g, 0, none⟩) (gs.length + 1) cap)).heap[pb]? = some (.cells #[sv, .bool false, nilV, nilV, .slice (some ⟨g, 0, none⟩) (gs.length + 1) cap] 91 (0, 0)) := heap_setCell (hk0.blk h.blk (fun e => (h.lk.row _ e).2 rfl))
  have hkp : Kept (oneBlk pb) w' (w'.setCell ⟨pb, 4, none⟩ (.slice (some ⟨g, 0, none⟩) (gs.length + 1) cap)) := (Kept.refl _ _).setCell fun _ => rfl
  have hl1 : (gs ++ [nilV]).length = gs.length + 1 := by simp
  refine ⟨⟨Nat.le_trans h.lk.base hk.size, fun k hk' => ?_, fun k e => ?_, Or.inl h.lk.inF, blk_cell hb1 rfl, ?_, ((h.lk.nums.more hG).kept hkF).snoc (Nums.nil _) (Off.nil _), by rw [hl1, h.lk.len], hn, fun j => ?_⟩, hb1, own_kept h.sets hk (fun k e e' => ?_), fun k e => ⟨Or.inl (h.sF k e).1, (h.sF k e).2.1, fun e' => ?_⟩, own_kept h.own hk (fun k e e' => ?_), fun k e => ⟨Or.inl (h.oF k e).1, (h.oF k e).2.1, fun e' => ?_, (h.oF k e).2.2.2⟩, (h.pts.more hG).kept hkF⟩
  · rcases hk' with hk' | rfl
    · exact Nat.lt_of_lt_of_le (h.lk.lt k hk') hk.size
    · simpa using hgl.2
  · have e' : g = k := by injection e
    subst e'
    exact ⟨Or.inr rfl, hgp⟩
  · rw [hl1]
    exact own_kept ho hkp (fun k e e' => by have e2 : g = k := by injection e
                                            have e3 : k = pb := e'
                                            omega)
  · rw [getD_snoc]
    split
    · exact ⟨List.Pairwise.nil, fun x hx => absurd hx (List.not_mem_nil)⟩
    · exact ⟨(h.lk.good j).1, fun x hx => by have := (h.lk.good j).2 x hx; omega⟩
  · rcases e' with e' | e'
    · exact (h.sF k e).2.2 e'
    · exact (h.sF k e).2.1 e'
  · have e2 : g = k := by injection e'
    subst e2
    rcases hat with h1 | h1
    · exact (h.sF g e).2.2 h1
    · have := h.lk.lt _ (h.sF g e).1; omega
  · rcases e' with e' | e'
    · exact (h.oF k e).2.2.1 e'
    · exact (h.oF k e).2.1 e'
  · have e2 : g = k := by injection e'
    subst e2
    rcases hat with h1 | h1
    · exact (h.oF g e).2.2.1 h1
    · have := h.lk.lt _ (h.oF g e).1; omega
/-- the first of them -/
theorem OfM.cut {B pb n : Nat} {F : Nat → Prop} {w : World} {sv gv : Value} {S : List W4} {gs : List Value} {fl : List (List Int)} {st r : List Rx} {xs ys : List Value} {g m cap : Nat} (h : OfM B pb F n w sv gv (.slice (some ⟨g, 0, none⟩) m cap) S gs fl st xs) (hm : m = st.length) (hr : r.length ≤ st.length) (hy : xs.take (r.length * 3) = ys) (hp : PtS F w r ys) :
    OfM B pb F n w sv gv (.slice (some ⟨g, 0, none⟩) r.length cap) S gs fl r ys := by
  subst hm
  refine ⟨h.lk, h.blk, h.sets, h.sF, ?_, h.oF, hp⟩
  have := own_cut h.own r.length hr
  rw [hy] at this
  exact this
/-- the last of them anew -/
theorem OfM.put {B pb n : Nat} {F : Nat → Prop} {w : World} {sv gv : Value} {S : List W4} {gs : List Value} {fl : List (List Int)} {a t : Rx} {r : List Rx} {ys : List Value} {x0 x1 x2 fv lv : Value} {g cap : Nat} (h : OfM B pb F n w sv gv (.slice (some ⟨g, 0, none⟩) (r.length + 1) cap) S gs fl (a :: r) (ys ++ [x0, x1, x2])) (hl : ys.length = r.length * 3) (hr : PtS F w r ys) (hp : PtV F w fv lv (firstL t (nS r)) (lastL t (nS r))) :
    OfM B pb F n (((w.setCell ⟨g, r.length * 3, none⟩ (.bool t.null)).setCell ⟨g, r.length * 3 + 1, none⟩ fv).setCell ⟨g, r.length * 3 + 2, none⟩ lv) sv gv (.slice (some ⟨g, 0, none⟩) (r.length + 1) cap) S gs fl (t :: r) (ys ++ [.bool t.null, fv, lv]) := by
  have hx : (((ys ++ [x0, x1, x2]).set (r.length * 3) (.bool t.null)).set (r.length * 3 + 1) fv).set (r.length * 3 + 2) lv = ys ++ [.bool t.null, fv, lv] := by
    rw [← hl, List.set_append_right _ _ (by omega), List.set_append_right _ _ (by omega), List.set_append_right _ _ (by omega)]
    simp
  have h0 : w.ownsRow B 117 3 (.slice (some ⟨g, 0, none⟩) (r.length + 1) cap) (r.length + 1) (ys ++ [x0, x1, x2]) := h.own
  have h1 := h0.stored (r.length * 3) (.bool t.null)
  have h2 := h1.1.stored (r.length * 3 + 1) fv
  have h3 := h2.1.stored (r.length * 3 + 2) lv
  rw [hx] at h3
  have hg := h.oF g rfl
  have hk : Kept (oneBlk g) w (((w.setCell ⟨g, r.length * 3, none⟩ (.bool t.null)).setCell ⟨g, r.length * 3 + 1, none⟩ fv).setCell ⟨g, r.length * 3 + 2, none⟩ lv) := (((Kept.refl (oneBlk g) w).setCell (a := ⟨g, r.length * 3, none⟩) (v := .bool t.null) fun _ => show oneBlk g g from rfl).setCell (a := ⟨g, r.length * 3 + 1, none⟩) (v := fv) fun _ => show oneBlk g g from rfl).setCell (a := ⟨g, r.length * 3 + 2, none⟩) (v := lv) fun _ => show oneBlk g g from rfl
  have hkF : Kept F w (((w.setCell ⟨g, r.length * 3, none⟩ (.bool t.null)).setCell ⟨g, r.length * 3 + 1, none⟩ fv).setCell ⟨g, r.length * 3 + 2, none⟩ lv) := hk.mono fun k _ e => by have e' : k = g := e; rw [e']; exact hg.1
  refine ⟨h.lk.grow (H := oneBlk g) (fun k e => Or.inl e) (fun k e => e) (fun k e => Nat.lt_of_lt_of_le (h.lk.lt k e) hk.size) hk (fun k e => by have e' : k = g := e; rw [e']; exact hg.1) (fun e => hg.2.1 e.symm) (fun k e e' => by have e2 : k = g := e'; rw [e2] at e; exact hg.2.2.1 e), hk.blk h.blk (fun e => hg.2.1 e.symm), own_kept h.sets hk (fun k e e' => by have e2 : k = g := e'; rw [e2] at e; exact hg.2.2.2 e), h.sF, h3.1, h.oF, ⟨ys, fv, lv, rfl, hr.kept hkF, hp.kept hkF⟩⟩

end Go.Proofs.YtjelgphhlcecoaaGreatDoor
