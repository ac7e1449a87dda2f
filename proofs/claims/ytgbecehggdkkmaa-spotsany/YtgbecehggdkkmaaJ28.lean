/- spots.joined. spots.joined. -/
import Derived.Test.YtgbecehggdkkmaaJ27
namespace Go.Proofs.Ytgbecehggdkkmaa
open Go.RowKit

set_option maxRecDepth 20000 in
set_option maxHeartbeats 4000000 in
theorem joinedCat (F : Nat → Prop) (B pb n : Nat) (gv fa la fb lb : Value) (na nb : Bool) (lfa lla lfb llb : List Int) (gs : List Value) (fl : List (List Int)) (w : World)
    (hS : LkS F B pb gv n w gs fl) (hA : PtV F w fa la lfa lla) (hB : PtV F w fb lb lfb llb) (hlla : InN lla n) (h1 : lla.length ≤ 60) (hlfb : InN lfb n) (h2 : lfb.length ≤ 60) (h3 : lfa.length ≤ 60) (h4 : llb.length ≤ 60) :
    Calls Try.prog 20 #[.int .i64 3, .agg #[.bool na, fa, la], .agg #[.bool nb, fb, lb], .func (.func 17) #[] #[.pointer (some ⟨pb, 0, none⟩)]] w fun e w' => ∃ fv lv, e = .returned (.agg #[.bool (na && nb), fv, lv]) ∧
      PtV F w' fv lv (if na then unionL lfa lfb else lfa) (if nb then unionL lla llb else llb) ∧ (∃ gs', LkS F B pb gv n w' gs' (linkL fl lfb lla)) ∧ Kept (fun k => gv.ownBlock = some k) w w' := by
  have hlt := hid hS.lt
  have hrow := hid hS.row
  have hin := hid hS.inF
  have hnb : Hid (∀ k, w.heap.size ≤ k → ¬ gv.ownBlock = some k) := hid (fun k hk e => by have := hlt.out k (hrow.out k e).1; omega)
  obtain ⟨fa1, fa2, rfl⟩ : ∃ a c, fa = .slice a lfa.length c := by obtain ⟨a, c, e, _⟩ := hA.first; exact ⟨a, c, e⟩
  obtain ⟨la1, la2, rfl⟩ : ∃ a c, la = .slice a lla.length c := by obtain ⟨a, c, e, _⟩ := hA.last; exact ⟨a, c, e⟩
  obtain ⟨fb1, fb2, rfl⟩ : ∃ a c, fb = .slice a lfb.length c := by obtain ⟨a, c, e, _⟩ := hB.first; exact ⟨a, c, e⟩
  obtain ⟨lb1, lb2, rfl⟩ : ∃ a c, lb = .slice a llb.length c := by obtain ⟨a, c, e, _⟩ := hB.last; exact ⟨a, c, e⟩
  obtain ⟨W0, hW0⟩ : ∃ W0, W0 = ((w.alloc (.cells #[.bool na, .slice fa1 lfa.length fa2, .slice la1 lla.length la2] 48)).alloc (.cells #[.bool nb, .slice fb1 lfb.length fb2, .slice lb1 llb.length lb2] 48)).alloc (.cells #[.bool false, .slice none 0 0, .slice none 0 0] 48) := ⟨_, rfl⟩
  have hb0 : Below w.heap.size w W0 := by rw [hW0]; exact bl_step (bl_step (al' w _) (al' _ _)) (al' _ _)
  have hs0 : W0.heap.size = w.heap.size + 3 := by rw [hW0]; simp
  have hblk : W0.heap[w.heap.size]? = some (.cells #[.bool na, .slice fa1 lfa.length fa2, .slice la1 lla.length la2] 48) ∧ W0.heap[w.heap.size + 1]? = some (.cells #[.bool nb, .slice fb1 lfb.length fb2, .slice lb1 llb.length lb2] 48) ∧ W0.heap[w.heap.size + 2]? = some (.cells #[.bool false, .slice none 0 0, .slice none 0 0] 48) := by rw [hW0]; exact three_blocks w _ _ _
  have hFx : ∀ k, Fx F w.heap.size k → F k ∨ w.heap.size ≤ k := fun k hk => by
    rcases hk with hk | hk
    · exact Or.inl hk
    · exact Or.inr hk.1
  have GT := hid (inTurnC (Fx F w.heap.size) B pb n gv _ _ _ _ na nb lfa lla lfb llb gs fl W0 (hS.more hb0 (by omega)) ((hA.more hFx).keep hb0) ((hB.more hFx).keep hb0) hlla h1 hlfb h2 h3 h4)
  have hK : Hid (∀ w1, Kept (fun k => gv.ownBlock = some k) W0 w1 → w1.heap[w.heap.size + 2]? = some (.cells #[.bool false, .slice none 0 0, .slice none 0 0] 48) ∧ Kept (fun k => gv.ownBlock = some k) w w1) := hid (fun w1 K1 => ⟨K1.blk hblk.2.2 (hnb.out _ (by omega)), (Kept.of_below hb0).step K1 (fun k hk e => e)⟩)
  have hend : Hid (∀ w1 u, Kept (oneBlk (w.heap.size + 2)) w1 u → Kept (fun k => gv.ownBlock = some k) w w1 → (∃ gs', LkS (Fx F w.heap.size) B pb gv n w1 gs' (linkL fl lfb lla)) → (∃ gs', LkS F B pb gv n u gs' (linkL fl lfb lla)) ∧ Kept (fun k => gv.ownBlock = some k) w u) := hid (fun w1 u h1 h2 ⟨gs', h3⟩ => ⟨⟨gs', h3.less hlt.out (fun k e => (hrow.out k e).1) hin.out (by omega) (by omega) h1⟩, h2.step h1 (fun k hk e => by have e' : k = w.heap.size + 2 := e; omega)⟩)
  have hsub : Hid (∀ v, Off (Fx F w.heap.size) v → Off F v) := hid (fun v h => h.sub fun k e => Or.inl e)
  have hone : Hid (∀ v, Off (Fx F w.heap.size) v → Off (oneBlk (w.heap.size + 2)) v) := hid (fun v h => h.sub fun k e => Or.inr (by have e' : k = w.heap.size + 2 := e; omega))
  obtain ⟨⟨a0, a1, a2, -⟩, ⟨b0, b1, b2, -⟩⟩ := And.intro (cells3p hblk.1) (cells3p hblk.2.1)
  clear hS hA hB hblk hFx
  subst hW0
  generalize (if na then unionL lfa lfb else lfa) = rf at GT ⊢
  generalize (if nb then unionL lla llb else llb) = rl at GT ⊢
  generalize (na && nb) = rn at GT ⊢
  go_enter Try.func20, Try.ntmps20
  go_wp2_with (go_at_call 43; refine GT.out.mono ?_; rintro e w1 ⟨fv, lv, rfl, pR, hS1, K1⟩; obtain ⟨xa, xc, rfl, hx1⟩ := id pR.first; obtain ⟨ya, yc, rfl, hx2⟩ := id pR.last; clear hx1 hx2; obtain ⟨q3, K2⟩ := hK.out w1 K1; obtain ⟨z0, z1, z2, z3, z4, z5⟩ := cells3p q3)
  have hfb : (put3 w1 (w.heap.size + 2) (.bool rn) (.slice xa rf.length xc) (.slice ya rl.length yc)).heap[w.heap.size + 2]? = some (.cells #[.bool rn, .slice xa rf.length xc, .slice ya rl.length yc] 48) := put3_blk q3
  obtain ⟨r0, r1, r2, -, -, -⟩ := cells3p hfb
  have hKf : Kept (oneBlk (w.heap.size + 2)) w1 (put3 w1 (w.heap.size + 2) (.bool rn) (.slice xa rf.length xc) (.slice ya rl.length yc)) := put3_kept (Kept.refl _ _) rfl
  obtain ⟨e1, e2⟩ := hend.out w1 _ hKf K2 hS1
  unfold put3 at r0 r1 r2
  exact bodyPost_ret (v := .agg #[.bool rn, .slice xa rf.length xc, .slice ya rl.length yc]) (by simp [results, Try.results20, go_sem, r0, r1, r2]) rfl ⟨_, _, rfl, ⟨pR.first.kept hKf (hone.out _ pR.offF), hsub.out _ pR.offF, pR.last.kept hKf (hone.out _ pR.offL), hsub.out _ pR.offL⟩, e1, e2⟩

end Go.Proofs.Ytgbecehggdkkmaa
namespace Go.Proofs.Ytgbecehggdkkmaa
open Go.RowKit

set_option maxRecDepth 20000 in
set_option maxHeartbeats 4000000 in
theorem joinedOr (F : Nat → Prop) (fa la fb lb lk : Value) (na nb : Bool) (lfa lla lfb llb : List Int) (w : World) (hF : ∀ k, F k → k < w.heap.size)
    (hA : PtV F w fa la lfa lla) (hB : PtV F w fb lb lfb llb) (h1 : lla.length ≤ 60) (h2 : lfb.length ≤ 60) (h3 : lfa.length ≤ 60) (h4 : llb.length ≤ 60) :
    Calls Try.prog 20 #[.int .i64 4, .agg #[.bool na, fa, la], .agg #[.bool nb, fb, lb], lk] w fun e w' => ∃ fv lv, e = .returned (.agg #[.bool (na || nb), fv, lv]) ∧
      PtV F w' fv lv (unionL lfa lfb) (unionL lla llb) ∧ Below w.heap.size w w' := by
  have GU := hid (fun va vb (la lb : List Int) u (h1 : la.length ≤ 60) (h2 : lb.length ≤ 60) hA hB => setsUnion va vb la lb u (by omega) (by omega) hA hB)
  obtain ⟨fa1, fa2, rfl⟩ : ∃ a c, fa = .slice a lfa.length c := by obtain ⟨a, c, e, _⟩ := hA.first; exact ⟨a, c, e⟩
  obtain ⟨la1, la2, rfl⟩ : ∃ a c, la = .slice a lla.length c := by obtain ⟨a, c, e, _⟩ := hA.last; exact ⟨a, c, e⟩
  obtain ⟨fb1, fb2, rfl⟩ : ∃ a c, fb = .slice a lfb.length c := by obtain ⟨a, c, e, _⟩ := hB.first; exact ⟨a, c, e⟩
  obtain ⟨lb1, lb2, rfl⟩ : ∃ a c, lb = .slice a llb.length c := by obtain ⟨a, c, e, _⟩ := hB.last; exact ⟨a, c, e⟩
  obtain ⟨W0, hW0⟩ : ∃ W0, W0 = ((w.alloc (.cells #[.bool na, .slice fa1 lfa.length fa2, .slice la1 lla.length la2] 48)).alloc (.cells #[.bool nb, .slice fb1 lfb.length fb2, .slice lb1 llb.length lb2] 48)).alloc (.cells #[.bool false, .slice none 0 0, .slice none 0 0] 48) := ⟨_, rfl⟩
  have hb0 : Below w.heap.size w W0 := by rw [hW0]; exact bl_step (bl_step (al' w _) (al' _ _)) (al' _ _)
  have hs0 : W0.heap.size = w.heap.size + 3 := by rw [hW0]; simp
  have hblk : W0.heap[w.heap.size]? = some (.cells #[.bool na, .slice fa1 lfa.length fa2, .slice la1 lla.length la2] 48) ∧ W0.heap[w.heap.size + 1]? = some (.cells #[.bool nb, .slice fb1 lfb.length fb2, .slice lb1 llb.length lb2] 48) ∧ W0.heap[w.heap.size + 2]? = some (.cells #[.bool false, .slice none 0 0, .slice none 0 0] 48) := by rw [hW0]; exact three_blocks w _ _ _
  have hC : Hid (∀ u, Below W0.heap.size W0 u → (u.heap[w.heap.size]? = some (.cells #[.bool na, .slice fa1 lfa.length fa2, .slice la1 lla.length la2] 48) ∧ u.heap[w.heap.size + 1]? = some (.cells #[.bool nb, .slice fb1 lfb.length fb2, .slice lb1 llb.length lb2] 48) ∧ u.heap[w.heap.size + 2]? = some (.cells #[.bool false, .slice none 0 0, .slice none 0 0] 48)) ∧ PtV F u (.slice fa1 lfa.length fa2) (.slice la1 lla.length la2) lfa lla ∧ PtV F u (.slice fb1 lfb.length fb2) (.slice lb1 llb.length lb2) lfb llb ∧ Below w.heap.size w u ∧ w.heap.size + 3 ≤ u.heap.size) := hid (fun u hu => ⟨⟨hs_keep hblk.1 hu, hs_keep hblk.2.1 hu, hs_keep hblk.2.2 hu⟩, (hA.keep hb0).keep hu, (hB.keep hb0).keep hu, bl_step hb0 hu, by have := hu.size; omega⟩)
  have hF := hid hF
  have hfin : Hid (∀ u vA vB, Own u W0.heap.size vA (unionL lfa lfb) → Own u W0.heap.size vB (unionL lla llb) → Below W0.heap.size W0 u → PtV F (put3 u (w.heap.size + 2) (.bool (na || nb)) vA vB) vA vB (unionL lfa lfb) (unionL lla llb) ∧ Below w.heap.size w (put3 u (w.heap.size + 2) (.bool (na || nb)) vA vB)) := hid (fun u vA vB hA' hB' hu => by
    have hk : Kept (oneBlk (w.heap.size + 2)) u (put3 u (w.heap.size + 2) (.bool (na || nb)) vA vB) := put3_kept (Kept.refl _ _) rfl
    have ho : ∀ k, oneBlk (w.heap.size + 2) k → k < W0.heap.size := fun k e => by have e' : k = w.heap.size + 2 := e; omega
    have hf : ∀ k, F k → k < W0.heap.size := fun k e => by have := hF.out k e; omega
    refine ⟨⟨(Nums.of_row hA').kept hk (Off.new hA' ho), Off.new hA' hf, (Nums.of_row hB').kept hk (Off.new hB' ho), Off.new hB' hf⟩, ?_⟩
    exact ((Kept.of_below (F := oneBlk (w.heap.size + 2)) (bl_step hb0 hu)).step hk (fun k _ h => h)).below (fun k e => by have e' : k = w.heap.size + 2 := e; omega) (Nat.le_refl _))
  have hbd := hid ((Below.refl W0.heap.size W0).drew)
  obtain ⟨⟨q1, q2, q3⟩, -, -, -, -⟩ := hC.out W0.drew hbd.out
  obtain ⟨a0, a1, a2, -, -, -⟩ := cells3p q1
  obtain ⟨b0, b1, b2, -, -, -⟩ := cells3p q2
  obtain ⟨z0, z1, z2, z3, z4, z5⟩ := cells3p q3
  clear hA hB hblk q1 q2 q3 hb0
  subst hW0
  go_enter Try.func20, Try.ntmps20
  go_wp2_with fail
  have hset : Hid (∀ (u : World) y0 y1 y2, u.heap[w.heap.size]? = some (.cells #[.bool na, .slice fa1 lfa.length fa2, .slice la1 lla.length la2] 48) → u.heap[w.heap.size + 1]? = some (.cells #[.bool nb, .slice fb1 lfb.length fb2, .slice lb1 llb.length lb2] 48) →
      (((((u.setCell ⟨w.heap.size + 1 + 1, 0, none⟩ y0).setCell ⟨w.heap.size + 1 + 1, 1, none⟩ y1).setCell ⟨w.heap.size + 1 + 1, 2, none⟩ y2).heap[w.heap.size]? = some (.cells #[.bool na, .slice fa1 lfa.length fa2, .slice la1 lla.length la2] 48)) ∧ (((u.setCell ⟨w.heap.size + 1 + 1, 0, none⟩ y0).setCell ⟨w.heap.size + 1 + 1, 1, none⟩ y1).setCell ⟨w.heap.size + 1 + 1, 2, none⟩ y2).heap[w.heap.size + 1]? = some (.cells #[.bool nb, .slice fb1 lfb.length fb2, .slice lb1 llb.length lb2] 48))) := hid (fun u y0 y1 y2 h1 h2 => ⟨hs_set (hs_set (hs_set h1 (by omega)) (by omega)) (by omega), hs_set (hs_set (hs_set h2 (by omega)) (by omega)) (by omega)⟩)
  cases na with
  | true =>
    refine wp_region_held_drew (S := (fun w' => w'.cell? ⟨w.heap.size, 0, none⟩ = some (.bool true) ∧ w'.cell? ⟨w.heap.size, 1, none⟩ = some (.slice fa1 lfa.length fa2) ∧ w'.cell? ⟨w.heap.size, 2, none⟩ = some (.slice la1 lla.length la2) ∧ w'.cell? ⟨w.heap.size + 1, 0, none⟩ = some (.bool nb) ∧ w'.cell? ⟨w.heap.size + 1, 1, none⟩ = some (.slice fb1 lfb.length fb2) ∧ w'.cell? ⟨w.heap.size + 1, 2, none⟩ = some (.slice lb1 llb.length lb2))) (by kernel_rfl) ⟨a0, a1, a2, b0, b1, b2⟩ (fun hHeld => ?_)
    refine wpAnyH_take (i := 0) (oi := { dst := some 15, op := .fieldAddr 48 (.tmp 5) 0, type := 0, pos := "spots.go:79", after := #[], guard := none }) (v := ?_) rfl (by kernel_rfl) (by kernel_rfl) (by kernel_rfl) (fun _ _ _ h => h) (Or.inl ⟨by rfl, ?_⟩) (by assumption) ?_
    rotate_left
    · (intro w hSw; (try dsimp only at hSw); go_simp; try with_reducible rfl)
    try simp only [Act.put, List.setIfInBounds_toArray, List.set_cons_zero, List.set_cons_succ]
    refine wpAnyH_take (i := 1) (oi := { dst := some 16, op := .load 4 (.tmp 15), type := 4, pos := "spots.go:79", after := #[{ on := 0, ground := .data }], guard := none }) (v := ?_) rfl (by kernel_rfl) (by kernel_rfl) (by kernel_rfl) (fun _ _ _ h => h) (Or.inl ⟨by rfl, ?_⟩) (by assumption) ?_
    rotate_left
    · (intro w hSw; (try dsimp only at hSw); go_simp; try with_reducible rfl)
    try simp only [Act.put, List.setIfInBounds_toArray, List.set_cons_zero, List.set_cons_succ]
    refine wpAnyH_take (i := 2) (oi := { dst := some 17, op := .move (.tmp 16), type := 4, pos := "spots.go:79", after := #[{ on := 1, ground := .data }], guard := none }) (v := ?_) rfl (by kernel_rfl) (by kernel_rfl) (by kernel_rfl) (fun _ _ _ h => h) (Or.inl ⟨by rfl, ?_⟩) (by assumption) ?_
    rotate_left
    · (intro w hSw; (try dsimp only at hSw); go_simp; try with_reducible rfl)
    try simp only [Act.put, List.setIfInBounds_toArray, List.set_cons_zero, List.set_cons_succ]
    refine wpAnyH_take (i := 3) (oi := { dst := some 18, op := .fieldAddr 48 (.tmp 6) 0, type := 0, pos := "spots.go:79", after := #[{ on := 2, ground := .guard }], guard := some (2, false) }) (v := undef) rfl (by kernel_rfl) (by kernel_rfl) (by kernel_rfl) (fun _ _ _ h => h) (Or.inr ⟨by rfl, rfl⟩) (by assumption) ?_
    try simp only [Act.put, List.setIfInBounds_toArray, List.set_cons_zero, List.set_cons_succ]
    refine wpAnyH_take (i := 4) (oi := { dst := some 19, op := .load 4 (.tmp 18), type := 4, pos := "spots.go:79", after := #[{ on := 3, ground := .data }, { on := 2, ground := .guard }], guard := some (2, false) }) (v := undef) rfl (by kernel_rfl) (by kernel_rfl) (by kernel_rfl) (fun _ _ _ h => h) (Or.inr ⟨by rfl, rfl⟩) (by assumption) ?_
    try simp only [Act.put, List.setIfInBounds_toArray, List.set_cons_zero, List.set_cons_succ]
    refine wpAnyH_take (i := 5) (oi := { dst := some 20, op := .pick (.tmp 17) (.const (.bool true)) (.tmp 19), type := 4, pos := "spots.go:79", after := #[{ on := 2, ground := .data }, { on := 4, ground := .data }], guard := none }) (v := ?_) rfl (by kernel_rfl) (by kernel_rfl) (by kernel_rfl) (fun _ _ _ h => h) (Or.inl ⟨by rfl, ?_⟩) (by assumption) ?_
    rotate_left
    · (intro w hSw; (try dsimp only at hSw); go_simp; try with_reducible rfl)
    try simp only [Act.put, List.setIfInBounds_toArray, List.set_cons_zero, List.set_cons_succ]
    refine wpAnyH_take (i := 6) (oi := { dst := some 21, op := .fieldAddr 48 (.tmp 5) 1, type := 0, pos := "spots.go:79", after := #[], guard := none }) (v := ?_) rfl (by kernel_rfl) (by kernel_rfl) (by kernel_rfl) (fun _ _ _ h => h) (Or.inl ⟨by rfl, ?_⟩) (by assumption) ?_
    rotate_left
    · (intro w hSw; (try dsimp only at hSw); go_simp; try with_reducible rfl)
    try simp only [Act.put, List.setIfInBounds_toArray, List.set_cons_zero, List.set_cons_succ]
    refine wpAnyH_take (i := 7) (oi := { dst := some 22, op := .load 24 (.tmp 21), type := 24, pos := "spots.go:79", after := #[{ on := 6, ground := .data }], guard := none }) (v := ?_) rfl (by kernel_rfl) (by kernel_rfl) (by kernel_rfl) (fun _ _ _ h => h) (Or.inl ⟨by rfl, ?_⟩) (by assumption) ?_
    rotate_left
    · (intro w hSw; (try dsimp only at hSw); go_simp; try with_reducible rfl)
    try simp only [Act.put, List.setIfInBounds_toArray, List.set_cons_zero, List.set_cons_succ]
    refine wpAnyH_take (i := 8) (oi := { dst := some 23, op := .fieldAddr 48 (.tmp 6) 1, type := 0, pos := "spots.go:79", after := #[], guard := none }) (v := ?_) rfl (by kernel_rfl) (by kernel_rfl) (by kernel_rfl) (fun _ _ _ h => h) (Or.inl ⟨by rfl, ?_⟩) (by assumption) ?_
    rotate_left
    · (intro w hSw; (try dsimp only at hSw); go_simp; try with_reducible rfl)
    try simp only [Act.put, List.setIfInBounds_toArray, List.set_cons_zero, List.set_cons_succ]
    refine wpAnyH_take (i := 9) (oi := { dst := some 24, op := .load 24 (.tmp 23), type := 24, pos := "spots.go:79", after := #[{ on := 8, ground := .data }], guard := none }) (v := ?_) rfl (by kernel_rfl) (by kernel_rfl) (by kernel_rfl) (fun _ _ _ h => h) (Or.inl ⟨by rfl, ?_⟩) (by assumption) ?_
    rotate_left
    · (intro w hSw; (try dsimp only at hSw); go_simp; try with_reducible rfl)
    try simp only [Act.put, List.setIfInBounds_toArray, List.set_cons_zero, List.set_cons_succ]
    refine wpAnyH_take (i := 11) (oi := { dst := some 26, op := .fieldAddr 48 (.tmp 5) 2, type := 0, pos := "spots.go:79", after := #[], guard := none }) (v := ?_) rfl (by kernel_rfl) (by kernel_rfl) (by kernel_rfl) (fun _ _ _ h => h) (Or.inl ⟨by rfl, ?_⟩) (by assumption) ?_
    rotate_left
    · (intro w hSw; (try dsimp only at hSw); go_simp; try with_reducible rfl)
    try simp only [Act.put, List.setIfInBounds_toArray, List.set_cons_zero, List.set_cons_succ]
    refine wpAnyH_take (i := 12) (oi := { dst := some 27, op := .load 24 (.tmp 26), type := 24, pos := "spots.go:79", after := #[{ on := 11, ground := .data }], guard := none }) (v := ?_) rfl (by kernel_rfl) (by kernel_rfl) (by kernel_rfl) (fun _ _ _ h => h) (Or.inl ⟨by rfl, ?_⟩) (by assumption) ?_
    rotate_left
    · (intro w hSw; (try dsimp only at hSw); go_simp; try with_reducible rfl)
    try simp only [Act.put, List.setIfInBounds_toArray, List.set_cons_zero, List.set_cons_succ]
    refine wpAnyH_take (i := 13) (oi := { dst := some 28, op := .fieldAddr 48 (.tmp 6) 2, type := 0, pos := "spots.go:79", after := #[], guard := none }) (v := ?_) rfl (by kernel_rfl) (by kernel_rfl) (by kernel_rfl) (fun _ _ _ h => h) (Or.inl ⟨by rfl, ?_⟩) (by assumption) ?_
    rotate_left
    · (intro w hSw; (try dsimp only at hSw); go_simp; try with_reducible rfl)
    try simp only [Act.put, List.setIfInBounds_toArray, List.set_cons_zero, List.set_cons_succ]
    refine wpAnyH_take (i := 14) (oi := { dst := some 29, op := .load 24 (.tmp 28), type := 24, pos := "spots.go:79", after := #[{ on := 13, ground := .data }], guard := none }) (v := ?_) rfl (by kernel_rfl) (by kernel_rfl) (by kernel_rfl) (fun _ _ _ h => h) (Or.inl ⟨by rfl, ?_⟩) (by assumption) ?_
    rotate_left
    · (intro w hSw; (try dsimp only at hSw); go_simp; try with_reducible rfl)
    try simp only [Act.put, List.setIfInBounds_toArray, List.set_cons_zero, List.set_cons_succ]
    refine wpAnyH_ready (rs := [10]) (by kernel_rfl) (by simp) ?_
    refine AllReadyH.cons (o := { dst := some 25, op := .call { callee := .value (.func 18), args := #[.tmp 22, .tmp 24], argTypes := #[24, 24] }, type := 24, pos := "spots.go:79", after := #[{ on := 7, ground := .data }, { on := 9, ground := .data }, { on := 2, ground := .chain }], guard := none }) rfl (fun K hK => ?_) AllReadyH.nil
    obtain ⟨-, pa, pb, -, -⟩ := hC.out _ hbd.out
    refine step_call (by rfl) 18 #[.slice fa1 lfa.length fa2, .slice fb1 lfb.length fb2] (by (go_simp; done)) (GU.out _ _ lfa lfb _ h3 h2 pa.first pb.first) ?_
    rintro e wA ⟨vA, rfl, hOA, hbA0⟩
    have hbA := bl_step hbd.out hbA0
    obtain ⟨xa, xc, rfl, hx1⟩ := id (Nums.of_row hOA)
    clear hx1 pa pb
    obtain ⟨⟨m1, m2, m3⟩, pa, pb, -, -⟩ := hC.out _ hbA
    obtain ⟨c0, c1, c2, -, -, -⟩ := cells3p m1
    obtain ⟨d0, d1, d2, -, -, -⟩ := cells3p m2
    refine ⟨_, rfl, hK.out _ _ ⟨c0, c1, c2, d0, d1, d2⟩ (fun hHeld2 => ?_)⟩
    clear hK K hHeld
    try simp only [Act.put, List.setIfInBounds_toArray, List.set_cons_zero, List.set_cons_succ]
    refine wpAnyH_ready (rs := [15]) (by kernel_rfl) (by simp) ?_
    refine AllReadyH.cons (o := { dst := some 30, op := .call { callee := .value (.func 18), args := #[.tmp 27, .tmp 29], argTypes := #[24, 24] }, type := 24, pos := "spots.go:79", after := #[{ on := 12, ground := .data }, { on := 14, ground := .data }, { on := 10, ground := .chain }], guard := none }) rfl (fun K hK => ?_) AllReadyH.nil
    refine step_call (by rfl) 18 #[.slice la1 lla.length la2, .slice lb1 llb.length lb2] (by (go_simp; done)) (GU.out _ _ lla llb _ h1 h4 pa.last pb.last) ?_
    rintro e wB ⟨vB, rfl, hOB, hbB0⟩
    have hbB := bl_step hbA hbB0
    obtain ⟨ya, yc, rfl, hx2⟩ := id (Nums.of_row hOB)
    clear hx2 pa pb
    obtain ⟨⟨m4, m5, m6⟩, -, -, -, -⟩ := hC.out _ hbB
    obtain ⟨e0, e1, e2, -, -, -⟩ := cells3p m4
    obtain ⟨f0, f1, f2, -, -, -⟩ := cells3p m5
    obtain ⟨y0, y1, y2, y3, y4, y5⟩ := cells3p m6
    have g := hset.out wB (.bool true) (.slice xa (unionL lfa lfb).length xc) (.slice ya (unionL lla llb).length yc) m4 m5
    obtain ⟨i0, i1, i2, -, -, -⟩ := cells3p g.1
    obtain ⟨j0, j1, j2, -, -, -⟩ := cells3p g.2
    refine ⟨_, rfl, hK.out _ _ ⟨e0, e1, e2, f0, f1, f2⟩ (fun hHeld => ?_)⟩
    clear hK K hHeld2
    try simp only [Act.put, List.setIfInBounds_toArray, List.set_cons_zero, List.set_cons_succ]
    refine wpAnyH_take (i := 16) (oi := { dst := some 31, op := .build 48 #[(0, .tmp 20), (1, .tmp 25), (2, .tmp 30)], type := 48, pos := "spots.go:79", after := #[{ on := 5, ground := .data }, { on := 10, ground := .data }, { on := 15, ground := .data }], guard := none }) (v := ?_) rfl (by kernel_rfl) (by kernel_rfl) (by kernel_rfl) (fun _ _ _ h => h) (Or.inl ⟨by rfl, ?_⟩) (by assumption) ?_
    rotate_left
    · (intro w hSw; (try dsimp only at hSw); go_simp; try with_reducible rfl)
    try simp only [Act.put, List.setIfInBounds_toArray, List.set_cons_zero, List.set_cons_succ]
    refine wpAnyH_ready (rs := [17]) (by kernel_rfl) (by simp) ?_
    refine AllReadyH.cons (o := { dst := none, op := .store 48 (.tmp 8) (.tmp 31), type := 0, pos := "spots.go:79", after := #[{ on := 16, ground := .data }, { on := 15, ground := .chain }, { on := 0, ground := .phase }, { on := 1, ground := .phase }, { on := 2, ground := .phase }, { on := 3, ground := .phase }, { on := 4, ground := .phase }, { on := 5, ground := .phase }, { on := 6, ground := .phase }, { on := 7, ground := .phase }, { on := 8, ground := .phase }, { on := 9, ground := .phase }, { on := 10, ground := .phase }, { on := 11, ground := .phase }, { on := 12, ground := .phase }, { on := 13, ground := .phase }, { on := 14, ground := .phase }, { on := 15, ground := .phase }, { on := 16, ground := .phase }], guard := none }) rfl (fun K hK => ?_) AllReadyH.nil
    go_simp
    refine hK.out _ _ ⟨i0, i1, i2, j0, j1, j2⟩ (fun hHeld2 => ?_)
    refine wpAnyH_done (by kernel_rfl) ?_ _
    clear hK K hHeld
    try simp only [Act.put, List.setIfInBounds_toArray, List.set_cons_zero, List.set_cons_succ]
    all_goals
      go_wp2
      have hfb : (put3 wB (w.heap.size + 2) (.bool true) (.slice xa (unionL lfa lfb).length xc) (.slice ya (unionL lla llb).length yc)).heap[w.heap.size + 2]? = some (.cells #[.bool true, .slice xa (unionL lfa lfb).length xc, .slice ya (unionL lla llb).length yc] 48) := put3_blk m6
      obtain ⟨r0, r1, r2, -, -, -⟩ := cells3p hfb
      unfold put3 at r0 r1 r2
      obtain ⟨t1, t2⟩ := hfin.out wB _ _ (own_below hOA hbB0) (own_base hOB hbA.size) hbB
      exact bodyPost_ret (v := .agg #[.bool true, .slice xa (unionL lfa lfb).length xc, .slice ya (unionL lla llb).length yc]) (by simp [results, Try.results20, go_sem, r0, r1, r2]) rfl ⟨_, _, rfl, t1, t2⟩
  | false =>
    cases nb with
    | true =>
      go_region_held3 (fun w' => w'.cell? ⟨w.heap.size, 0, none⟩ = some (.bool false) ∧ w'.cell? ⟨w.heap.size, 1, none⟩ = some (.slice fa1 lfa.length fa2) ∧ w'.cell? ⟨w.heap.size, 2, none⟩ = some (.slice la1 lla.length la2) ∧ w'.cell? ⟨w.heap.size + 1, 0, none⟩ = some (.bool true) ∧ w'.cell? ⟨w.heap.size + 1, 1, none⟩ = some (.slice fb1 lfb.length fb2) ∧ w'.cell? ⟨w.heap.size + 1, 2, none⟩ = some (.slice lb1 llb.length lb2))
      (go_keep)
      ((first
      | (go_at_call_of 18 (Value.slice fa1 lfa.length fa2); obtain ⟨-, pa, pb, -, -⟩ := hC.out _ (by first | exact hbB | exact hbd.out); refine (GU.out _ _ lfa lfb _ h3 h2 pa.first pb.first).mono ?_; rintro e wA ⟨vA, rfl, hOA, hbA0⟩; have hbA := bl_step (by first | exact hbB | exact hbd.out) hbA0; obtain ⟨xa, xc, rfl, hx1⟩ := id (Nums.of_row hOA); clear hx1; obtain ⟨⟨m1, m2, m3⟩, -, -, -, -⟩ := hC.out _ hbA; obtain ⟨c0, c1, c2, -, -, -⟩ := cells3p m1; obtain ⟨d0, d1, d2, -, -, -⟩ := cells3p m2; obtain ⟨x0, x1, x2, x3, x4, x5⟩ := cells3p m3; (first | (have g := hset.out wA (.bool true) (.slice xa (unionL lfa lfb).length xc) (.slice ya (unionL lla llb).length yc) m1 m2; obtain ⟨i0, i1, i2, -, -, -⟩ := cells3p g.1; obtain ⟨j0, j1, j2, -, -, -⟩ := cells3p g.2) | skip))
      | (go_at_call_of 18 (Value.slice la1 lla.length la2); obtain ⟨-, pa, pb, -, -⟩ := hC.out _ (by first | exact hbA | exact hbd.out); refine (GU.out _ _ lla llb _ h1 h4 pa.last pb.last).mono ?_; rintro e wB ⟨vB, rfl, hOB, hbB0⟩; have hbB := bl_step (by first | exact hbA | exact hbd.out) hbB0; obtain ⟨ya, yc, rfl, hx2⟩ := id (Nums.of_row hOB); clear hx2; obtain ⟨⟨m4, m5, m6⟩, -, -, -, -⟩ := hC.out _ hbB; obtain ⟨e0, e1, e2, -, -, -⟩ := cells3p m4; obtain ⟨f0, f1, f2, -, -, -⟩ := cells3p m5; obtain ⟨y0, y1, y2, y3, y4, y5⟩ := cells3p m6; (first | (have g := hset.out wB (.bool true) (.slice xa (unionL lfa lfb).length xc) (.slice ya (unionL lla llb).length yc) m4 m5; obtain ⟨i0, i1, i2, -, -, -⟩ := cells3p g.1; obtain ⟨j0, j1, j2, -, -, -⟩ := cells3p g.2) | skip))))
      all_goals
        go_wp2
        have hfb : (put3 wB (w.heap.size + 2) (.bool true) (.slice xa (unionL lfa lfb).length xc) (.slice ya (unionL lla llb).length yc)).heap[w.heap.size + 2]? = some (.cells #[.bool true, .slice xa (unionL lfa lfb).length xc, .slice ya (unionL lla llb).length yc] 48) := put3_blk m6
        obtain ⟨r0, r1, r2, -, -, -⟩ := cells3p hfb
        unfold put3 at r0 r1 r2
        obtain ⟨t1, t2⟩ := hfin.out wB _ _ (own_below hOA hbB0) (own_base hOB hbA.size) hbB
        exact bodyPost_ret (v := .agg #[.bool true, .slice xa (unionL lfa lfb).length xc, .slice ya (unionL lla llb).length yc]) (by simp [results, Try.results20, go_sem, r0, r1, r2]) rfl ⟨_, _, rfl, t1, t2⟩
    | false =>
      go_region_held3 (fun w' => w'.cell? ⟨w.heap.size, 0, none⟩ = some (.bool false) ∧ w'.cell? ⟨w.heap.size, 1, none⟩ = some (.slice fa1 lfa.length fa2) ∧ w'.cell? ⟨w.heap.size, 2, none⟩ = some (.slice la1 lla.length la2) ∧ w'.cell? ⟨w.heap.size + 1, 0, none⟩ = some (.bool false) ∧ w'.cell? ⟨w.heap.size + 1, 1, none⟩ = some (.slice fb1 lfb.length fb2) ∧ w'.cell? ⟨w.heap.size + 1, 2, none⟩ = some (.slice lb1 llb.length lb2))
      (go_keep)
      ((first
      | (go_at_call_of 18 (Value.slice fa1 lfa.length fa2); obtain ⟨-, pa, pb, -, -⟩ := hC.out _ (by first | exact hbB | exact hbd.out); refine (GU.out _ _ lfa lfb _ h3 h2 pa.first pb.first).mono ?_; rintro e wA ⟨vA, rfl, hOA, hbA0⟩; have hbA := bl_step (by first | exact hbB | exact hbd.out) hbA0; obtain ⟨xa, xc, rfl, hx1⟩ := id (Nums.of_row hOA); clear hx1; obtain ⟨⟨m1, m2, m3⟩, -, -, -, -⟩ := hC.out _ hbA; obtain ⟨c0, c1, c2, -, -, -⟩ := cells3p m1; obtain ⟨d0, d1, d2, -, -, -⟩ := cells3p m2; obtain ⟨x0, x1, x2, x3, x4, x5⟩ := cells3p m3; (first | (have g := hset.out wA (.bool false) (.slice xa (unionL lfa lfb).length xc) (.slice ya (unionL lla llb).length yc) m1 m2; obtain ⟨i0, i1, i2, -, -, -⟩ := cells3p g.1; obtain ⟨j0, j1, j2, -, -, -⟩ := cells3p g.2) | skip))
      | (go_at_call_of 18 (Value.slice la1 lla.length la2); obtain ⟨-, pa, pb, -, -⟩ := hC.out _ (by first | exact hbA | exact hbd.out); refine (GU.out _ _ lla llb _ h1 h4 pa.last pb.last).mono ?_; rintro e wB ⟨vB, rfl, hOB, hbB0⟩; have hbB := bl_step (by first | exact hbA | exact hbd.out) hbB0; obtain ⟨ya, yc, rfl, hx2⟩ := id (Nums.of_row hOB); clear hx2; obtain ⟨⟨m4, m5, m6⟩, -, -, -, -⟩ := hC.out _ hbB; obtain ⟨e0, e1, e2, -, -, -⟩ := cells3p m4; obtain ⟨f0, f1, f2, -, -, -⟩ := cells3p m5; obtain ⟨y0, y1, y2, y3, y4, y5⟩ := cells3p m6; (first | (have g := hset.out wB (.bool false) (.slice xa (unionL lfa lfb).length xc) (.slice ya (unionL lla llb).length yc) m4 m5; obtain ⟨i0, i1, i2, -, -, -⟩ := cells3p g.1; obtain ⟨j0, j1, j2, -, -, -⟩ := cells3p g.2) | skip))))
      all_goals
        go_wp2
        have hfb : (put3 wB (w.heap.size + 2) (.bool false) (.slice xa (unionL lfa lfb).length xc) (.slice ya (unionL lla llb).length yc)).heap[w.heap.size + 2]? = some (.cells #[.bool false, .slice xa (unionL lfa lfb).length xc, .slice ya (unionL lla llb).length yc] 48) := put3_blk m6
        obtain ⟨r0, r1, r2, -, -, -⟩ := cells3p hfb
        unfold put3 at r0 r1 r2
        obtain ⟨t1, t2⟩ := hfin.out wB _ _ (own_below hOA hbB0) (own_base hOB hbA.size) hbB
        exact bodyPost_ret (v := .agg #[.bool false, .slice xa (unionL lfa lfb).length xc, .slice ya (unionL lla llb).length yc]) (by simp [results, Try.results20, go_sem, r0, r1, r2]) rfl ⟨_, _, rfl, t1, t2⟩

end Go.Proofs.Ytgbecehggdkkmaa
