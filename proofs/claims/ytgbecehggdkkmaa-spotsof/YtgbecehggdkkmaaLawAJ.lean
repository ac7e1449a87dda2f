/- SpotsOf's walk. -/
import Derived.Test.YtgbecehggdkkmaaJ45
import Derived.Test.YtgbecehggdkkmaaROfJ
namespace Go.Proofs.Ytgbecehggdkkmaa
open Go.RowKit

def zeroSp : Sp := ⟨[], false, [], [], []⟩
theorem zero_spv (u : World) : SpV u nilV nilV nilV nilV zeroSp :=
  ⟨⟨none, 0, rfl, Nat.le_refl _, fun _ => rfl, fun _ hS => absurd hS (List.not_mem_nil), fun _ hj => absurd hj (Nat.not_lt_zero _)⟩, Nums.nil u, Nums.nil u, ⟨none, 0, rfl, Nat.le_refl _, fun _ => rfl, fun _ hj => absurd hj (Nat.not_lt_zero _)⟩⟩

set_option maxRecDepth 20000 in
set_option maxHeartbeats 4000000 in
theorem ofBadWalk (v : Value) (l : List Cel) (w : World) (hl : l.length * 40 ≤ 140737488351232) (hA : Cels w v l) (hr : rightB l = false) :
    Calls Try.prog 3 #[v] w fun e w' => e = .returned (.bool true) ∧ Below w.heap.size w w' := by
  have hA1 := hid (hA.keep (al' w (.cells #[] 46)))
  have hO := hid (OwnC.lit0 w)
  have hf := hid (show ∀ c ∈ l, FitC c from by obtain ⟨_, _, _, _, _, h, _⟩ := hA; exact h)
  have GB := hid (fun v' u (hc : Cels u v' l) => sofBad v' l u hc hr)
  have GR := hid (fun u (hu : Below w.heap.size w u) => rightC v l u (hA.keep hu))
  rw [hr] at GR
  have GW := hid wakes7
  have GS := hid (fun u => rsameYes nilV nilV nilV nilV nilV nilV nilV nilV zeroSp u (zero_spv u) (zero_spv u) (by decide) rfl (by decide) (by decide) (fun l hl => absurd hl (List.not_mem_nil)))
  obtain ⟨av, cv, rfl⟩ := hA.shape
  clear hA hr
  go_enter Try.func3, Try.ntmps3
  go_wp2_with (first
    | (go_at_call 10; refine (GS.out w3).mono ?_; rintro e w4 ⟨rfl, hb4⟩)
    | (go_at_call 9; refine (GW.out _).mono ?_; rintro e w3 ⟨rfl, hb3⟩; obtain ⟨z0, z1, z2, z3, z4, -⟩ := cells5s (hs_keep (heap_new w2 (.cells #[nilV, .bool false, nilV, nilV, nilV] 27)) hb3))
    | (go_at_call 8; refine (GR.out _ (bl_step h2 (al' w2 _))).mono ?_; rintro e u1 ⟨rfl, hu⟩; subst u1)
    | (go_at_call 7; refine (GB.out _ w1 hc1).mono ?_; rintro e w2 ⟨rfl, hb2⟩; have h2 := bl_step h1 hb2)
    | (at_builtin; refine wp_app5 _ rfl _ _ rfl w.heap.size [] l _ _ rfl rfl hO.out hA1.out (by simp; omega) (by simp) ?_; intro v' w1 hO1 hb1; have hc1 := Cels.of_own (l := l) hO1 hf.out; have h1 := (al' w (.cells #[] 46)).trans hb1))
  go_ret
  exact ⟨rfl, bl_step (bl_step (bl_step h2 (al' w2 _)) hb3) hb4⟩

set_option maxRecDepth 20000 in
set_option maxHeartbeats 4000000 in
theorem ofGoodWalk (v : Value) (t : Rx) (w : World) (hl : (post t).length * 40 ≤ 140737488351232) (hA : Cels w v (post t)) (ho : t.ok) (h60 : (post t).length ≤ 60) :
    Calls Try.prog 3 #[v] w fun e w' => e = .returned (.bool true) ∧ Below w.heap.size w w' := by
  have hA1 := hid (hA.keep (al' w (.cells #[] 46)))
  have hO := hid (OwnC.lit0 w)
  have hf := hid (show ∀ c ∈ post t, FitC c from by obtain ⟨_, _, _, _, _, h, _⟩ := hA; exact h)
  have GB := hid (fun v' u (hc : Cels u v' (post t)) => sofGood v' t u hc ho h60)
  have GR := hid (fun u (hu : Below w.heap.size w u) => rightC v (post t) u (hA.keep hu))
  rw [right_post ho h60] at GR
  have GW := hid wakes7
  have GO := hid (fun u (hu : Below w.heap.size w u) => rofGood v t u (hA.keep hu) ho h60)
  have GS : Hid (∀ sv fv lv gv sv' fv' lv' gv' fl fl' u, SpV u sv fv lv gv (spOf t fl) → SpV u sv' fv' lv' gv' (spOf t fl') → FolOK (FolS [t]) (nS [t]) fl → FolOK (FolS [t]) (nS [t]) fl' → Calls Try.prog 10 #[.agg #[sv, .bool t.null, fv, lv, gv], .agg #[sv', .bool t.null, fv', lv', gv']] u fun e w' => e = .returned (.bool true) ∧ Below u.heap.size u w') := hid (fun sv fv lv gv sv' fv' lv' gv' fl fl' u h h' hF hF' => by
    have e := folOK_uniq hF hF'
    subst e
    have hb := spOf_bounds hF h60
    exact rsameYes sv fv lv gv sv' fv' lv' gv' (spOf t fl) u h h' hb.1 hb.2.1 (Nat.le_trans hb.2.2.1 (by omega)) (Nat.le_trans hb.2.2.2.1 (by omega)) (fun l hl => Nat.le_trans (hb.2.2.2.2 l hl) (by omega)))
  have hshape : Hid (∀ u sv fv lv gv fl, SpV u sv fv lv gv (spOf t fl) → (∃ a c, sv = .slice a (setsS [t]).length c) ∧ (∃ a c, fv = .slice a (firstL t 0).length c) ∧ (∃ a c, lv = .slice a (lastL t 0).length c) ∧ (∃ a c, gv = .slice a fl.length c)) := hid (fun u sv fv lv gv fl h => by
    obtain ⟨a1, c1, e1, _⟩ := h.sets
    obtain ⟨a2, c2, e2, _⟩ := h.first
    obtain ⟨a3, c3, e3, _⟩ := h.last
    obtain ⟨a4, c4, e4, _⟩ := h.follow
    exact ⟨⟨a1, c1, e1⟩, ⟨a2, c2, e2⟩, ⟨a3, c3, e3⟩, ⟨a4, c4, e4⟩⟩)
  obtain ⟨av, cv, rfl⟩ := hA.shape
  clear hA
  generalize post t = l at *
  generalize (setsS [t]).length = ns at hshape
  generalize (firstL t 0).length = nf at hshape
  generalize (lastL t 0).length = nl at hshape
  go_enter Try.func3, Try.ntmps3
  go_wp2_with (first
    | (go_at_call 8; refine (GR.out _ (bl_step h2 (al' w2 _))).mono ?_; rintro e u1 ⟨rfl, hu⟩; subst u1)
    | (go_at_call 7; refine (GB.out _ w1 hc1).mono ?_; rintro e w2 ⟨sv, fv, lv, gv, fl, rfl, hV, hF, hb2⟩; have h2 := bl_step h1 hb2; obtain ⟨⟨sa, sc, rfl⟩, ⟨fa, fc, rfl⟩, ⟨la, lc, rfl⟩, ⟨ga, gc, rfl⟩⟩ := hshape.out _ _ _ _ _ _ hV)
    | (at_builtin; refine wp_app5 _ rfl _ _ rfl w.heap.size [] l _ _ rfl rfl hO.out hA1.out (by simp; omega) (by simp) ?_; intro v' w1 hO1 hb1; have hc1 := Cels.of_own (l := l) hO1 hf.out; have h1 := (al' w (.cells #[] 46)).trans hb1))
  have hC := hid (heap_new w2 (.cells #[.slice sa ns sc, .bool t.null, .slice fa nf fc, .slice la nl lc, .slice ga fl.length gc] 27))
  obtain ⟨p0, p1, p2, p3, p4, -⟩ := cells5s (show (w2.alloc (.cells #[.slice sa ns sc, .bool t.null, .slice fa nf fc, .slice la nl lc, .slice ga fl.length gc] 27)).drew.heap[w2.heap.size]? = _ from hC.out)
  have h3 := hid (bl_step h2 (bl_step (al' w2 (.cells #[.slice sa ns sc, .bool t.null, .slice fa nf fc, .slice la nl lc, .slice ga fl.length gc] 27)) ((Below.refl _ _).drew)))
  have hV3 := hid (hV.keep (bl_step (al' w2 (.cells #[.slice sa ns sc, .bool t.null, .slice fa nf fc, .slice la nl lc, .slice ga fl.length gc] 27)) ((Below.refl _ _).drew)))
  have hC3 : Hid ((w2.alloc (.cells #[.slice sa ns sc, .bool t.null, .slice fa nf fc, .slice la nl lc, .slice ga fl.length gc] 27)).drew.heap[w2.heap.size]? = some (.cells #[.slice sa ns sc, .bool t.null, .slice fa nf fc, .slice la nl lc, .slice ga fl.length gc] 27)) := hid hC.out
  have hF0 := hid hF
  clear hF hV hC hO hA1 hO1 hb1 hc1
  have GW1 := hid (GW.out (w2.alloc (.cells #[.slice sa ns sc, .bool t.null, .slice fa nf fc, .slice la nl lc, .slice ga fl.length gc] 27)).drew)
  go_region_held3 (fun w' => w'.cell? ⟨w2.heap.size, 0, none⟩ = some (.slice sa ns sc) ∧ w'.cell? ⟨w2.heap.size, 1, none⟩ = some (.bool t.null) ∧ w'.cell? ⟨w2.heap.size, 2, none⟩ = some (.slice fa nf fc) ∧ w'.cell? ⟨w2.heap.size, 3, none⟩ = some (.slice la nl lc) ∧ w'.cell? ⟨w2.heap.size, 4, none⟩ = some (.slice ga fl.length gc))
    (go_keep)
    ((first
      | (go_at_call 10; refine (GS.out _ _ _ _ _ _ _ _ _ _ w5 (hV3.out.keep (bl_step hb4 hb5)) hV5 hF0.out hF5).mono ?_; rintro e w6 ⟨rfl, hb6⟩; obtain ⟨s0, s1, s2, s3, s4, -⟩ := cells5s (hs_keep hC3.out (bl_step (bl_step hb4 hb5) hb6)))
      | (go_at_call 11; refine (GO.out w4 (bl_step h3.out hb4)).mono ?_; rintro e w5 ⟨sv', fv', lv', gv', fl', rfl, hV5, hF5, hb5⟩; obtain ⟨r0, r1, r2, r3, r4, -⟩ := cells5s (hs_keep hC3.out (bl_step hb4 hb5)))
      | (go_at_call 9; refine GW1.out.mono ?_; rintro e w4 ⟨rfl, hb4⟩; obtain ⟨q0, q1, q2, q3, q4, -⟩ := cells5s (hs_keep hC3.out hb4))))
  all_goals
    go_wp2
    go_ret
    exact ⟨rfl, bl_step (bl_step (bl_step h3.out hb4) hb5) hb6⟩

set_option maxRecDepth 20000 in
theorem ofWalk (v : Value) (l : List Cel) (w : World) (hl : l.length * 40 ≤ 140737488351232) (hA : Cels w v l) :
    Calls Try.prog 3 #[v] w fun e w' => e = .returned (.bool true) ∧ Below w.heap.size w w' := by
  cases hr : rightB l with
  | false => exact ofBadWalk v l w hl hA hr
  | true =>
    obtain ⟨t, ho, rfl, h60⟩ := right_tree hr
    exact ofGoodWalk v t w hl hA ho h60

end Go.Proofs.Ytgbecehggdkkmaa
