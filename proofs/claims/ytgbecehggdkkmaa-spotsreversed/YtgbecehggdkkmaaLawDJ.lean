/- SpotsReversed's walk. -/
import Derived.Test.YtgbecehggdkkmaaRevJ
import Derived.BigRegion
namespace Go.Proofs.Ytgbecehggdkkmaa
open Go.RowKit

set_option maxRecDepth 20000 in
theorem revBad (v : Value) (l : List Cel) (c : UInt8) (w : World) (hA : Cels w v l) (hr : rightB l = false) :
    Calls Try.prog 6 #[v, .int .u8 (c.toNat : Int)] w fun e w' => e = .returned (.bool true) ∧ Below w.heap.size w w' := by
  have GW := hid (wakes7 w)
  have GR := hid (fun u (hu : Below w.heap.size w u) => rightC v l u (hA.keep hu))
  rw [hr] at GR
  obtain ⟨av, cv, rfl⟩ := hA.shape
  clear hA hr
  go_enter Try.func6, Try.ntmps6
  go_wp2_with (first
    | (go_at_call 9; refine GW.out.mono ?_; rintro e w1 ⟨rfl, hb1⟩)
    | (go_at_call 8; refine (GR.out _ hb1).mono ?_; rintro e u1 ⟨rfl, hu⟩; subst u1))
  go_ret
  exact ⟨rfl, hb1⟩

set_option maxRecDepth 20000 in
set_option maxHeartbeats 4000000 in
theorem revGood (v : Value) (t : Rx) (c : UInt8) (w : World) (hA : Cels w v (post t)) (ho : t.ok) (h60 : (post t).length ≤ 60) :
    Calls Try.prog 6 #[v, .int .u8 (c.toNat : Int)] w fun e w' => e = .returned (.bool true) ∧ Below w.heap.size w w' := by
  have GW := hid (wakes7 w)
  have GR := hid (fun u (hu : Below w.heap.size w u) => rightC v (post t) u (hA.keep hu))
  rw [right_post ho h60] at GR
  have GB := hid (fun u (hu : Below w.heap.size w u) => sofGood v t u (hA.keep hu) ho h60)
  have GM := hid (fun u (hu : Below w.heap.size w u) => fitsC t v [c] u (hA.keep hu) h60 (by simp))
  have hnt : nSets t ≤ 60 := Nat.le_trans (nSets_le t) h60
  have hsl : (setsS [t]).length = nSets t := by rw [setsS_len, nS_one]
  have hBi : Hid (∀ x ∈ bothL (firstL t 0) (lastL t 0), 0 ≤ x ∧ x < ((setsS [t]).length : Int)) := hid (fun x hx => by
    have h1 := firstL_in t 0 (setsS [t]).length (by omega) x ((bothL_mem _ _ x).1 hx).1
    exact h1)
  have hBl : (bothL (firstL t 0) (lastL t 0)).length ≤ 60 := Nat.le_trans (bothL_len _ _) (Nat.le_trans (firstL_len t 0) hnt)
  have hf1 : (firstL t 0).length ≤ 60 := Nat.le_trans (firstL_len t 0) hnt
  have hl1 : (lastL t 0).length ≤ 60 := Nat.le_trans (lastL_len t 0) hnt
  have GX := hid (fun va vb u (h1 : Nums u va (firstL t 0)) (h2 : Nums u vb (lastL t 0)) => refBoth va vb (firstL t 0) (lastL t 0) u (by omega) (by omega) h1 h2)
  have hMat := hid (fun fl (hF : FolOK (FolS [t]) (nS [t]) fl) => mat_any hF c)
  have hK := hid (fun k h => @anyK_succ (setsS [t]) c.toNat k (bothL (firstL t 0) (lastL t 0)) h)
  have hK0 : Hid (anyK (setsS [t]) c.toNat (bothL (firstL t 0) (lastL t 0)) 0 = false) := hid (by simp [anyK])
  have hshape : Hid (∀ u sv fv lv gv fl, SpV u sv fv lv gv (spOf t fl) → (∃ a c, sv = .slice a (setsS [t]).length c) ∧ (∃ a c, fv = .slice a (firstL t 0).length c) ∧ (∃ a c, lv = .slice a (lastL t 0).length c) ∧ (∃ a n c, gv = .slice a n c)) := hid (fun u sv fv lv gv fl h => by
    obtain ⟨a1, c1, e1, _⟩ := h.sets
    obtain ⟨a2, c2, e2, _⟩ := h.first
    obtain ⟨a3, c3, e3, _⟩ := h.last
    obtain ⟨a4, c4, e4, _⟩ := h.follow
    exact ⟨⟨a1, c1, e1⟩, ⟨a2, c2, e2⟩, ⟨a3, c3, e3⟩, ⟨a4, _, c4, e4⟩⟩)
  have hVk : Hid (∀ (u u' : World) (fl : List (List Int)) sv fv lv gv, SpV u sv fv lv gv (spOf t fl) → Below u.heap.size u u' → Sets u' sv (setsS [t]) ∧ Nums u' fv (firstL t 0) ∧ Nums u' lv (lastL t 0)) := hid (fun u u' fl sv fv lv gv h hb => ⟨(h.keep hb).sets, (h.keep hb).first, (h.keep hb).last⟩)
  have GF1 : Hid (∀ (za zb zc zd : Nat) g7 g8 g9 g10 u, Sets u (.slice (some ⟨g7, 0, none⟩) 1 1) [⟨za, zb, zc, zd⟩] → Nums u (.slice (some ⟨g8, 0, none⟩) 1 1) [0] → Nums u (.slice (some ⟨g9, 0, none⟩) 1 1) [0] → Numss u (.slice (some ⟨g10, 0, none⟩) 1 1) [[]] → Calls Try.prog 12 #[.agg #[.slice (some ⟨g7, 0, none⟩) 1 1, .bool false, .slice (some ⟨g8, 0, none⟩) 1 1, .slice (some ⟨g9, 0, none⟩) 1 1, .slice (some ⟨g10, 0, none⟩) 1 1], .string (strT [c])] u fun e w' => e = .returned (.bool (hasB ⟨za, zb, zc, zd⟩ c.toNat)) ∧ Below u.heap.size u w') := hid (fun za zb zc zd g7 g8 g9 g10 u h1 h2 h3 h4 => by
    have h := sfitsC _ _ _ _ (oneSp ⟨za, zb, zc, zd⟩) [c] u ⟨h1, h2, h3, h4⟩ (by simp [oneSp]) (by simp [oneSp]) (by simp [oneSp]) (by simp [oneSp]) (fun l hl => by simp [oneSp] at hl; rw [hl]; simp) (by simp)
    rw [one_fit] at h
    exact h)
  obtain ⟨av, cv, rfl⟩ := hA.shape
  clear hA hnt hsl
  generalize post t = l at *
  generalize bothL (firstL t 0) (lastL t 0) = BB at *
  generalize (firstL t 0).length = nf at *
  generalize (lastL t 0).length = nl at *
  generalize hns : (setsS [t]).length = ns at *
  have hns := hid hns
  go_enter Try.func6, Try.ntmps6
  go_wp2_with (first
    | (go_at_call 15; refine (GX.out _ _ _ hV1.2.1 hV1.2.2).mono ?_; rintro e w3 ⟨v3, rfl, hO3, hb3⟩; obtain ⟨xa, xc, rfl, hx3⟩ := id (Nums.of_row hO3); clear hx3)
    | (go_at_call 7; refine (GB.out w1 hb1).mono ?_; rintro e w2 ⟨sv, fv, lv, gv, fl, rfl, hV, hF, hb2⟩; have h2 := bl_step hb1 hb2; obtain ⟨⟨sa, sc, rfl⟩, ⟨fa, fc, rfl⟩, ⟨la, lc, rfl⟩, ⟨ga, gn, gc, rfl⟩⟩ := hshape.out _ _ _ _ _ _ hV; have hV1 := hVk.out w2 (w2.alloc (.cells #[.slice sa ns sc, .bool t.null, .slice fa nf fc, .slice la nl lc, .slice ga gn gc] 27)) fl _ _ _ _ hV (al' w2 (.cells #[.slice sa ns sc, .bool t.null, .slice fa nf fc, .slice la nl lc, .slice ga gn gc] 27)))
    | (go_at_call 9; refine GW.out.mono ?_; rintro e w1 ⟨rfl, hb1⟩)
    | (go_at_call 8; refine (GR.out _ hb1).mono ?_; rintro e u1 ⟨rfl, hu⟩; subst u1))
  have hN3 := hid (Nums.of_row hO3)
  have hC3 := hid (hs_keep (heap_new w2 (.cells #[.slice sa ns sc, .bool t.null, .slice fa nf fc, .slice la nl lc, .slice ga gn gc] 27)) hb3)
  have h3 := hid (bl_step h2 (bl_step (al' w2 (.cells #[.slice sa ns sc, .bool t.null, .slice fa nf fc, .slice la nl lc, .slice ga gn gc] 27)) hb3))
  have hVs := hid (fun u (hu : Below w3.heap.size w3 u) => (hVk.out w2 u fl _ _ _ _ hV (bl_step (bl_step (al' w2 (.cells #[.slice sa ns sc, .bool t.null, .slice fa nf fc, .slice la nl lc, .slice ga gn gc] 27)) hb3) hu)).1)
  have hM := hid (hMat.out fl hF)
  have hBi' := hid (fun k (h : k < BB.length) => hBi.out BB[k] (List.getElem_mem h))
  clear hO3 hV1 hV hF GX GB GR GW hb3 hBi hshape hVk
  go_loopw [7, 26] (fun fv i wr => ∃ k : Nat, k ≤ BB.length ∧ i = .int .i64 k ∧ fv = .bool (anyK (setsS [t]) c.toNat BB k) ∧ Below w3.heap.size w3 wr) (fun _ i _ => BB.length - (intOf i).toNat)
  case atStart => exact ⟨0, Nat.zero_le _, rfl, by rw [hK0.out], Below.refl _ _⟩
  case round =>
    obtain ⟨k, hk, rfl, rfl, hbl⟩ := hrel
    by_cases hlt : k < BB.length
    · have hltz : (k : Int) < (BB.length : Int) := by omega
      obtain ⟨_, _, e0, _, _, hat⟩ := hN3.out.keep hbl
      cases e0
      obtain ⟨b1, o1, rfl, hb1', c1⟩ := hat k hlt
      obtain ⟨hz0, hz1⟩ := hBi'.out k hlt
      have hK1 := hid (hK.out k hlt)
      obtain ⟨m, hm⟩ : ∃ m : Nat, BB[k] = (m : Int) := ⟨BB[k].toNat, by omega⟩
      rw [hm] at c1 hz1 hK1
      rw [Int.toNat_natCast] at hK1
      have hms : m < (setsS [t]).length := by rw [hns.out]; omega
      obtain ⟨zk, zo, rfl, hzb, ⟨z0, z1, z2, z3⟩, hzf⟩ := sets_at (hVs.out wr hbl) hms
      obtain ⟨r, hr⟩ : ∃ r, hasB ((setsS [t]).getD m noneB) c.toNat = r := ⟨_, rfl⟩
      rw [hr] at hK1
      obtain ⟨Z, hZ⟩ : ∃ Z, (setsS [t]).getD m noneB = Z := ⟨_, rfl⟩
      rw [hZ] at z0 z1 z2 z3 hzf hr
      clear hZ hat hz0 hm
      obtain ⟨za, zb, zc, zd⟩ := Z
      simp only at z0 z1 z2 z3
      obtain ⟨p0, p1, p2, p3, p4, -⟩ := cells5s (hs_keep hC3.out hbl)
      have hmz : (m : Int) < (ns : Int) := hz1
      have hdw : Hid (Below wr.heap.size wr wr.drew) := hid ((Below.refl _ _).drew)
      cases hfd : anyK (setsS [t]) c.toNat BB k with
      | true =>
        have hT3 : Hid (anyK (setsS [t]) c.toNat BB (k + 1) = true) := hid (by rw [hK1.out, hfd]; rfl)
        clear hfd
        go_wp2_with fail
        go_region
        all_goals
          go_wp2
          go_roundw
          case rel => exact ⟨k + 1, by omega, by go_num, by rw [hT3.out], bl_step hbl hdw.out⟩
          case measure => simp [intOf]; omega
      | false =>
        have hT3 : Hid (anyK (setsS [t]) c.toNat BB (k + 1) = r) := hid (by rw [hK1.out, hfd]; rfl)
        have hRv : Hid (RvS (fun w' => w'.cell? ⟨w2.heap.size, 0, none⟩ = some (.slice (some ⟨zk, zo, none⟩) ns sc) ∧ w'.cell? ⟨zk, zo + m * 4, none⟩ = some (.int .u64 (za : Int)) ∧ w'.cell? ⟨zk, zo + m * 4 + 1, none⟩ = some (.int .u64 (zb : Int)) ∧ w'.cell? ⟨zk, zo + m * 4 + 2, none⟩ = some (.int .u64 (zc : Int)) ∧ w'.cell? ⟨zk, zo + m * 4 + 3, none⟩ = some (.int .u64 (zd : Int))) wr za zb zc zd c r) := hid ⟨hzf, fun u u' hS hb => ⟨keep_cell hb hS.1, keep_cell hb hS.2.1, keep_cell hb hS.2.2.1, keep_cell hb hS.2.2.2.1, keep_cell hb hS.2.2.2.2⟩, fun g7 g8 g9 g10 u h1 h2 h3 h4 => by rw [← hr]; exact GF1.out za zb zc zd g7 g8 g9 g10 u h1 h2 h3 h4⟩
        clear hfd
        go_wp2_with fail
        refine wp_region_held_drew (S := (fun w' => w'.cell? ⟨w2.heap.size, 0, none⟩ = some (.slice (some ⟨zk, zo, none⟩) ns sc) ∧ w'.cell? ⟨zk, zo + m * 4, none⟩ = some (.int .u64 (za : Int)) ∧ w'.cell? ⟨zk, zo + m * 4 + 1, none⟩ = some (.int .u64 (zb : Int)) ∧ w'.cell? ⟨zk, zo + m * 4 + 2, none⟩ = some (.int .u64 (zc : Int)) ∧ w'.cell? ⟨zk, zo + m * 4 + 3, none⟩ = some (.int .u64 (zd : Int)))) (by kernel_rfl) ⟨p0, z0, z1, z2, z3⟩ (fun hHeld => ?_)
        refine wpAnyH_take (i := 0) (oi := { dst := some 30, op := .move (.tmp 7), type := 4, pos := "law.go:68", after := #[], guard := none }) (v := ?_) rfl (by kernel_rfl) (by kernel_rfl) (by kernel_rfl) (fun _ _ _ h => h) (Or.inl ⟨by rfl, ?_⟩) (by assumption) ?_
        rotate_left
        · (intro w hSw; (try dsimp only at hSw); go_simp; try with_reducible rfl)
        try simp only [Act.put, List.setIfInBounds_toArray, List.set_cons_zero, List.set_cons_succ]
        refine wpAnyH_take (i := 1) (oi := { dst := some 31, op := .move (.tmp 30), type := 4, pos := "law.go:68", after := #[{ on := 0, ground := .data }], guard := none }) (v := ?_) rfl (by kernel_rfl) (by kernel_rfl) (by kernel_rfl) (fun _ _ _ h => h) (Or.inl ⟨by rfl, ?_⟩) (by assumption) ?_
        rotate_left
        · (intro w hSw; (try dsimp only at hSw); go_simp; try with_reducible rfl)
        try simp only [Act.put, List.setIfInBounds_toArray, List.set_cons_zero, List.set_cons_succ]
        refine wpAnyH_take (i := 2) (oi := { dst := some 32, op := .fieldAddr 27 (.tmp 5) 0, type := 0, pos := "law.go:68", after := #[{ on := 1, ground := .guard }], guard := some (1, false) }) (v := ?_) rfl (by kernel_rfl) (by kernel_rfl) (by kernel_rfl) (fun _ _ _ h => h) (Or.inl ⟨by rfl, ?_⟩) (by assumption) ?_
        rotate_left
        · (intro w hSw; (try dsimp only at hSw); go_simp; try with_reducible rfl)
        try simp only [Act.put, List.setIfInBounds_toArray, List.set_cons_zero, List.set_cons_succ]
        refine wpAnyH_take (i := 3) (oi := { dst := some 33, op := .load 23 (.tmp 32), type := 23, pos := "law.go:68", after := #[{ on := 2, ground := .data }, { on := 1, ground := .guard }], guard := some (1, false) }) (v := ?_) rfl (by kernel_rfl) (by kernel_rfl) (by kernel_rfl) (fun _ _ _ h => h) (Or.inl ⟨by rfl, ?_⟩) (by assumption) ?_
        rotate_left
        · (intro w hSw; (try dsimp only at hSw); go_simp; try with_reducible rfl)
        try simp only [Act.put, List.setIfInBounds_toArray, List.set_cons_zero, List.set_cons_succ]
        refine wpAnyH_take (i := 4) (oi := { dst := some 34, op := .move (.tmp 9), type := 3, pos := "law.go:68", after := #[{ on := 1, ground := .guard }], guard := some (1, false) }) (v := ?_) rfl (by kernel_rfl) (by kernel_rfl) (by kernel_rfl) (fun _ _ _ h => h) (Or.inl ⟨by rfl, ?_⟩) (by assumption) ?_
        rotate_left
        · (intro w hSw; (try dsimp only at hSw); go_simp; try with_reducible rfl)
        try simp only [Act.put, List.setIfInBounds_toArray, List.set_cons_zero, List.set_cons_succ]
        refine wpAnyH_take (i := 5) (oi := { dst := some 35, op := .indexAddr 23 (.tmp 33) (.tmp 34), type := 0, pos := "law.go:68", after := #[{ on := 3, ground := .data }, { on := 4, ground := .data }, { on := 1, ground := .guard }], guard := some (1, false) }) (v := ?_) rfl (by kernel_rfl) (by kernel_rfl) (by kernel_rfl) (fun _ _ _ h => h) (Or.inl ⟨by rfl, ?_⟩) (by assumption) ?_
        rotate_left
        · (intro w hSw; (try dsimp only at hSw); go_simp; try with_reducible rfl)
        try simp only [Act.put, List.setIfInBounds_toArray, List.set_cons_zero, List.set_cons_succ]
        refine wpAnyH_take (i := 6) (oi := { dst := some 36, op := .load 40 (.tmp 35), type := 40, pos := "law.go:68", after := #[{ on := 5, ground := .data }, { on := 1, ground := .guard }], guard := some (1, false) }) (v := ?_) rfl (by kernel_rfl) (by kernel_rfl) (by kernel_rfl) (fun _ _ _ h => h) (Or.inl ⟨by rfl, ?_⟩) (by assumption) ?_
        rotate_left
        · (intro w hSw; (try dsimp only at hSw); go_simp; try with_reducible rfl)
        try simp only [Act.put, List.setIfInBounds_toArray, List.set_cons_zero, List.set_cons_succ]
        refine wpAnyH_take (i := 12) (oi := { dst := some 42, op := .move (.tmp 1), type := 5, pos := "law.go:68", after := #[{ on := 1, ground := .guard }], guard := some (1, false) }) (v := ?_) rfl (by kernel_rfl) (by kernel_rfl) (by kernel_rfl) (fun _ _ _ h => h) (Or.inl ⟨by rfl, ?_⟩) (by assumption) ?_
        rotate_left
        · (intro w hSw; (try dsimp only at hSw); go_simp; try with_reducible rfl)
        try simp only [Act.put, List.setIfInBounds_toArray, List.set_cons_zero, List.set_cons_succ]
        refine rv_0 (W := wr) hRv.out _ (by kernel_rfl) _ _ _ _ _ _ _ _ _ _ _ _ _ _ _ _ _ _ _ _ _ _ _ _ _ _ _ _ _ _ _ _ _ _ _ _ _ _ _ _ _ _ _ _ _ _ _ _ _ _ (fun g7 g8 g9 g10 g13 u hu => ?_) hHeld hdw.out
        go_wp2
        go_roundw
        case rel => exact ⟨k + 1, by omega, by go_num, by rw [hT3.out], bl_step hbl hu⟩
        case measure => simp [intOf]; omega
    · have hltz : ¬ (k : Int) < (BB.length : Int) := by omega
      obtain rfl : k = BB.length := by omega
      have hcv := conv1 wr.heap.size (wr.alloc (.cells #[.int .u8 (c.toNat : Int)] 5)) c (blk_cell (heap_new wr (.cells #[.int .u8 (c.toNat : Int)] 5)) rfl)
      have hal := bl_step h3.out (bl_step hbl (al' wr (.cells #[.int .u8 (c.toNat : Int)] 5)))
      have GM1 := hid (GM.out _ hal)
      have hal := hid hal
      generalize anyK (setsS [t]) c.toNat BB BB.length = R at *
      go_wp2_with (go_at_call 13; refine GM1.out.mono ?_; rintro e w4 ⟨r4, rfl, hr4, hb4⟩)
      go_ret
      have hrr : r4 = R := by rw [Bool.eq_iff_iff, hr4, hM.out]
      subst hrr
      exact ⟨by simp, bl_step hal.out hb4⟩
set_option maxRecDepth 20000 in
theorem revWalk (v : Value) (l : List Cel) (c : UInt8) (w : World) (hA : Cels w v l) :
    Calls Try.prog 6 #[v, .int .u8 (c.toNat : Int)] w fun e w' => e = .returned (.bool true) ∧ Below w.heap.size w w' := by
  cases hr : rightB l with
  | false => exact revBad v l c w hA hr
  | true =>
    obtain ⟨t, ho, rfl, h60⟩ := right_tree hr
    exact revGood v t c w hA ho h60

end Go.Proofs.Ytgbecehggdkkmaa
