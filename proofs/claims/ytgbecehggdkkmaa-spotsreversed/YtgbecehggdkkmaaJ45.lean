/- What spots.Of answers; wakes. wakes. -/
import Derived.Test.YtgbecehggdkkmaaJ32
import Derived.Test.YtgbecehggdkkmaaJ37
import Derived.Test.YtgbecehggdkkmaaJ44
namespace Go.Proofs.Ytgbecehggdkkmaa
open Go.RowKit

theorem Cels.shape {w : World} {v : Value} {l : List Cel} (h : Cels w v l) : ∃ a c, v = .slice a l.length c := by
  obtain ⟨a, c, e, _⟩ := h
  exact ⟨a, c, e⟩
theorem folOK_uniq {R : Nat → Nat → Prop} {n : Nat} {a b : List (List Int)} (ha : FolOK R n a) (hb : FolOK R n b) : a = b := by
  have l1 := ha.len
  have l2 := hb.len
  refine List.ext_getElem (by omega) fun j h1 h2 => ?_
  have := up_uniq (ha.up j (by omega)) (hb.up j (by omega)) fun x => (ha.mem j x (by omega)).trans (hb.mem j x (by omega)).symm
  simp only [List.getD_eq_getElem?_getD, List.getElem?_eq_getElem h1, List.getElem?_eq_getElem h2] at this
  exact this
/-- a rule's spots, with these lists behind each -/
def spOf (t : Rx) (fl : List (List Int)) : Sp := ⟨setsS [t], t.null, firstL t 0, lastL t 0, fl⟩
theorem spOf_is {t : Rx} {fl : List (List Int)} (h : FolOK (FolS [t]) (nS [t]) fl) : IsSp t (spOf t fl) := isSp_of h (firstL_mem t 0) (lastL_mem t 0)
theorem nS_one (t : Rx) : nS [t] = nSets t := by simp [nS]
theorem spOf_bounds {t : Rx} {fl : List (List Int)} (h : FolOK (FolS [t]) (nS [t]) fl) (h60 : (post t).length ≤ 60) : (spOf t fl).sets.length ≤ 60 ∧ (spOf t fl).follow.length = (spOf t fl).sets.length ∧ (spOf t fl).first.length ≤ 60 ∧ (spOf t fl).last.length ≤ 60 ∧ ∀ l ∈ (spOf t fl).follow, l.length ≤ 60 := by
  have hn : nSets t ≤ 60 := Nat.le_trans (nSets_le t) h60
  have hs : (setsS [t]).length = nSets t := by rw [setsS_len, nS_one]
  refine ⟨by show (setsS [t]).length ≤ 60; omega, ?_, Nat.le_trans (firstL_len t 0) hn, Nat.le_trans (lastL_len t 0) hn, fun l hl => ?_⟩
  · show fl.length = (setsS [t]).length
    rw [h.len, nS_one, hs]
  · have hl' : l ∈ fl := hl
    obtain ⟨j, hj, rfl⟩ := List.getElem_of_mem hl'
    have hj' : j < nS [t] := by rw [← h.len]; exact hj
    have e : fl.getD j [] = fl[j] := by rw [List.getD_eq_getElem?_getD, List.getElem?_eq_getElem hj]; rfl
    have hu := h.up j hj'
    have hi := h.inN (fun j k hjk => (folS_in [t] j k hjk).2) j hj'
    rw [e] at hu hi
    exact Nat.le_trans (inN_len hu hi) (by rw [nS_one]; exact hn)

def wk : Rx := .cat (.set (spanB 97 97)) (.star (.set (spanB 98 98)))
theorem wk_reads : rowsP [97, 98, 42] = some (wk, []) := by rfl
theorem wk_fol : FolOK (FolS [wk]) (nS [wk]) [[1], [1]] where
  len := rfl
  up := fun j hj => by
    have h2 : j < 2 := hj
    match j, h2 with
    | 0, _ => exact List.pairwise_singleton _ _
    | 1, _ => exact List.pairwise_singleton _ _
  mem := fun j x hj => by
    have h2 : j < 2 := hj
    match j, h2 with
    | 0, _ => simp [FolS, Fol, wk, nS, nSets, Lst, Fst]
    | 1, _ => simp [FolS, Fol, wk, nS, nSets, Lst, Fst]
theorem wk_last : lastL wk 0 = [0, 1] := by
  simp only [wk, lastL, Rx.null, nSets, if_true]
  decide +kernel
theorem wk_mat : Mat wk [97, 98, 98] := by
  have ha : hasB (spanB 97 97) (97 : UInt8).toNat = true := by rw [span_has 97 _ (by decide)]; decide
  have hb : hasB (spanB 98 98) (98 : UInt8).toNat = true := by rw [span_has 98 _ (by decide)]; decide
  exact Mat.cat (s := [97]) (t := [98, 98]) (Mat.set ha) (Mat.starS (s := [98]) (t := [98]) (Mat.set hb) (Mat.starS (s := [98]) (t := []) (Mat.set hb) Mat.star0))
theorem wk_fit : fitB (spOf wk [[1], [1]]) [97, 98, 98] = true := (fit_iff (spOf_is wk_fol) _).2 wk_mat
theorem wk_ok : wk.ok := (rowsP_good wk_reads).1

end Go.Proofs.Ytgbecehggdkkmaa
namespace Go.Proofs.Ytgbecehggdkkmaa
open Go.RowKit

set_option maxRecDepth 20000 in
set_option maxHeartbeats 4000000 in
theorem wakes7 (w : World) : Calls Try.prog 9 #[] w fun e w' => e = .returned (.bool true) ∧ Below w.heap.size w w' := by
  have G1 : Hid (Calls Try.prog 23 #[.string ⟨#[97, 98, 42]⟩] w fun e w' => ∃ v, e = .returned (.tuple #[v, .int .i64 0, .int .i64 0]) ∧ Cels w' v (post wk) ∧ Below w.heap.size w w') := hid (parseGood [97, 98, 42] wk w (by decide) wk_reads (by decide))
  have G2 : Hid (∀ v u, Cels u v (post wk) → Calls Try.prog 7 #[v] u fun e w' => ∃ sa sc fa fc la lc ga gc, e = .returned (.tuple #[.agg #[.slice sa 2 sc, .bool false, .slice fa 1 fc, .slice la 2 lc, .slice ga 2 gc], .int .i64 0]) ∧ SpV w' (.slice sa 2 sc) (.slice fa 1 fc) (.slice la 2 lc) (.slice ga 2 gc) (spOf wk [[1], [1]]) ∧ Below u.heap.size u w') := hid (fun v u hc => (sofGood v wk u hc wk_ok (by decide)).mono fun e w' ⟨sv, fv, lv, gv, fl, he, hV, hF, hb⟩ => by
    have := folOK_uniq hF wk_fol
    subst this
    obtain ⟨sa, sc, e1, _⟩ := id hV.sets
    obtain ⟨fa, fc, e2, _⟩ := id hV.first
    obtain ⟨la, lc, e3, _⟩ := id hV.last
    obtain ⟨ga, gc, e4, _⟩ := id hV.follow
    have e1' : sv = .slice sa 2 sc := e1
    have e2' : fv = .slice fa 1 fc := e2
    have e3' : lv = .slice la 2 lc := by
      have h2 : (lastL wk 0).length = 2 := by rw [wk_last]; rfl
      rw [show (Sp.last ⟨setsS [wk], wk.null, firstL wk 0, lastL wk 0, [[1], [1]]⟩).length = 2 from h2] at e3
      exact e3
    have e4' : gv = .slice ga 2 gc := e4
    subst e1' e2' e3' e4'
    exact ⟨sa, sc, fa, fc, la, lc, ga, gc, he, hV, hb⟩)
  have hb := spOf_bounds wk_fol (by decide)
  have GS := hid (fun va vb (l : List Int) u (hl : l.length ≤ 100) ha hb => refSame va vb l l u (by omega) (by omega) ha hb)
  have GF : Hid (∀ sv fv lv gv u, SpV u sv fv lv gv (spOf wk [[1], [1]]) → Calls Try.prog 12 #[.agg #[sv, .bool false, fv, lv, gv], .string ⟨#[97, 98, 98]⟩] u fun e w' => e = .returned (.bool true) ∧ Below u.heap.size u w') := hid (fun sv fv lv gv u hV => by
    have h := sfitsC sv fv lv gv (spOf wk [[1], [1]]) [97, 98, 98] u hV hb.1 (by rw [hb.2.1]; exact hb.1) (Nat.le_trans hb.2.2.1 (by omega)) (Nat.le_trans hb.2.2.2.1 (by omega)) (fun l hl => Nat.le_trans (hb.2.2.2.2 l hl) (by omega)) (by decide)
    rw [wk_fit] at h
    exact h)
  clear hb
  have hOf : Hid (∀ (w2 u : World) sv fv lv gv, SpV w2 sv fv lv gv (spOf wk [[1], [1]]) → Below w2.heap.size w2 u → SpV u sv fv lv gv (spOf wk [[1], [1]])) := hid (fun w2 u sv fv lv gv h hb => h.keep hb)
  go_enter Try.func9, Try.ntmps9
  go_wp2_with (first
    | (go_at_call 12; refine (GF.out _ _ _ _ w4 (hOf.out w2 w4 _ _ _ _ hV h24)).mono ?_; rintro e w5 ⟨rfl, hb5⟩)
    | (go_at_call_of 24 (Value.slice xa 1 xc); refine (GS.out _ _ [1] _ (by decide) (hNx.keep (bl_step h23 (al' w3 (.cells #[.int .i64 1] 3)))) (Nums.lit1 w3 1)).mono ?_; rintro e w4 ⟨rfl, hb4⟩; have h34 := bl_step (al' w3 (.cells #[.int .i64 1] 3)) hb4; have h24 := bl_step h23 h34; obtain ⟨z0, z1, z2, z3, z4, -⟩ := cells5s (hs_keep hC3 h34))
    | (go_at_call_of 24 (Value.slice la 2 lc); refine (GS.out _ _ [0, 1] _ (by decide) (hL.keep (bl_step (al' w2 (.cells #[.slice sa 2 sc, .bool false, .slice fa 1 fc, .slice la 2 lc, .slice (some ⟨gb, go, none⟩) 2 gc] 27)) (al' _ (.cells #[.int .i64 0, .int .i64 1] 3)))) (by have h := Nums.of_row (Own.lit2 (w2.alloc (.cells #[.slice sa 2 sc, .bool false, .slice fa 1 fc, .slice la 2 lc, .slice (some ⟨gb, go, none⟩) 2 gc] 27)) 0 1); rw [size_al] at h; exact h)).mono ?_; rintro e w3 ⟨rfl, hb3⟩; have h23 := bl_step (bl_step (al' w2 (.cells #[.slice sa 2 sc, .bool false, .slice fa 1 fc, .slice la 2 lc, .slice (some ⟨gb, go, none⟩) 2 gc] 27)) (al' _ (.cells #[.int .i64 0, .int .i64 1] 3))) hb3; have hC3 := hs_keep (hs_keep (heap_new w2 (.cells #[.slice sa 2 sc, .bool false, .slice fa 1 fc, .slice la 2 lc, .slice (some ⟨gb, go, none⟩) 2 gc] 27)) (al' _ (.cells #[.int .i64 0, .int .i64 1] 3))) hb3; obtain ⟨y0, y1, y2, y3, y4, -⟩ := cells5s hC3; have cX3 := keep_cell h23 cX)
    | (go_at_call 7; refine (G2.out _ w1 hc).mono ?_; rintro e w2 ⟨sa, sc, fa, fc, la, lc, ga, gc, rfl, hV, hb2⟩; obtain ⟨gb, go, X, rfl, hgb, cX, hNx0⟩ := numss_at hV.follow (j := 1) (by decide); have hNx : Nums w2 X [1] := hNx0; obtain ⟨xa, xc, e9, hx9⟩ := id hNx; clear hx9 hNx0; have e10 : X = .slice xa 1 xc := e9; clear e9; subst e10; have hL : Nums w2 (.slice la 2 lc) [0, 1] := (by have h := hV.last; rw [show (spOf wk [[1], [1]]).last = [0, 1] from wk_last] at h; exact h))
    | (go_at_call 23; refine G1.out.mono ?_; rintro e w1 ⟨v1, rfl, hc, hb1⟩; obtain ⟨va, vc, rfl⟩ := hc.shape))
  go_ret
  exact ⟨rfl, bl_step (bl_step (bl_step hb1 hb2) h24) hb5⟩

end Go.Proofs.Ytgbecehggdkkmaa
