/- SpotsFit's walk. -/
import Derived.Test.YtgbecehggdkkmaaJ45
namespace Go.Proofs.Ytgbecehggdkkmaa
open Go.RowKit

theorem strT_list (s : ByteArray) : strT s.data.toList = s := by
  apply ByteArray.ext
  simp [strT]
set_option maxRecDepth 20000 in
theorem fitBadWalk (v : Value) (l : List Cel) (s : Txt) (w : World) (hA : Cels w v l) (hr : rightB l = false ∨ 200 < s.length) :
    Calls Try.prog 4 #[v, .string (strT s)] w fun e w' => e = .returned (.bool true) ∧ Below w.heap.size w w' := by
  have GW := hid (wakes7 w)
  have GR := hid (fun u (hu : Below w.heap.size w u) => rightC v l u (hA.keep hu))
  have hsz := strT_size s
  obtain ⟨av, cv, rfl⟩ := hA.shape
  clear hA
  cases hq : rightB l with
  | false =>
    rw [hq] at GR
    clear hr
    go_enter Try.func4, Try.ntmps4
    go_wp2_with (first
      | (go_at_call 9; refine GW.out.mono ?_; rintro e w1 ⟨rfl, hb1⟩)
      | (go_at_call 8; refine (GR.out _ hb1).mono ?_; rintro e u1 ⟨rfl, hu⟩; subst u1))
    go_ret
    exact ⟨rfl, hb1⟩
  | true =>
    rw [hq] at GR hr
    have h2 : 200 < s.length := by
      rcases hr with hr | hr
      · cases hr
      · exact hr
    have h2z : (200 : Int) < (s.length : Int) := by omega
    clear hr
    go_enter Try.func4, Try.ntmps4
    go_wp2_with (first
      | (go_at_call 9; refine GW.out.mono ?_; rintro e w1 ⟨rfl, hb1⟩)
      | (go_at_call 8; refine (GR.out _ hb1).mono ?_; rintro e u1 ⟨rfl, hu⟩; subst u1))
    go_ret
    exact ⟨rfl, hb1⟩

set_option maxRecDepth 20000 in
set_option maxHeartbeats 4000000 in
theorem fitGoodWalk (v : Value) (t : Rx) (s : Txt) (w : World) (hA : Cels w v (post t)) (ho : t.ok) (h60 : (post t).length ≤ 60) (hs : s.length ≤ 200) :
    Calls Try.prog 4 #[v, .string (strT s)] w fun e w' => e = .returned (.bool true) ∧ Below w.heap.size w w' := by
  have GW := hid (wakes7 w)
  have GR := hid (fun u (hu : Below w.heap.size w u) => rightC v (post t) u (hA.keep hu))
  rw [right_post ho h60] at GR
  have GB := hid (fun u (hu : Below w.heap.size w u) => sofGood v t u (hA.keep hu) ho h60)
  have GM := hid (fun u (hu : Below w.heap.size w u) => fitsC t v s u (hA.keep hu) h60 (by omega))
  have GF : Hid (∀ sv fv lv gv fl u, SpV u sv fv lv gv (spOf t fl) → FolOK (FolS [t]) (nS [t]) fl → Calls Try.prog 12 #[.agg #[sv, .bool t.null, fv, lv, gv], .string (strT s)] u fun e w' => ∃ r : Bool, e = .returned (.bool r) ∧ (r = true ↔ Mat t s) ∧ Below u.heap.size u w') := hid (fun sv fv lv gv fl u h hF => by
    have hb := spOf_bounds hF h60
    exact (sfitsC sv fv lv gv (spOf t fl) s u h hb.1 (by rw [hb.2.1]; exact hb.1) (Nat.le_trans hb.2.2.1 (by omega)) (Nat.le_trans hb.2.2.2.1 (by omega)) (fun l hl => Nat.le_trans (hb.2.2.2.2 l hl) (by omega)) (by omega)).mono fun e w' ⟨he, hw⟩ => ⟨_, he, fit_iff (spOf_is hF) s, hw⟩)
  have hsz := strT_size s
  have hsn : ¬ (200 : Int) < (s.length : Int) := by omega
  obtain ⟨av, cv, rfl⟩ := hA.shape
  clear hA
  generalize post t = l at *
  have hshape : Hid (∀ u sv fv lv gv fl, SpV u sv fv lv gv (spOf t fl) → (∃ a n c, sv = .slice a n c) ∧ (∃ a n c, fv = .slice a n c) ∧ (∃ a n c, lv = .slice a n c) ∧ (∃ a n c, gv = .slice a n c)) := hid (fun u sv fv lv gv fl h => by
    obtain ⟨a1, c1, e1, _⟩ := h.sets
    obtain ⟨a2, c2, e2, _⟩ := h.first
    obtain ⟨a3, c3, e3, _⟩ := h.last
    obtain ⟨a4, c4, e4, _⟩ := h.follow
    exact ⟨⟨a1, _, c1, e1⟩, ⟨a2, _, c2, e2⟩, ⟨a3, _, c3, e3⟩, ⟨a4, _, c4, e4⟩⟩)
  go_enter Try.func4, Try.ntmps4
  go_wp2_with (first
    | (go_at_call 13; refine (GM.out w3 (bl_step h2 hb3')).mono ?_; rintro e w4 ⟨r4, rfl, hr4, hb4⟩)
    | (go_at_call 12; refine (GF.out _ _ _ _ fl _ (hV.keep (al' w2 (.cells #[.slice sa sn sc, .bool t.null, .slice fa fn fc, .slice la ln lc, .slice ga gn gc] 27))) hF).mono ?_; rintro e w3 ⟨r3, rfl, hr3, hb3⟩; have hb3' := bl_step (al' w2 (.cells #[.slice sa sn sc, .bool t.null, .slice fa fn fc, .slice la ln lc, .slice ga gn gc] 27)) hb3)
    | (go_at_call 7; refine (GB.out w1 hb1).mono ?_; rintro e w2 ⟨sv, fv, lv, gv, fl, rfl, hV, hF, hb2⟩; have h2 := bl_step hb1 hb2; obtain ⟨⟨sa, sn, sc, rfl⟩, ⟨fa, fn, fc, rfl⟩, ⟨la, ln, lc, rfl⟩, ⟨ga, gn, gc, rfl⟩⟩ := hshape.out _ _ _ _ _ _ hV)
    | (go_at_call 9; refine GW.out.mono ?_; rintro e w1 ⟨rfl, hb1⟩)
    | (go_at_call 8; refine (GR.out _ hb1).mono ?_; rintro e u1 ⟨rfl, hu⟩; subst u1))
  go_ret
  have hrr : r3 = r4 := by rw [Bool.eq_iff_iff, hr3, hr4]
  subst hrr
  exact ⟨by simp, bl_step (bl_step h2 hb3') hb4⟩
set_option maxRecDepth 20000 in
theorem fitWalk (v : Value) (l : List Cel) (s : ByteArray) (w : World) (hA : Cels w v l) :
    Calls Try.prog 4 #[v, .string s] w fun e w' => e = .returned (.bool true) ∧ Below w.heap.size w w' := by
  rw [← strT_list s]
  cases hr : rightB l with
  | false => exact fitBadWalk v l _ w hA (Or.inl hr)
  | true =>
    obtain ⟨t, ho, rfl, h60⟩ := right_tree hr
    by_cases hs : s.data.toList.length ≤ 200
    · exact fitGoodWalk v t _ w hA ho h60 hs
    · exact fitBadWalk v _ _ w hA (Or.inr (by omega))

end Go.Proofs.Ytgbecehggdkkmaa
