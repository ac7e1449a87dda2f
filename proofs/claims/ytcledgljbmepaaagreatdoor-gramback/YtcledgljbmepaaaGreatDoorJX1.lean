/- GramBack's walk. -/
import Derived.Test.YtcledgljbmepaaaGreatDoorJ40
namespace Go.Proofs.YtcledgljbmepaaaGreatDoor
open Go.RowKit Go.Maps Go.Sort

theorem lowC : LowC where
  cels v v' l u h h' hl := (sameQ v v' l l u hl h h').mono (by
    rintro e w' ⟨rfl, hw⟩
    exact ⟨by simp, hw⟩)
set_option maxRecDepth 20000 in
set_option maxHeartbeats 4000000 in
theorem gramBackWalk {prs : Txt → Option Gm} {shw : Gm → Option Txt} (L : LowN) (LC : LowC) (H : PrsOK prs) (HS : ShwK prs shw) (s : Txt) (w : World) (hT : Tab w) (hs : s.length ≤ 9223372036854775807) : Calls Tryz.prog 3 #[.string (strT s)] w fun e w' => e = .returned (.bool true) ∧ Below w.heap.size w w' := by
  have GW := hid (wakes12 L H w)
  have hsz := strT_size s
  by_cases h4 : 4096 < s.length
  · have h4z : (4096 : Int) < (s.length : Int) := by omega
    go_enter Tryz.func3, Tryz.ntmps3
    go_wp2_with (go_at_call 4; refine GW.out.mono ?_; clear GW; rintro e w1 ⟨rfl, hc1⟩; have hc1 := hid hc1)
    go_ret
    exact ⟨rfl, hc1.out⟩
  have h4z : ¬ (4096 : Int) < (s.length : Int) := by omega
  cases hp : prs s with
  | none =>
    have GP := hid (fun u => H.no s u (by omega) hp)
    clear hp
    go_enter Tryz.func3, Tryz.ntmps3
    go_wp2_with (first
      | (go_at_call 4; refine GW.out.mono ?_; clear GW; rintro e w1 ⟨rfl, hc1⟩; have hc1 := hid hc1)
      | (go_at_call 5; refine (GP.out w1).mono ?_; clear GP; rintro e w2 ⟨ra, na, la, pa, rc, nc, lc, pc, st, n, er, rfl, her, hc2⟩; have herb : (er != 0) = true := bne_iff_ne.2 her; clear her; obtain ⟨W3, hW3⟩ : ∃ x, w2.alloc (.cells #[.slice ra 0 rc, .slice na 0 nc, .slice la 0 lc, .slice pa 0 pc, .int .i64 st] 28) = x := ⟨_, rfl⟩; have hB3 : Hid (Below w2.heap.size w2 W3) := (by rw [← hW3]; exact hid (al' w2 _)); have hk3 : W3.heap[w2.heap.size]? = some (.cells #[.slice ra 0 rc, .slice na 0 nc, .slice la 0 lc, .slice pa 0 pc, .int .i64 st] 28 (0, 0)) := (by rw [← hW3]; exact heap_new w2 _); obtain ⟨y0, y1, y2, y3, y4⟩ := cells5m hk3; clear hk3; have hw3 := hid (bl_step (bl_step hc1.out hc2) hB3.out); clear hc2))
    go_ret
    exact ⟨by simp, hw3.out⟩
  | some g =>
    have GP := hid (fun u => H.yes s g u (by omega) hp)
    have hbn := hid (H.bnd s g hp)
    cases hq : shw g with
    | none =>
      have GS := hid (fun rv nv lv pv u (hu : Below w.heap.size w u) h => HS.hidden s g rv nv lv pv u (hT.keep hu) hp hq h)
      clear hp hq
      go_enter Tryz.func3, Tryz.ntmps3
      go_wp2_with (first
        | (go_at_call 4; refine GW.out.mono ?_; clear GW; rintro e w1 ⟨rfl, hc1⟩; have hc1 := hid hc1)
        | (go_at_call 5; refine (GP.out w1).mono ?_; clear GP; rintro e w2 ⟨rv, nv, lv, pv, rfl, hV, hc2⟩; obtain ⟨ra, rc, hre⟩ := hV.rules.shape; obtain ⟨na, nc, hne⟩ := hV.nonts.shape; obtain ⟨la, lc, hle⟩ := hV.levels.shape; obtain ⟨pa, pc, hpe⟩ := hV.prods.shape; subst hre hne hle hpe; obtain ⟨W3, hW3⟩ : ∃ x, w2.alloc (.cells #[.slice ra g.rules.length rc, .slice na g.nonts.length nc, .slice la g.levels.length lc, .slice pa g.prods.length pc, .int .i64 g.start] 28) = x := ⟨_, rfl⟩; have hB3 : Hid (Below w2.heap.size w2 W3) := (by rw [← hW3]; exact hid (al' w2 _)); have hk3 : W3.heap[w2.heap.size]? = some (.cells #[.slice ra g.rules.length rc, .slice na g.nonts.length nc, .slice la g.levels.length lc, .slice pa g.prods.length pc, .int .i64 g.start] 28 (0, 0)) := (by rw [← hW3]; exact heap_new w2 _); obtain ⟨y0, y1, y2, y3, y4⟩ := cells5m hk3; have hw3 := hid (bl_step (bl_step hc1.out hc2) hB3.out); have hV3 := hid (hV.keep hB3.out); clear hc2 hV)
        | (go_at_call 6; refine (GS.out _ _ _ _ W3 hw3.out hV3.out).mono ?_; clear GS; rintro e w4 ⟨rfl, hc4⟩; have hw4 := hid (bl_step hw3.out hc4)))
      go_ret
      exact ⟨by simp, hw4.out⟩
    | some t =>
      have GS := hid (fun rv nv lv pv u (hu : Below w.heap.size w u) h => HS.shown s t g rv nv lv pv u (hT.keep hu) hp hq h)
      obtain ⟨htl, htp⟩ := HS.back s t g hp hq
      have GQ := hid (fun u => H.yes t g u htl htp)
      have GE := hid (fun rv nv lv pv rv' nv' lv' pv' u h h' => sameYes LC L rv nv lv pv rv' nv' lv' pv' g u h h' (by have := hbn.out.rules; omega) (by have := hbn.out.nonts; omega) (by have := hbn.out.levels; omega) (by have := hbn.out.prods; omega) (fun r hr => by have := hbn.out.re r hr; omega) (fun r hr => by have := hbn.out.right r hr; omega))
      clear hp hq htp
      go_enter Tryz.func3, Tryz.ntmps3
      go_wp2_with (first
        | (go_at_call 4; refine GW.out.mono ?_; clear GW; rintro e w1 ⟨rfl, hc1⟩; have hc1 := hid hc1)
        | (go_at_call 5; refine (GP.out w1).mono ?_; clear GP; rintro e w2 ⟨rv, nv, lv, pv, rfl, hV, hc2⟩; obtain ⟨ra, rc, hre⟩ := hV.rules.shape; obtain ⟨na, nc, hne⟩ := hV.nonts.shape; obtain ⟨la, lc, hle⟩ := hV.levels.shape; obtain ⟨pa, pc, hpe⟩ := hV.prods.shape; subst hre hne hle hpe; obtain ⟨W3, hW3⟩ : ∃ x, w2.alloc (.cells #[.slice ra g.rules.length rc, .slice na g.nonts.length nc, .slice la g.levels.length lc, .slice pa g.prods.length pc, .int .i64 g.start] 28) = x := ⟨_, rfl⟩; have hB3 : Hid (Below w2.heap.size w2 W3) := (by rw [← hW3]; exact hid (al' w2 _)); have hk3 : Hid (W3.heap[w2.heap.size]? = some (.cells #[.slice ra g.rules.length rc, .slice na g.nonts.length nc, .slice la g.levels.length lc, .slice pa g.prods.length pc, .int .i64 g.start] 28 (0, 0))) := (by rw [← hW3]; exact hid (heap_new w2 _)); obtain ⟨y0, y1, y2, y3, y4⟩ := cells5m hk3.out; have hw3 := hid (bl_step (bl_step hc1.out hc2) hB3.out); have hV3 := hid (hV.keep hB3.out); clear hc2 hV)
        | (go_at_call 6; refine (GS.out _ _ _ _ W3 hw3.out hV3.out).mono ?_; clear GS; rintro e w4 ⟨rfl, hc4⟩; have hc4 := hid hc4; have hw4 := hid (bl_step hw3.out hc4.out); have hk4 := hid (hs_keep hk3.out hc4.out); have hV4 := hid (hV3.out.keep hc4.out))
        | (go_at_call 5; refine (GQ.out w4).mono ?_; clear GQ; rintro e w5 ⟨rv', nv', lv', pv', rfl, hV', hc5⟩; obtain ⟨ra', rc', hre⟩ := hV'.rules.shape; obtain ⟨na', nc', hne⟩ := hV'.nonts.shape; obtain ⟨la', lc', hle⟩ := hV'.levels.shape; obtain ⟨pa', pc', hpe⟩ := hV'.prods.shape; subst hre hne hle hpe; obtain ⟨W6, hW6⟩ : ∃ x, w5.alloc (.cells #[.slice ra' g.rules.length rc', .slice na' g.nonts.length nc', .slice la' g.levels.length lc', .slice pa' g.prods.length pc', .int .i64 g.start] 28) = x := ⟨_, rfl⟩; have hB6 : Hid (Below w5.heap.size w5 W6) := (by rw [← hW6]; exact hid (al' w5 _)); have hk6 : W6.heap[w5.heap.size]? = some (.cells #[.slice ra' g.rules.length rc', .slice na' g.nonts.length nc', .slice la' g.levels.length lc', .slice pa' g.prods.length pc', .int .i64 g.start] 28 (0, 0)) := (by rw [← hW6]; exact heap_new w5 _); obtain ⟨x0, x1, x2, x3, x4⟩ := cells5m hk6; obtain ⟨z0, z1, z2, z3, z4⟩ := cells5m (hs_keep (hs_keep hk4.out hc5) hB6.out); have hw6 := hid (bl_step (bl_step hw4.out hc5) hB6.out); have hV6 := hid ((hV4.out.keep hc5).keep hB6.out); have hV6' := hid (hV'.keep hB6.out); clear hc5 hV' hk6)
        | (go_at_call 7; refine (GE.out _ _ _ _ _ _ _ _ W6 hV6.out hV6'.out).mono ?_; clear GE; rintro e w7 ⟨rfl, hc7⟩; have hw7 := hid (bl_step hw6.out hc7)))
      go_ret
      exact ⟨by simp, hw7.out⟩

end Go.Proofs.YtcledgljbmepaaaGreatDoor
