/- DfaSteps' walk. -/
import Derived.Test.YtlpbeieljjgbaaaGreatDoorJ42
namespace Go.Proofs.YtlpbeieljjgbaaaGreatDoor
open Go.RowKit

theorem goK_fore (N : List (List Int)) (s t : Txt) : ∀ i, i ≤ s.length → goK N (s ++ t) i = goK N s i
  | 0, _ => rfl
  | i + 1, h => by
    rw [goK_succ, goK_succ, goK_fore N s t i (by omega)]
    have e : (s ++ t).getD i 0 = s.getD i 0 := by
      rw [List.getD_eq_getElem?_getD, List.getD_eq_getElem?_getD, List.getElem?_append_left (by omega)]
    rw [e]
theorem goK_on (N : List (List Int)) (s t : Txt) (k : Nat) : goK N (s ++ t) (s.length + (k + 1)) = if goK N (s ++ t) (s.length + k) < 0 then -1 else (N.getD (goK N (s ++ t) (s.length + k)).toNat []).getD (t.getD k 0).toNat 0 := by
  rw [show s.length + (k + 1) = (s.length + k) + 1 by omega, goK_succ]
  have e : (s ++ t).getD (s.length + k) 0 = t.getD k 0 := by
    rw [List.getD_eq_getElem?_getD, List.getD_eq_getElem?_getD, List.getElem?_append_right (by omega), Nat.add_sub_cancel_left]
  rw [e]
set_option maxRecDepth 20000 in
set_option maxHeartbeats 8000000 in
theorem stepsWalk (v : Value) (L : List (List Cel)) (s t : Txt) (w : World) (hl : L.length * 24 ≤ 140737488351232) (hls : s.length ≤ 140737488351232) (hlt' : t.length ≤ 140737488351232) (hA : Celss w v L) (hT : Tab w) :
    Calls Tryz.prog 7 #[v, .string (strT s), .string (strT t)] w fun e w' => e = .returned (.bool true) ∧ Below w.heap.size w w' := by
  have GW := hid (wakes8 w hT)
  have GH := hid (fun u (hu : Below w.heap.size w u) => heavyC v L u (by omega) (hA.keep hu))
  obtain ⟨va, vc, rfl⟩ : ∃ a c, v = .slice a L.length c := by obtain ⟨a, c, e, _⟩ := hA; exact ⟨a, c, e⟩
  have hsz := strT_size s
  have htz := strT_size t
  cases hh : heavyB L with
  | true =>
    rw [hh] at GH
    clear hA hT hh
    go_enter Tryz.func7, Tryz.ntmps7
    go_wp2_with (first
      | (go_at_call 8; refine GW.out.mono ?_; rintro e w1 ⟨rfl, hb1⟩)
      | (go_at_call 14; refine (GH.out w1 hb1).mono ?_; rintro e u ⟨rfl, hu⟩; subst u))
    go_ret
    exact ⟨rfl, hb1⟩
  | false =>
    rw [hh] at GH
    obtain ⟨hL20, hl40⟩ := light hh
    have GR := hid (fun u (hu : Below w.heap.size w u) => rightsC _ L u (by omega) (hA.keep hu))
    cases hr : (L.all rightB && decide (L.length ≤ 16)) with
    | false =>
      rw [hr] at GR
      clear hA hT hh hr hl40
      go_enter Tryz.func7, Tryz.ntmps7
      go_wp2_with (first
        | (go_at_call 8; refine GW.out.mono ?_; rintro e w1 ⟨rfl, hb1⟩)
        | (go_at_call 14; refine (GH.out w1 hb1).mono ?_; rintro e u ⟨rfl, hu⟩; subst u)
        | (go_at_call 19; refine (GR.out w1 hb1).mono ?_; rintro e u ⟨rfl, hu⟩; subst u))
      go_ret
      exact ⟨rfl, hb1⟩
    | true =>
      rw [hr] at GR
      by_cases h200 : s.length + t.length ≤ 200
      case neg =>
        have h200z : (200 : Int) < (s.length : Int) + (t.length : Int) := by omega
        clear hA hT hh hr hl40
        go_enter Tryz.func7, Tryz.ntmps7
        go_wp2_with (first
          | (go_at_call 8; refine GW.out.mono ?_; rintro e w1 ⟨rfl, hb1⟩)
          | (go_at_call 14; refine (GH.out w1 hb1).mono ?_; rintro e u ⟨rfl, hu⟩; subst u)
          | (go_at_call 19; refine (GR.out w1 hb1).mono ?_; rintro e u ⟨rfl, hu⟩; subst u))
        go_ret
        exact ⟨rfl, hb1⟩
      have h200z : ¬ (200 : Int) < (s.length : Int) + (t.length : Int) := by omega
      rw [Bool.and_eq_true, decide_eq_true_iff] at hr
      obtain ⟨ts, hts, hok⟩ := trees_of hr.1
      have h16 : ts.length ≤ 16 := by have := hr.2; rw [hts, List.length_map] at this; exact this
      have GC := hid (fun u (hu : Below w.heap.size w u) => copiedC _ L u (hA.keep hu) (by omega) (fun l h => by have := hl40 l h; omega))
      have GB := hid (fun v' u (hc : Celss u v' L) (hu : Below w.heap.size w u) => buildGood v' ts u (by rw [← hts]; exact hc) h16 hok (hT.keep hu))
      have hans := hid (fun u nv av er (h : BldR ts u nv av er) => blt_of hok h)
      have hshC : Hid (∀ u v', Celss u v' L → ∃ a c, v' = .slice a L.length c) := hid (fun u v' h => by obtain ⟨a, c, e, _⟩ := h; exact ⟨a, c, e⟩)
      clear hA hT hh hr hl40 hts hok
      go_enter Tryz.func7, Tryz.ntmps7
      go_wp2_with (first
        | (go_at_call 8; refine GW.out.mono ?_; rintro e w1 ⟨rfl, hb1⟩)
        | (go_at_call 14; refine (GH.out w1 hb1).mono ?_; rintro e u ⟨rfl, hu⟩; subst u)
        | (go_at_call 19; refine (GR.out w1 hb1).mono ?_; rintro e u ⟨rfl, hu⟩; subst u)
        | (go_at_call 16; refine (GC.out w1 hb1).mono ?_; rintro e w2 ⟨v2, rfl, hC2, hb2⟩; obtain ⟨a2, c2, rfl⟩ := hshC.out _ _ hC2; have hb02 := hid (bl_step hb1 hb2); have hC2 := hid hC2)
        | (go_at_call 15; refine (GB.out _ w2 hC2.out hb02.out).mono ?_; rintro e w3 ⟨nv, av, er, rfl, hR, hb3⟩; have hR := hid hR; have hb03 := hid (bl_step hb02.out hb3); obtain ⟨na, nn, nc, rfl⟩ : (∃ a n c, nv = .slice a n c) := (by rcases hans.out _ _ _ _ hR.out with ⟨_, e1, _⟩ | ⟨_, all, n, _, ⟨a, c, e1, _⟩, _⟩; exact ⟨_, _, _, e1⟩; exact ⟨_, _, _, e1⟩); obtain ⟨aa, an, ac, rfl⟩ : (∃ a n c, av = .slice a n c) := (by rcases hans.out _ _ _ _ hR.out with ⟨_, _, e1⟩ | ⟨_, all, n, _, _, ⟨a, c, e1, _⟩⟩; exact ⟨_, _, _, e1⟩; exact ⟨_, _, _, e1⟩))
        | (go_at_call 11; fail))
      · rcases hans.out _ _ _ _ hR.out with ⟨h3, _⟩ | ⟨h3, _⟩
        · subst h3
          go_ret
          exact ⟨rfl, bl_step hb03.out (al' w3 _)⟩
        · subst h3
          rename_i hx
          first | exact absurd hx (by decide) | exact absurd (by decide) hx | simp at hx
      · rcases hans.out _ _ _ _ hR.out with ⟨h3, _⟩ | ⟨h3, all, n, hB, hN, hAc⟩
        · subst h3
          rename_i hx
          first | exact absurd hx (by decide) | exact absurd (by decide) hx | simp at hx
        have hQ := hB.rgt
        clear h3 hB GW GH GR GC GB hans hshC hR
        generalize nxtK all n = N at hN hQ
        generalize accK all n = A at hAc hQ
        obtain ⟨na', nc', e1, _⟩ := id hN
        injection e1 with e1 e2 e3
        subst e1 e2 e3
        obtain ⟨aa', ac', e1, _⟩ := id hAc
        injection e1 with e1 e2 e3
        subst e1 e2 e3
        have hal := hid (al' w3 (.cells #[.slice na N.length nc, .slice aa A.length ac] 25))
        have hbk := hid (heap_new w3 (.cells #[.slice na N.length nc, .slice aa A.length ac] 25))
        have hN' := hid (hN.keep hal.out)
        have hA' := hid (hAc.keep hal.out)
        have hend := hid (bl_step hb03.out hal.out)
        have hfew := hQ.few
        have hgB := hid (fun x => goB_yes (N := N) (A := A) (s := x) (rgtB_of hQ))
        have hgin := hid (fun i => goK_in hQ.rgt hQ.pos (s ++ t) i)
        have hrgt := hid hQ.rgt
        clear hN hAc hQ
        have hsw : Hid (w3.heap.size < (w3.alloc (.cells #[.slice na N.length nc, .slice aa A.length ac] 25)).heap.size) := hid (blk_lt hbk.out)
        generalize w3.alloc (.cells #[.slice na N.length nc, .slice aa A.length ac] 25) = W at *
        have G1 := hid (goD _ _ N A s W hN'.out hA'.out (by omega) (by omega))
        have G2 := hid (fun u (hu : Below W.heap.size W u) => goD _ _ N A (s ++ t) u (hN'.out.keep hu) (hA'.out.keep hu) (by omega) (by rw [List.length_append]; omega))
        rw [hgB.out s, ← goK_fore N s t s.length (Nat.le_refl _)] at G1
        rw [hgB.out (s ++ t), List.length_append] at G2
        have hstr : Hid (strT s ++ strT t = strT (s ++ t)) := hid (strT_app s t)
        obtain ⟨d0, d1, -⟩ := cells2m hbk.out
        clear hgB
        go_wp2_with (go_at_call 11; refine G1.out.mono ?_; rintro e w4 ⟨rfl, hb4⟩)
        have hb4 := hid hb4
        have d0' := hid (keep_cell hb4.out d0)
        have d1' := hid (keep_cell hb4.out d1)
        obtain ⟨g, hg⟩ : ∃ g : Nat → Int, Hid (∀ k, goK N (s ++ t) (s.length + k) = g k) := ⟨_, hid (fun k => rfl)⟩
        have hgz : Hid (goK N (s ++ t) s.length = g 0) := hid (hg.out 0)
        have hR : Hid (goK N (s ++ t) (s.length + t.length) = g t.length) := hid (hg.out _)
        have hon : Hid (∀ k, g (k + 1) = if g k < 0 then -1 else (N.getD (g k).toNat []).getD (t.getD k 0).toNat 0) := hid (fun k => by rw [← hg.out, ← hg.out, goK_on])
        have hgi : Hid (∀ k, -1 ≤ g k ∧ g k < (N.length : Int)) := hid (fun k => by rw [← hg.out]; exact hgin.out _)
        have hgout : Hid (∀ k, k ≤ t.length → g k < 0 → g t.length = -1) := hid (fun k hk hn => by
          by_cases e : k = t.length
          · have := (hgi.out k).1
            subst e
            omega
          · rw [← hg.out] at hn ⊢
            have := goK_out hn (t.length - k - 1)
            rw [show s.length + k + (t.length - k - 1) + 1 = s.length + t.length by omega] at this
            exact this)
        rw [hgz.out]
        rw [hR.out] at G2
        clear G1 hg hgz hR hgin d0 d1
        go_loopw [9, 10] (fun a i wr => ∃ k : Nat, k ≤ t.length ∧ i = .int .i64 k ∧ a = .int .i64 (g k) ∧ Below w4.heap.size w4 wr) (fun _ i _ => t.length - (intOf i).toNat)
        case atStart => exact ⟨0, Nat.zero_le _, rfl, rfl, Below.refl _ _⟩
        case round =>
          obtain ⟨k, hk, rfl, rfl, hbl⟩ := hrel
          have hWr : Hid (Below W.heap.size W wr) := hid (bl_step hb4.out hbl)
          have hc0 : wr.cell? ⟨w3.heap.size, 0, none⟩ = some (.slice na N.length nc) := keep_cell hbl d0'.out
          have hc1 : wr.cell? ⟨w3.heap.size, 1, none⟩ = some (.slice aa A.length ac) := keep_cell hbl d1'.out
          have hgk := hgi.out k
          have hgo := hid (hgout.out k hk)
          have hst := hid (hon.out k)
          by_cases hgo' : k < t.length ∧ 0 ≤ g k
          · obtain ⟨hlt, hpos⟩ := hgo'
            have hltz : (k : Int) < (t.length : Int) := by omega
            have hltn : k < (strT t).size := by omega
            generalize g k = at0 at hgk hst hpos hgo ⊢
            obtain ⟨m, rfl⟩ : ∃ m : Nat, at0 = (m : Int) := ⟨at0.toNat, by omega⟩
            have hm : m < N.length := by omega
            obtain ⟨b1, o1, x, rfl, hb1, hx, hNx⟩ := numss_get (hN'.out.keep hWr.out) hm
            have hrow := hrgt.out m hm
            have hcl : (t.getD k 0).toNat < (N.getD m []).length := by rw [hrow.1]; exact (t.getD k 0).toNat_lt
            obtain ⟨b2, o2, c2, rfl, hb2, hy⟩ := nums_get hNx hcl
            have hlen := hrow.1
            rw [hlen] at hx hcl
            have hgd : t.getD k 0 = t[k]'hlt := by rw [List.getD_eq_getElem?_getD, List.getElem?_eq_getElem hlt]; rfl
            have key : (((strT t)[k]'hltn).toNat : Int) = ((t.getD k 0).toNat : Int) := by rw [hgd]; exact congrArg (fun c : UInt8 => (c.toNat : Int)) (strT_at t k hltn hlt)
            have hgs' : Hid (g (k + 1) = (N.getD m []).getD (t.getD k 0).toNat 0) := hid (by rw [hst.out, if_neg (by omega), Int.toNat_natCast])
            clear hst hrow hgd hNx hgo
            generalize (N.getD m []).getD (t.getD k 0).toNat 0 = y at hy hgs'
            generalize (t.getD k 0).toNat = c at *
            have hcz : (c : Int) < 256 := by omega
            have hmz : (m : Int) < (N.length : Int) := by omega
            go_wp2_with fail
            go_quiet (fail)
            go_wp2
            go_roundw
            case rel => exact ⟨k + 1, by omega, by go_num, by rw [hgs'.out], by first | exact hbl | exact belowN hbl⟩
            case measure => simp [intOf]; omega
          · have hres : Hid (g k = g t.length) := hid (by
              by_cases e : k = t.length
              · rw [e]
              · have := hgo.out (by omega)
                omega)
            by_cases hlt : k < t.length
            · have hltz : (k : Int) < (t.length : Int) := by omega
              have hneg : ¬ 0 ≤ g k := fun h => hgo' ⟨hlt, h⟩
              rw [← hres.out] at G2
              generalize g k = at0 at hgk hneg G2 ⊢
              have G2' := G2.out wr hWr.out
              rw [← hstr.out] at G2'
              have G2' := hid G2'
              clear hgo hst hres hgo' G2
              go_wp2_with (go_at_call 11; refine G2'.out.mono ?_; rintro e w5 ⟨rfl, hb5⟩)
              go_ret
              exact ⟨by simp, bl_step hend.out (bl_step hWr.out hb5)⟩
            · have hltz : ¬ (k : Int) < (t.length : Int) := by omega
              rw [← hres.out] at G2
              generalize g k = at0 at hgk G2 ⊢
              have G2' := G2.out wr hWr.out
              rw [← hstr.out] at G2'
              have G2' := hid G2'
              clear hgo hst hres hgo' G2
              go_wp2_with (go_at_call 11; refine G2'.out.mono ?_; rintro e w5 ⟨rfl, hb5⟩)
              go_ret
              exact ⟨by simp, bl_step hend.out (bl_step hWr.out hb5)⟩

end Go.Proofs.YtlpbeieljjgbaaaGreatDoor
