/- topiaryref08.Same: an automaton is the same as itself, wherever the two lie. dfa.placesOf, where a rule isn't right. dfa.Build, of rules that are refused. -/
import Derived.Test.YtlpbeieljjgbaaaGreatDoorJB0
import Derived.Test.YtlpbeieljjgbaaaGreatDoorJ32
import Derived.Test.YtlpbeieljjgbaaaGreatDoorJ33
import Derived.Test.YtlpbeieljjgbaaaGreatDoorJ23
import Derived.Lib.QuietBelow
import Derived.BigQuiet
namespace Go.Proofs.YtlpbeieljjgbaaaGreatDoor
open Go.RowKit Go.Sort

set_option maxRecDepth 20000 in
set_option maxHeartbeats 4000000 in
theorem refSameD (nv av nv' av' : Value) (N : List (List Int)) (A : List Int) (w : World) (hN : Numss w nv N) (hA : Nums w av A) (hN2 : Numss w nv' N) (hA2 : Nums w av' A)
    (hl : N.length ≤ 1000) (hla : A.length ≤ 1000) (hr : ∀ j, j < N.length → (N.getD j []).length ≤ 1000) :
    Calls Tryz.prog 18 #[.agg #[nv, av], .agg #[nv', av']] w fun e w' => e = .returned (.bool true) ∧ Below w.heap.size w w' := by
  obtain ⟨na, nc, rfl⟩ : ∃ a c, nv = .slice a N.length c := by obtain ⟨a, c, e, _⟩ := hN; exact ⟨a, c, e⟩
  obtain ⟨va, vc, rfl⟩ : ∃ a c, av = .slice a A.length c := by obtain ⟨a, c, e, _⟩ := hA; exact ⟨a, c, e⟩
  obtain ⟨na2, nc2, rfl⟩ : ∃ a c, nv' = .slice a N.length c := by obtain ⟨a, c, e, _⟩ := hN2; exact ⟨a, c, e⟩
  obtain ⟨va2, vc2, rfl⟩ : ∃ a c, av' = .slice a A.length c := by obtain ⟨a, c, e, _⟩ := hA2; exact ⟨a, c, e⟩
  obtain ⟨W1, hW1⟩ : ∃ W1, Hid (w.alloc (.cells #[.slice na N.length nc, .slice va A.length vc] 25) = W1) := ⟨_, hid rfl⟩
  obtain ⟨W2, hW2⟩ : ∃ W2, Hid (W1.alloc (.cells #[.slice na2 N.length nc2, .slice va2 A.length vc2] 25) = W2) := ⟨_, hid rfl⟩
  have hb1 : Hid (Below w.heap.size w W1) := hid (hW1.out ▸ al' w _)
  have hb2 : Hid (Below W1.heap.size W1 W2) := hid (hW2.out ▸ al' W1 _)
  have hbb := hid (bl_step hb1.out hb2.out)
  have hk1 : Hid (W1.heap[w.heap.size]? = some (.cells #[.slice na N.length nc, .slice va A.length vc] 25)) := hid (hW1.out ▸ heap_new w _)
  have hk2 : Hid (W2.heap[W1.heap.size]? = some (.cells #[.slice na2 N.length nc2, .slice va2 A.length vc2] 25)) := hid (hW2.out ▸ heap_new W1 _)
  have hk3 := hid ((hb2.out.block _ (blk_lt hk1.out)).trans hk1.out)
  have p0 : W2.cell? ⟨w.heap.size, 0, none⟩ = some (.slice na N.length nc) := blk_cell hk3.out rfl
  have p1 : W2.cell? ⟨w.heap.size, 1, none⟩ = some (.slice va A.length vc) := blk_cell hk3.out rfl
  have q0 : W2.cell? ⟨W1.heap.size, 0, none⟩ = some (.slice na2 N.length nc2) := blk_cell hk2.out rfl
  have q1 : W2.cell? ⟨W1.heap.size, 1, none⟩ = some (.slice va2 A.length vc2) := blk_cell hk2.out rfl
  have GA := hid (refSame _ _ A A W2 (by omega) (by omega) (hA.keep hbb.out) (hA2.keep hbb.out))
  rw [decide_eq_true rfl] at GA
  have GN := hid (fun j (hj : j < N.length) u (hu : Below W2.heap.size W2 u) => (⟨numss_get (hN.keep (bl_step hbb.out hu)) hj, numss_get (hN2.keep (bl_step hbb.out hu)) hj⟩ : _ ∧ _))
  have hr' := hid hr
  clear hN hA hN2 hA2 hr
  go_enter Tryz.func18, Tryz.ntmps18
  have hW1' := hW1.out
  have hW2' := hW2.out
  go_wp2_with (first | (go_at_call 35; refine GA.out.mono ?_; rintro e w3 ⟨rfl, hb3⟩))
  have hb3 := hid hb3
  have P0 := hid (keep_cell hb3.out p0)
  have Q0 := hid (keep_cell hb3.out q0)
  clear p0 p1 q0 q1 GA hW1' hW2' hk1 hk2 hk3
  go_loopw [5] (fun i wr => ∃ k : Nat, k ≤ N.length ∧ i = .int .i64 k ∧ Below w3.heap.size w3 wr) (fun i _ => N.length - (intOf i).toNat)
  case atStart => exact ⟨0, Nat.zero_le _, rfl, Below.refl _ _⟩
  case round =>
    obtain ⟨k, hk, rfl, hbl⟩ := hrel
    have hWr := hid (bl_step hb3.out hbl)
    have c0 := keep_cell hbl P0.out
    have c1 := keep_cell hbl Q0.out
    by_cases hlt : k < N.length
    · have hltz : (k : Int) < (N.length : Int) := by omega
      obtain ⟨⟨b1, o1, x, rfl, _, hx, hNx⟩, b2, o2, y, rfl, _, hy, hNy⟩ := GN.out k hlt wr hWr.out
      have hrk := hr'.out k hlt
      have cA : Hid (∀ d os, Calls Tryz.prog 35 #[x, y] (grow (redrawn wr d) os) fun e w'' => e = .returned (.bool true) ∧ ∃ p : Regrown, w'' = grow (redrawn wr p.d) p.os) := hid (fun d os => Calls.regrown_of (by
        have := refSame x y (N.getD k []) (N.getD k []) _ (by omega) (by omega) (hNx.keep (below_regrown wr d os)) (hNy.keep (below_regrown wr d os))
        rw [decide_eq_true rfl] at this
        exact this))
      have k0 := cell_regrown c0
      have k1 := cell_regrown c1
      have kx := cell_regrown hx
      have ky := cell_regrown hy
      clear hNx hNy hrk
      go_wp2_with fail
      refine wp_region_quiet_below (by kernel_rfl) (by kernel_rfl) ?_
      repeat (first | go_big_quiet_step (exact cA.out _ _) | quiet_step (exact cA.out _ _))
      refine wpQuiet_nil ?_
      intro _ hw'
      obtain ⟨⟨dq, osq⟩, hw''⟩ := hw'
      subst hw''
      have hq := hid (below_regrown wr dq osq)
      generalize grow (redrawn wr dq) osq = wz at *
      go_wp2
      go_roundw
      case rel => exact ⟨k + 1, by omega, by go_num, bl_step hbl hq.out⟩
      case measure => simp [intOf]; omega
    · have hltz : ¬ (k : Int) < (N.length : Int) := by omega
      go_wp2
      go_ret
      exact ⟨rfl, bl_step hbb.out hWr.out⟩

end Go.Proofs.YtlpbeieljjgbaaaGreatDoor
namespace Go.Proofs.YtlpbeieljjgbaaaGreatDoor
open Go.RowKit

set_option maxRecDepth 20000 in
set_option maxHeartbeats 8000000 in
theorem placesBad (v : Value) (L : List (List Cel)) (ts : List Rx) (l : List Cel) (w : World) (hA : Celss w v L) (hn : L.length ≤ 16) (hpre : ∀ j (h : j < ts.length), L[j]? = some (post ts[j])) (hbad : L[ts.length]? = some l) (hl : rightB l = false) (hok : ∀ t ∈ ts, t.ok ∧ (post t).length ≤ 60) :
    Calls Tryz.prog 23 #[v] w fun z w' => z = .returned (.tuple #[.agg #[.int .i64 0, .slice none 0 0, .slice none 0 0, .slice none 0 0], .int .i64 1]) ∧ Below w.heap.size w w' := by
  obtain ⟨aa, ca, rfl, hca, hnil, hat⟩ := hA
  have hKL : ts.length < L.length := by
    by_cases h : ts.length < L.length
    · exact h
    · rw [List.getElem?_eq_none (by omega)] at hbad
      cases hbad
  have hat' : Hid (∀ j, j < ts.length → ∃ b o x t, aa = some ⟨b, o, none⟩ ∧ b < w.heap.size ∧ w.cell? ⟨b, o + j, none⟩ = some x ∧ Cels w x (post t) ∧ t.ok ∧ (post t).length ≤ 60 ∧ ts[j]? = some t) := hid (fun j hj => by
    have hjL : j < L.length := by omega
    obtain ⟨b, o, x, h1, h2, h3, h4⟩ := hat j hjL
    have e := hpre j hj
    rw [List.getElem?_eq_getElem hjL] at e
    injection e with e
    rw [e] at h4
    have := hok _ (List.getElem_mem hj)
    exact ⟨b, o, x, ts[j], h1, h2, h3, h4, this.1, this.2, List.getElem?_eq_getElem hj⟩)
  have hbd' : Hid (∃ b o x, aa = some ⟨b, o, none⟩ ∧ b < w.heap.size ∧ w.cell? ⟨b, o + ts.length, none⟩ = some x ∧ Cels w x l) := hid (by
    obtain ⟨b, o, x, h1, h2, h3, h4⟩ := hat ts.length hKL
    rw [List.getElem?_eq_getElem hKL] at hbad
    injection hbad with e
    rw [e] at h4
    exact ⟨b, o, x, h1, h2, h3, h4⟩)
  clear hbad hpre
  clear hat hnil hca hok
  generalize ts.length = K at *
  generalize L.length = R at *
  have m1 := makeSets R (by omega)
  have m2 := makeNs R (by omega)
  have hnz : ¬ (16 : Int) < (R : Int) := by omega
  go_enter Tryz.func23, Tryz.ntmps23
  go_wp2_with fail
  apply collapse
  case h =>
    intro rest
    go_region
    all_goals first
      | exact rest.out _ _ _ _ (hid ⟨by first | exact (heap3 w _ _ _ _).1 | exact (heap3 w _ _ _ _).2.1 | exact (heap3 w _ _ _ _).2.2.1, by first | exact (heap3 w _ _ _ _).1 | exact (heap3 w _ _ _ _).2.1 | exact (heap3 w _ _ _ _).2.2.1, by first | exact (heap3 w _ _ _ _).1 | exact (heap3 w _ _ _ _).2.1 | exact (heap3 w _ _ _ _).2.2.1, by omega, by omega, by omega, by omega, by omega, by omega, (heap3 w _ _ _ _).2.2.2.1, (heap3 w _ _ _ _).2.2.2.2⟩)
      | (have hall : Hid (PlS w R (w.heap.size + 1 + 1 + 1) (w.heap.size + 1) (w.heap.size + 1 + 1) ((((w.alloc (.cells #[.int .i64 0, .slice none 0 0, .slice none 0 0, .slice none 0 0] 49)).alloc (.cells (madeCells #[.int .u64 0, .int .u64 0, .int .u64 0, .int .u64 0] (R * 4)) 80)).alloc (.cells (madeCells #[.slice none 0 0] R) 23)).alloc (.cells #[.int .i64 (R : Int), .slice (some ⟨w.heap.size + 1, 0, none⟩) R R, .slice (some ⟨w.heap.size + 1 + 1, 0, none⟩) R R, .slice none 0 0] 49)).drew) := hid ⟨(heap3 w _ _ _ _).2.2.1, (heap3 w _ _ _ _).1, (heap3 w _ _ _ _).2.1, by omega, by omega, by omega, by omega, by omega, by omega, (heap3 w _ _ _ _).2.2.2.1, (heap3 w _ _ _ _).2.2.2.2⟩
         generalize ((((w.alloc (.cells #[.int .i64 0, .slice none 0 0, .slice none 0 0, .slice none 0 0] 49)).alloc (.cells (madeCells #[.int .u64 0, .int .u64 0, .int .u64 0, .int .u64 0] (R * 4)) 80)).alloc (.cells (madeCells #[.slice none 0 0] R) 23)).alloc (.cells #[.int .i64 (R : Int), .slice (some ⟨w.heap.size + 1, 0, none⟩) R R, .slice (some ⟨w.heap.size + 1 + 1, 0, none⟩) R R, .slice none 0 0] 49)).drew = W at hall ⊢
         generalize w.heap.size + 1 + 1 + 1 = pb at hall ⊢
         generalize w.heap.size + 1 + 1 = b2 at hall ⊢
         generalize w.heap.size + 1 = b1 at hall ⊢
         revert hall
         revert W pb b1 b2
         exact rest.out)
  case pf =>
    intro W pb b2 b1 hall
    obtain ⟨q1, q2, q3, e1, e2, e3, g0, g1, g2, hz, hbW⟩ := hall.out
    obtain ⟨t1, t2, t3, t4⟩ := spotsAll_start R
    have hK0 : Hid (PlK (w.heap.size + 1) pb R 0 ts W (List.replicate R noSp)) := hid ⟨t1, fun i t hi => absurd hi (Nat.not_lt_zero _), by rw [t2, t3, t4]; exact ⟨_, _, _, _, _, PlO.start (by omega) q1 q2 q3 e1 e2 e3 g0 g1 g2⟩⟩
    have hbW := hid hbW
    have hz := hid hz
    have hWs : w.heap.size + 1 ≤ W.heap.size := by have := blk_lt hz.out; omega
    have hpW := blk_lt q1
    clear hall q1 q2 q3 e1 e2 e3 g1 g2 t1 t2 t3 t4 m1 m2
    go_wp2_with fail
    go_loopw [24] (fun i wr => ∃ (k : Nat) (all : List Sp), k ≤ K ∧ i = .int .i64 k ∧ Hid (PlK (w.heap.size + 1) pb R k ts wr all) ∧ Below (w.heap.size + 1) W wr) (fun i _ => R - (intOf i).toNat)
    case atStart => exact ⟨0, _, Nat.zero_le _, rfl, hK0, (Below.refl _ _).mono hWs⟩
    case round =>
      obtain ⟨k, all, hk, rfl, hK, hbl⟩ := hrel
      have hsz := hbl.size
      have hblw : Hid (Below w.heap.size w wr) := hid (hbW.out.trans (hbl.mono (by omega)))
      by_cases hlt : k < K
      · have hltz : (k : Int) < (R : Int) := by omega
        obtain ⟨b, o, x, t, rfl, hb, hx, hC, hto, h60, hts⟩ := hat'.out k hlt
        have hx' := keep_cell hblw.out hx
        have GS := hid (sofGood x t wr (hC.keep hblw.out) hto h60)
        have hsm : Hid (∀ i, i < k → SmlS (all.getD i noSp)) := hid (fun i hi => by
          obtain ⟨_, _, _, t', _, _, _, _, _, h60', hts'⟩ := hat'.out i (by omega)
          exact (hK.out.is i t' hi hts').sml h60')
        have hob := offP_bd k hsm.out
        have hfb := firP_bd k hsm.out
        rw [hK.out.len] at hob
        obtain ⟨F, sv, bv, fv, gs, hM⟩ := hK.out.pl
        have hM := hid hM
        have hgl : gs.length ≤ 2000 := by rw [hM.out.nums.1, behP_len]; omega
        have hSl : (setsP all k).length ≤ 2000 := by rw [setsP_len]; omega
        have hnext : Hid (∀ p w3, SpAt t p → PlX (w.heap.size + 1) pb R w3 (setsP all k ++ p.sets) (behP all k ++ begB (setsP all k).length k p p.sets.length) (firP all k ++ (movL (setsP all k).length p.first ++ (if p.null then [(k : Int)] else []))) → PlK (w.heap.size + 1) pb R (k + 1) ts w3 (all.set k p)) := hid (fun p w3 hp h3 => by
          have hka : k < all.length := by rw [hK.out.len]; omega
          obtain ⟨s1, s2, s3⟩ := places_step hka p
          refine ⟨by rw [List.length_set]; exact hK.out.len, fun i t' hi ht' => ?_, by rw [s1, s2, s3]; exact h3⟩
          by_cases e : i = k
          · subst e
            rw [set_at hka, show t' = t from by rw [hts] at ht'; injection ht' with ht'; exact ht'.symm]
            exact hp
          · rw [← (agr_set (a := all) (k := k) p).2 i (by omega)]
            exact hK.out.is i t' (by omega) ht')
        have GA := hid (fun rs rf rl rg fl w2 (h0 : Below wr.heap.size wr w2) (h1 : SpVF (fun k => k < wr.heap.size) w2 rs rf rl rg (spOf t fl)) (h2 : FolOK (FolS [t]) (nS [t]) fl) => addC (w.heap.size + 1) pb R wr.heap.size k F sv bv fv (setsP all k) gs (behP all k) (firP all k) (spOf t fl) rs rf rl rg w2 (hM.out.keep h0) h0.size hM.out.lt h1 (SpAt.sml ⟨fl, rfl, h2⟩ h60) hSl hgl (by omega) (by omega))
        have hshape : Hid (∀ u rs rf rl rg fl, SpVF (fun k => k < wr.heap.size) u rs rf rl rg (spOf t fl) → (∃ a c, rs = .slice a (setsS [t]).length c) ∧ (∃ a c, rf = .slice a (firstL t 0).length c) ∧ (∃ a c, rl = .slice a (lastL t 0).length c) ∧ (∃ a c, rg = .slice a fl.length c)) := hid (fun u rs rf rl rg fl h => by
          obtain ⟨a1, c1, e1, _⟩ := h.spv.sets
          obtain ⟨a2, c2, e2, _⟩ := h.spv.first
          obtain ⟨a3, c3, e3, _⟩ := h.spv.last
          obtain ⟨a4, c4, e4, _⟩ := h.spv.follow
          exact ⟨⟨a1, c1, e1⟩, ⟨a2, c2, e2⟩, ⟨a3, c3, e3⟩, ⟨a4, c4, e4⟩⟩)
        have hBs : w.heap.size + 1 ≤ wr.heap.size := by omega
        clear hob hfb hgl hSl hC hx
        generalize hns : (setsS [t]).length = ns at hshape
        generalize hnf : (firstL t 0).length = nf at hshape
        generalize hnl : (lastL t 0).length = nl at hshape
        clear hns hnf hnl
        go_wp2_with (first
          | (go_at_call 38; refine GS.out.mono ?_; rintro z w1 ⟨rs, rf, rl, rg, fl, rfl, hV, hF, hb1⟩; have hF := hid hF; have hV := hid hV; obtain ⟨⟨ra, rc, rfl⟩, ⟨fa, fc, rfl⟩, ⟨la, lc, rfl⟩, ⟨ga, gc, rfl⟩⟩ := hshape.out _ _ _ _ _ _ hV.out; have hal1 := hid (al' w1 (.cells #[.slice ra ns rc, .bool t.null, .slice fa nf fc, .slice la nl lc, .slice ga fl.length gc] 64)); have G2 := hid (GA.out _ _ _ _ fl _ (bl_step hb1 hal1.out) (hV.out.keep hal1.out) hF.out))
          | (go_at_call 39; refine G2.out.mono ?_; rintro z w3 ⟨rfl, hX3, hb3⟩; have hK3 := hid (hnext.out (spOf t fl) w3 ⟨fl, rfl, hF.out⟩ hX3); have hb3' := hid (hbl.trans (((bl_step hb1 hal1.out).mono hBs).trans hb3))))
        go_roundw
        case rel => exact ⟨k + 1, _, by omega, by go_num, hK3, hb3'.out⟩
        case measure => simp [intOf]; omega
      · obtain rfl : k = K := by omega
        have hltz : (k : Int) < (R : Int) := by omega
        obtain ⟨b, o, x, rfl, hb, hx, hC⟩ := hbd'.out
        have hx' := keep_cell hblw.out hx
        have GS := hid (sofBad x l wr (hC.keep hblw.out) hl)
        have hz1 := hid ((hbl.block w.heap.size (by omega)).trans hz.out)
        clear hC hx
        go_wp2_with (go_at_call 38; refine GS.out.mono ?_; rintro z w1 ⟨rfl, hb1⟩; have hal1 := hid (al' w1 (.cells #[nilV, .bool false, nilV, nilV, nilV] 64)); have hbz := hid (bl_step hb1 hal1.out); have hz2 := hid ((hbz.out.block w.heap.size (blk_lt hz1.out)).trans hz1.out); obtain ⟨x0, x1, x2, x3, y0, y1, y2, y3⟩ := cells4p hz2.out; have hfb := putP4_blk (y0 := .int .i64 0) (y1 := .slice none 0 0) (y2 := .slice none 0 0) (y3 := .slice none 0 0) hz2.out; obtain ⟨r0, r1, r2, r3, -⟩ := cells4p hfb; unfold putP4 at r0 r1 r2 r3; have hKf : Hid (Kept (oneBlk w.heap.size) (w1.alloc (.cells #[nilV, .bool false, nilV, nilV, nilV] 64)) (putP4 (w1.alloc (.cells #[nilV, .bool false, nilV, nilV, nilV] 64)) w.heap.size (.int .i64 0) (.slice none 0 0) (.slice none 0 0) (.slice none 0 0))) := hid (putP4_kept (Kept.refl _ _) rfl); clear hfb)
        have hbe := bl_step hblw.out hbz.out
        exact bodyPost_ret (v := .tuple #[.agg #[.int .i64 0, .slice none 0 0, .slice none 0 0, .slice none 0 0], .int .i64 1]) (by simp [results, Tryz.results23, go_sem, r0, r1, r2, r3]) rfl ⟨rfl, hbe.trans (hKf.out.below (fun j e => by have e' : j = w.heap.size := e; omega) hbe.size)⟩
set_option maxRecDepth 20000 in
/-- .. and where they are too many -/
theorem placesMany (a : Option Addr) (n c : Nat) (w : World) (hn : 16 < n) (hn2 : n ≤ 9223372036854775807) :
    Calls Tryz.prog 23 #[.slice a n c] w fun z w' => z = .returned (.tuple #[.agg #[.int .i64 0, .slice none 0 0, .slice none 0 0, .slice none 0 0], .int .i64 1]) ∧ Below w.heap.size w w' := by
  have hnz : (16 : Int) < (n : Int) := by omega
  have hal := hid (al' w (.cells #[.int .i64 0, .slice none 0 0, .slice none 0 0, .slice none 0 0] 49))
  have hz := hid (heap_new w (.cells #[.int .i64 0, .slice none 0 0, .slice none 0 0, .slice none 0 0] 49))
  obtain ⟨x0, x1, x2, x3, y0, y1, y2, y3⟩ := cells4p hz.out
  go_enter Tryz.func23, Tryz.ntmps23
  go_wp2
  exact bodyPost_ret (v := .tuple #[.agg #[.int .i64 0, .slice none 0 0, .slice none 0 0, .slice none 0 0], .int .i64 1]) (by simp [results, Tryz.results23, go_sem, x0, x1, x2, x3]) rfl ⟨rfl, hal.out⟩

end Go.Proofs.YtlpbeieljjgbaaaGreatDoor
namespace Go.Proofs.YtlpbeieljjgbaaaGreatDoor
open Go.RowKit

theorem put2n_blk {w : World} {b : Nat} {x0 x1 : Value} {T : TypeId} {fr : Nat × Nat} (h : w.heap[b]? = some (.cells #[x0, x1] T fr)) : ((w.setCell ⟨b, 0, none⟩ (.slice none 0 0)).setCell ⟨b, 1, none⟩ (.slice none 0 0)).heap[b]? = some (.cells #[.slice none 0 0, .slice none 0 0] T fr) := heap_setCell (heap_setCell h)
theorem no_facts {w w1 : World} (hb1 : Below (w.alloc (.cells #[.slice none 0 0, .slice none 0 0] 25)).heap.size (w.alloc (.cells #[.slice none 0 0, .slice none 0 0] 25)) w1) :
    Below w.heap.size w (w1.alloc (.cells #[.int .i64 0, .slice none 0 0, .slice none 0 0, .slice none 0 0] 49)) ∧
    (w1.alloc (.cells #[.int .i64 0, .slice none 0 0, .slice none 0 0, .slice none 0 0] 49)).cell? ⟨w.heap.size, 0, none⟩ = some (.slice none 0 0) ∧ (w1.alloc (.cells #[.int .i64 0, .slice none 0 0, .slice none 0 0, .slice none 0 0] 49)).cell? ⟨w.heap.size, 1, none⟩ = some (.slice none 0 0) ∧
    (w1.alloc (.cells #[.int .i64 0, .slice none 0 0, .slice none 0 0, .slice none 0 0] 49)).frozen? ⟨w.heap.size, 0, none⟩ = false ∧ (w1.alloc (.cells #[.int .i64 0, .slice none 0 0, .slice none 0 0, .slice none 0 0] 49)).frozen? ⟨w.heap.size, 1, none⟩ = false ∧
    (((w1.alloc (.cells #[.int .i64 0, .slice none 0 0, .slice none 0 0, .slice none 0 0] 49)).setCell ⟨w.heap.size, 0, none⟩ (.slice none 0 0)).setCell ⟨w.heap.size, 1, none⟩ (.slice none 0 0)).cell? ⟨w.heap.size, 0, none⟩ = some (.slice none 0 0) ∧
    (((w1.alloc (.cells #[.int .i64 0, .slice none 0 0, .slice none 0 0, .slice none 0 0] 49)).setCell ⟨w.heap.size, 0, none⟩ (.slice none 0 0)).setCell ⟨w.heap.size, 1, none⟩ (.slice none 0 0)).cell? ⟨w.heap.size, 1, none⟩ = some (.slice none 0 0) := by
  have hz0 := heap_new w (.cells #[.slice none 0 0, .slice none 0 0] 25)
  have hbz := bl_step hb1 (al' w1 (.cells #[.int .i64 0, .slice none 0 0, .slice none 0 0, .slice none 0 0] 49))
  have hz2 := (hbz.block w.heap.size (blk_lt hz0)).trans hz0
  obtain ⟨x0, x1, y0, y1⟩ := cells2m hz2
  obtain ⟨r0, r1, _⟩ := cells2m (put2n_blk hz2)
  exact ⟨bl_step (al' w _) hbz, x0, x1, y0, y1, r0, r1⟩
set_option maxRecDepth 20000 in
/-- Build hands on what placesOf refuses -/
theorem buildNo (v : Value) (w : World) (h : ∀ u, Below w.heap.size w u → Calls Tryz.prog 23 #[v] u fun z w' => z = .returned (.tuple #[.agg #[.int .i64 0, .slice none 0 0, .slice none 0 0, .slice none 0 0], .int .i64 1]) ∧ Below u.heap.size u w') :
    Calls Tryz.prog 15 #[v] w fun z w' => z = .returned (.tuple #[.agg #[.slice none 0 0, .slice none 0 0], .int .i64 1]) ∧ Below w.heap.size w w' := by
  have hb0 := hid (al' w (.cells #[.slice none 0 0, .slice none 0 0] 25))
  have GP := hid (h _ hb0.out)
  clear h
  go_enter Tryz.func15, Tryz.ntmps15
  go_wp2_with (go_at_call 23; refine GP.out.mono ?_; rintro z w1 ⟨rfl, hb1⟩; obtain ⟨hbe, x0, x1, y0, y1, r0, r1⟩ := no_facts hb1; have hbe := hid hbe)
  exact bodyPost_ret (v := .tuple #[.agg #[.slice none 0 0, .slice none 0 0], .int .i64 1]) (by simp [results, Tryz.results15, go_sem, r0, r1]) rfl ⟨rfl, bl_set (bl_set hbe.out w.heap.size 0 _ (Nat.le_refl _)) w.heap.size 1 _ (Nat.le_refl _)⟩

end Go.Proofs.YtlpbeieljjgbaaaGreatDoor
