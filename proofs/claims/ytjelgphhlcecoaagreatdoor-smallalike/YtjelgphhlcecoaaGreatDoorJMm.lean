/- topiaryref09.Make. SmallMakes' walk. -/
import Derived.Test.YtjelgphhlcecoaaGreatDoorJSp
import Derived.Test.YtjelgphhlcecoaaGreatDoorJ36
import Derived.Test.YtjelgphhlcecoaaGreatDoorJSl
import Derived.Deep.QuietTactic
namespace Go.Proofs.YtjelgphhlcecoaaGreatDoor
open Go.RowKit Go.Maps Go.Sort

theorem MkS.start {w0 w : World} (hb : Below w0.heap.size w0 w) : MkS w.heap.size w0 (w.alloc (.cells #[.slice none 0 0, .slice none 0 0] 25)) (fun k => k = w.heap.size) (fun _ => False) (.slice none 0 0) (.slice none 0 0) (.slice none 0 0) [] [] [] [] :=
  ⟨DfO.start hb.size (fun _ h => h.elim), World.ownsRow_nil _ _ _ _, fun k e => (by cases e), fun _ h => h.elim, fun _ h => h.elim, fun k e => by rw [e]; exact hb.size, bl_step hb (al' w _), fun j => Off.nil _⟩
/-- what the flags tell -/
def alF (F : List (List Bool)) (i k : Nat) : Bool := !flg F i k
theorem alF_AlB {N : List (List Int)} {A : List Int} {F : List (List Bool)} (hr : RgtN N) (h : FlgS N A F) (hd : DoneF N F) : AlB N A (alF F) := fun i k hi hk => by
  rw [← h.done hr hd i k hi hk]
  unfold alF
  cases flg F i k <;> simp
/-- the number that is found among the first k -/
def lastK (F : List (List Bool)) (S : List Nat) (to k : Nat) : Int := if S.findIdx (alF F to) < k then (S.findIdx (alF F to) : Int) else -1
theorem lastK_zero (F : List (List Bool)) (S : List Nat) (to : Nat) : lastK F S to 0 = -1 := by unfold lastK; rw [if_neg (by omega)]
theorem lastK_yes {N : List (List Int)} {A : List Int} {F : List (List Bool)} (hal : AlB N A (alF F)) {S : List Nat} (hS : MetS N A S) {to k : Nat} (hto : to ≤ N.length) (hk : k < S.length) (h : flg F to (S.getD k 0) = false) : lastK F S to (k + 1) = (k : Int) ∧ S.findIdx (alF F to) = k := by
  have h1 : alF F to S[k] = true := by rw [getD_el hk] at h; unfold alF; rw [h]; rfl
  have h2 : S.findIdx (alF F to) < S.length := List.findIdx_lt_length_of_exists ⟨_, List.getElem_mem hk, h1⟩
  have h3 := List.findIdx_getElem (w := h2)
  have e : S.findIdx (alF F to) = k := by
    have a1 := (hal to _ hto (Nat.le_of_lt (hS.lt _ (List.getElem_mem h2)))).1 h3
    have a2 := (hal to _ hto (Nat.le_of_lt (hS.lt _ (List.getElem_mem hk)))).1 h1
    exact hS.apart _ _ h2 hk (a1.symm.trans a2)
  refine ⟨?_, e⟩
  unfold lastK
  rw [e, if_pos (by omega)]
theorem lastK_no {F : List (List Bool)} {S : List Nat} {to k : Nat} (hk : k < S.length) (h : flg F to (S.getD k 0) = true) : lastK F S to (k + 1) = lastK F S to k := by
  unfold lastK
  have hne : S.findIdx (alF F to) ≠ k := fun e => by
    have h2 : S.findIdx (alF F to) < S.length := by omega
    have h3 := List.findIdx_getElem (w := h2)
    rw [getD_el hk] at h
    simp only [e] at h3
    unfold alF at h3
    rw [h] at h3
    cases h3
  by_cases h1 : S.findIdx (alF F to) < k
  · rw [if_pos (by omega), if_pos h1]
  · rw [if_neg (by omega), if_neg h1]
set_option maxRecDepth 20000 in
set_option maxHeartbeats 8000000 in
theorem refMakeGood (nv av : Value) (N : List (List Int)) (A : List Int) (w : World) (hD : Dfa w nv av N A) (hr : RgtA N A) :
    Calls Tryz.prog 11 #[.agg #[nv, av]] w fun z w' => ∃ nv' av' M B, z = .returned (.tuple #[.agg #[nv', av'], .int .i64 0]) ∧ MkR N A M B ∧ Dfa w' nv' av' M B ∧ Below w.heap.size w w' := by
  have hf := hr.few
  obtain ⟨⟨na, nc, rfl⟩, ⟨aa, ac, rfl⟩⟩ := hD.shape
  obtain ⟨W0, hW0⟩ : ∃ W0, w.alloc (.cells #[.slice na N.length nc, .slice aa A.length ac] 25) = W0 := ⟨_, rfl⟩
  have hb0 : Hid (Below w.heap.size w W0) := by rw [← hW0]; exact hid (al' w _)
  have hz0 : Hid (W0.heap[w.heap.size]? = some (.cells #[.slice na N.length nc, .slice aa A.length ac] 25)) := by rw [← hW0]; exact hid (heap_new w _)
  obtain ⟨W1, hW1⟩ : ∃ W1, W0.alloc (.cells #[.slice none 0 0, .slice none 0 0] 25) = W1 := ⟨_, rfl⟩
  have hb1 : Hid (Below W0.heap.size W0 W1) := by rw [← hW1]; exact hid (al' W0 _)
  have hz1 : Hid (W1.heap[W0.heap.size]? = some (.cells #[.slice none 0 0, .slice none 0 0] 25)) := by rw [← hW1]; exact hid (heap_new W0 _)
  have hs0 : Hid (w.heap.size ≤ W0.heap.size) := hid hb0.out.size
  have hD1 := hid ((hD.keep hb0.out).keep hb1.out)
  have hp1 : Hid (W1.heap[w.heap.size]? = some (.cells #[.slice na N.length nc, .slice aa A.length ac] 25)) := hid (hs_keep hz0.out hb1.out)
  have GR := hid (refRightA _ _ N A W1 hD1.out (by omega))
  rw [rgtB_of hr] at GR
  have GP := hid (fun u (hu : Below W1.heap.size W1 u) => apartC _ _ N A u (hD1.out.keep hu) hr)
  have hrH := hid hr
  have hAcc : Hid (∀ i, i < N.length → (i : Int) < (A.length : Int)) := hid (fun i hi => by have := hr.len; omega)
  obtain ⟨iN, hiN, zN0, zN1, zN2⟩ := info_parts Tryz.infoNs
  obtain ⟨i0, hi0, z00, z01, z02⟩ := info_parts Tryz.info3
  obtain ⟨c0, c1, -⟩ := cells2m hp1.out
  clear hD hr
  go_enter Tryz.func11, Tryz.ntmps11
  go_wp2_with (first
    | (go_at_call 13; refine GR.out.mono ?_; rintro e w2 ⟨rfl, hb2⟩; have hp2 := hid (hs_keep hp1.out hb2); obtain ⟨d0, d1, -⟩ := cells2m hp2.out; have G2 := hid (GP.out w2 hb2); have hb2 := hid hb2)
    | (go_at_call 18; refine G2.out.mono ?_; rintro e w3 ⟨pv, rs, FF, rfl, hAp, hFl, hDn⟩; have hAp := hid hAp; have hFl := hid hFl; have hDn := hid hDn; obtain ⟨pa, pc, rfl⟩ := own_shape hAp.out.out; have hb13 := hid (bl_step hb2.out hAp.out.low); have hp3 := hid (hs_keep hp1.out hb13.out); obtain ⟨q0, q1, -⟩ := cells2m hp3.out; have hS3 := hid (MkS.start (w0 := w3) (Below.refl _ w3)); have hs4 : Hid ((w3.alloc (.cells #[.slice none 0 0, .slice none 0 0] 25)).heap.size = w3.heap.size + 1) := hid (by simp); have hal4 := hid (al' (w3.alloc (.cells #[.slice none 0 0, .slice none 0 0] 25)) (.cells #[.int .i64 0] 3)); have hS4 := hid (hS3.out.keep hal4.out))
    | (at_builtin; refine wpList_append_lies _ (by rfl) _ _ _ (by rfl) w3.heap.size 3 i0 (.int .i64 0) 1 8 Tryz.underlying23 hi0 z00 z01 z02 rfl (by decide) (.slice none 0 0) 0 [] (by rfl) hS4.out.st ⟨w3.heap.size + 1, 0, none⟩ 1 1 [.int .i64 0] (by rfl) (by rfl) (by have h9 := heap_new (w3.alloc (.cells #[.slice none 0 0, .slice none 0 0] 25)) (.cells #[.int .i64 0] 3); rw [hs4.out] at h9; exact World.news_of_block h9) (by simp [Value.oneCell']) (by omega) (by (unfold maxLen); omega) (by omega) hS4.out.df.size ((w3.alloc (.cells #[.slice none 0 0, .slice none 0 0] 25)).alloc (.cells #[.int .i64 0] 3)).heap.size rfl ?_; intro g5 c5 w5 hown5 hgrow5 hat5 hlt5; have hS5 := hid (hS4.out.push (t := 0) hown5 hgrow5 hat5)))
  have hal := hid (alF_AlB hrH.out.rgt hFl.out hDn.out)
  have hS1 : Hid (∃ (D F : Nat → Prop) (nv av : Value) (vs : List Value), MkS w3.heap.size w3 w5 D F (.slice (some ⟨g5, 0, none⟩) (0 + 1) c5) nv av vs (stM (alF FF) N 0) (nxM (alF FF) N 0) (acM (alF FF) N A 0)) := hid ⟨_, _, _, _, _, hS5.out⟩
  have hz3 : Hid (w3.heap[W0.heap.size]? = some (.cells #[.slice none 0 0, .slice none 0 0] 25)) := hid (hs_keep hz1.out hb13.out)
  have hD3 := hid (hD1.out.keep hb13.out)
  have hbw3 := hid (bl_step (bl_step hb0.out hb1.out) hb13.out)
  have hrsl : Hid (rs.length = N.length + 1) := hid (by rw [← hAp.out.len, hFl.out.sq.len])
  obtain ⟨pg, pc', hve, -, -, -⟩ := hAp.out.at (i := 0) (k := 0) (by have := hrsl.out; omega) (by omega)
  injection hve with hva _ hvc
  subst hva hvc
  have hap : Hid (∀ u i k, Below w3.heap.size w3 u → i ≤ N.length → k ≤ N.length → u.cell? ⟨pg, i, none⟩ = some (.slice (some ⟨rs.getD i 0, 0, none⟩) (N.length + 1) (N.length + 1)) ∧ u.cell? ⟨rs.getD i 0, k, none⟩ = some (.bool (flg FF i k))) := hid (fun u i k hu hi hk => by
    obtain ⟨h1, h2, _⟩ := (hAp.out.keep hu).cells (i := i) (k := k) (by have := hrsl.out; omega) (by omega)
    exact ⟨h1, h2⟩)
  have hrz : ((rs.length : Nat) : Int) = (N.length : Int) + 1 := by have := hrsl.out; omega
  have hdc : Hid (∀ u, Below w3.heap.size w3 u → u.cell? ⟨w.heap.size, 0, none⟩ = some (.slice na N.length nc) ∧ u.cell? ⟨w.heap.size, 1, none⟩ = some (.slice aa A.length ac)) := hid (fun u hu => by
    obtain ⟨e0, e1, -⟩ := cells2m (hs_keep hp3.out hu)
    exact ⟨e0, e1⟩)
  have GN := hid (fun i b (hi : i ≤ N.length) (hb : b < 256) u (hu : Below w3.heap.size w3 u) => refNextC _ _ N A i b u (hD3.out.keep hu) hrH.out hi hb)
  clear hS3 hS4 hS5 GR GP G2 c0 c1 d0 d1 q0 q1 hW0 hW1 hD1 hp1 hz1 hb2 hp2 hz0 hAp hFl hDn
  generalize rs.length = rl at hrz ⊢
  generalize hob : w3.heap.size = ob at hS1 ⊢
  have hob := hid hob
  go_loopw [7, 8] (fun tv i wr => ∃ m : Nat, m ≤ N.length ∧ i = .int .i64 m ∧ Hid (∃ (D F : Nat → Prop) (nv av : Value) (vs : List Value), MkS ob w3 wr D F tv nv av vs (stM (alF FF) N m) (nxM (alF FF) N m) (acM (alF FF) N A m)) ∧ Hid (∀ j, j < m → j < (stM (alF FF) N j).length)) (fun _ i _ => 1000 - (intOf i).toNat)
  case atStart => exact ⟨0, by omega, rfl, hS1, hid (fun j hj => absurd hj (Nat.not_lt_zero _))⟩
  case round =>
    obtain ⟨m, hm, rfl, hSx, hon⟩ := hrel
    obtain ⟨D, F, nv, av, vs, hS⟩ := hSx.out
    have hS := hid hS
    clear hSx
    have hMet := hid (stM_met hal.out hrH.out m)
    have hfew : Hid ((stM (alF FF) N m).length ≤ N.length) := hid hMet.out.few
    have hsl : Hid ((SI (stM (alF FF) N m)).length = (stM (alF FF) N m).length) := hid (SI_len _)
    by_cases hlt : m < (stM (alF FF) N m).length
    · obtain ⟨g, tc, rfl, hgc⟩ := hS.out.at hlt
      have hltz : (m : Int) < ((SI (stM (alF FF) N m)).length : Int) := by have := hsl.out; omega
      have hm1 : m + 1 ≤ N.length := by have := hfew.out; omega
      have hi : (stM (alF FF) N m).getD m 0 < N.length := by
        rw [getD_el hlt]
        exact hMet.out.lt _ (List.getElem_mem hlt)
      have hq : Hid (∀ b, b ≤ 256 → RowMIs N A (nxA N ((stM (alF FF) N m).getD m 0)) (stM (alF FF) N m) b (rowM (alF FF) N.length (nxA N ((stM (alF FF) N m).getD m 0)) (stM (alF FF) N m) b)) := hid (fun b hb => rowM_is hal.out hMet.out b hb (fun c hc => nxA_le hrH.out.rgt _ (by omega)))
      have hcs := hid (rowM_cases (alF FF) N.length (nxA N ((stM (alF FF) N m).getD m 0)) (stM (alF FF) N m))
      have hSt1 : Hid (stM (alF FF) N (m + 1) = (rowM (alF FF) N.length (nxA N ((stM (alF FF) N m).getD m 0)) (stM (alF FF) N m) 256).1) := hid rfl
      have hNx1 : Hid (nxM (alF FF) N (m + 1) = nxM (alF FF) N m ++ [(rowM (alF FF) N.length (nxA N ((stM (alF FF) N m).getD m 0)) (stM (alF FF) N m) 256).2]) := hid rfl
      have hAc1 : Hid (acM (alF FF) N A (m + 1) = acM (alF FF) N A m ++ [A.getD ((stM (alF FF) N m).getD m 0) 0]) := hid rfl
      have hacl : (acM (alF FF) N A m).length ≤ 240 := by rw [acM_len]; omega
      obtain ⟨WO, hWO⟩ : ∃ x, x = wr := ⟨_, rfl⟩
      subst hWO
      have hmk := make256
      obtain ⟨W7, hW7⟩ : ∃ W7, WO.alloc (.cells (madeCells #[.int .i64 0] 256) 3) = W7 := ⟨_, rfl⟩
      have hb7 : Hid (Below WO.heap.size WO W7) := by rw [← hW7]; exact hid (al' WO _)
      have hs7 : WO.heap.size < W7.heap.size := by rw [← hW7]; simp
      have ho7 : Own W7 WO.heap.size (.slice (some ⟨WO.heap.size, 0, none⟩) 256 256) (List.replicate 256 0) := by rw [← hW7]; exact made_ints WO 256 (by omega)
      have hL0 : Hid (∃ (D F : Nat → Prop) (nv av : Value) (vs : List Value), MkL ob w3 WO.heap.size W7 D F (.slice (some ⟨g, 0, none⟩) (SI (stM (alF FF) N m)).length tc) nv av vs (rowM (alF FF) N.length (nxA N ((stM (alF FF) N m).getD m 0)) (stM (alF FF) N m) 0).1 (nxM (alF FF) N m) (acM (alF FF) N A m) (rowN0 (rowM (alF FF) N.length (nxA N ((stM (alF FF) N m).getD m 0)) (stM (alF FF) N m) 0).2)) := hid ⟨_, _, _, _, _, hS.out.newBlk hb7.out hs7, Or.inr rfl, fun e => by have := hS.out.fL _ (hS.out.sF _ e); omega, own_base ho7 hS.out.low.size⟩
      have hget0 : Hid (∀ T : List Nat, (∃ U, T = stM (alF FF) N m ++ U) → T.getD m 0 = (stM (alF FF) N m).getD m 0) := hid (fun T hT => by
        obtain ⟨U, rfl⟩ := hT
        exact getD_left' hlt)
      clear ho7 hs7 hgc hS
      generalize (stM (alF FF) N m).getD m 0 = i at *
      go_wp2_with fail
      clear hmk hW7
      generalize WO.heap.size = rk at hL0 ⊢
      have hnx : Hid (∀ b, b < 256 → nxA N i b ≤ N.length) := hid (fun b hb => nxA_le hrH.out.rgt i hb)
      generalize rowM (alF FF) N.length (nxA N i) (stM (alF FF) N m) = RM at *
      generalize (SI (stM (alF FF) N m)).length = sl0 at hL0 ⊢
      go_loopw [7, 10] (fun tv c wr => ∃ b : Nat, b ≤ 256 ∧ c = .int .i64 b ∧ Hid (∃ (D F : Nat → Prop) (nv av : Value) (vs : List Value), MkL ob w3 rk wr D F tv nv av vs (RM b).1 (nxM (alF FF) N m) (acM (alF FF) N A m) (rowN0 (RM b).2))) (fun _ c _ => 256 - (intOf c).toNat)
      case atStart => exact ⟨0, by omega, rfl, hL0⟩
      case round =>
        obtain ⟨b, hb, rfl, hLx⟩ := hrel
        obtain ⟨D, F, nv, av, vs, hL⟩ := hLx.out
        have hL := hid hL
        clear hLx
        have hSl : Hid ((SI (RM b).1).length = (RM b).1.length) := hid (SI_len _)
        have hMb := hid (hq.out b hb).met
        have hle : (SI (RM b).1).length ≤ 240 := by have := hSl.out; have := hMb.out.few; omega
        have hql : Hid ((RM b).2.length = b) := hid (hq.out b hb).len
        have hgetb : Hid ((RM b).1.getD m 0 = i) := hid (hget0.out _ (hq.out b hb).pre)
        have hmb : m < (RM b).1.length := by
          obtain ⟨U, hU⟩ := (hq.out b hb).pre
          rw [hU, List.length_append]
          omega
        obtain ⟨tg, tc, rfl, htc⟩ := hL.out.s.at hmb
        rw [hgetb.out] at htc
        have hmz : (m : Int) < ((SI (RM b).1).length : Int) := by have := hSl.out; omega
        by_cases hb256 : b < 256
        · have hbz : (b : Int) < 256 := by omega
          have hto := hid (hnx.out b hb256)
          obtain ⟨e0, e1⟩ := hdc.out wr hL.out.s.low
          have cI : Hid (∀ d os, Calls Tryz.prog 23 #[.agg #[.slice na N.length nc, .slice aa A.length ac], .int .i64 (i : Int), .int .i64 (b : Int)] (grow (redrawn wr d) os) fun e w'' => e = .returned (.int .i64 ((nxA N i b : Nat) : Int)) ∧ ∃ p : Regrown, w'' = grow (redrawn wr p.d) p.os) := hid (fun d os => Calls.regrown_of (GN.out i b (Nat.le_of_lt hi) hb256 _ (bl_step hL.out.s.low (below_regrown wr d os))))
          have hcsb := hid (hcs.out b)
          have hlast := hid (fun k (hk : k < (RM b).1.length) (h : flg FF (nxA N i b) ((RM b).1.getD k 0) = false) => lastK_yes hal.out hMb.out hto.out hk h)
          generalize nxA N i b = to at *
          have k0 := cell_regrown e0
          have k1 := cell_regrown e1
          have k2 := cell_regrown htc
          go_wp2_with fail
          refine wp_region_quiet_below (by kernel_rfl) (by kernel_rfl) ?_
          repeat (first | go_big_quiet_step (exact cI.out _ _) | quiet_step (exact cI.out _ _))
          refine wpQuiet_nil ?_
          intro _ hw'
          obtain ⟨⟨dq, osq⟩, hw''⟩ := hw'
          subst hw''
          have hU := hid (below_regrown wr dq osq)
          have hLU := hid (hL.out.keep hU.out)
          clear k0 k1 k2 e0 e1 htc cI hL
          generalize grow (redrawn wr dq) osq = U at hU hLU ⊢
          obtain ⟨p0, p1⟩ := hLU.out.cell hb256
          have hL1 := hid (hLU.out.put b (-1))
          obtain ⟨p2, p3⟩ := hLU.out.put_cell hb256 (-1)
          obtain ⟨a0, a1⟩ := hap.out _ to N.length hL1.out.s.low hto.out (Nat.le_refl _)
          have hra : Hid (∀ u k, Below w3.heap.size w3 u → k ≤ N.length → u.cell? ⟨pg, to, none⟩ = some (.slice (some ⟨rs.getD to 0, 0, none⟩) (N.length + 1) (N.length + 1)) ∧ u.cell? ⟨rs.getD to 0, k, none⟩ = some (.bool (flg FF to k))) := hid (fun u k hu hk => hap.out u to k hu hto.out hk)
          generalize rs.getD to 0 = rt at *
          have htz : (to : Int) < (rl : Int) := by have := hto.out; omega
          have hnz : (N.length : Int) < (N.length : Int) + 1 := by omega
          cases hfn : flg FF to N.length with
          | false =>
            rw [hfn] at a1
            have hres : Hid (RM (b + 1) = ((RM b).1, (RM b).2 ++ [-1])) := hid (by
              rcases hcsb.out with ⟨_, e⟩ | ⟨h, _⟩ | ⟨h, _⟩
              · exact e
              · unfold alF at h; rw [hfn] at h; cases h
              · unfold alF at h; rw [hfn] at h; cases h)
            clear hfn
            go_wp2
            go_roundw
            case rel => exact ⟨b + 1, by omega, by go_num, hid ⟨_, _, _, _, _, by rw [hres.out, ← rowN0_put hql.out hb256]; exact hL1.out⟩⟩
            case measure => simp [intOf]; omega
          | true =>
            rw [hfn] at a1
            have hcase : Hid (((RM b).1.findIdx (alF FF to) < (RM b).1.length ∧ RM (b + 1) = ((RM b).1, (RM b).2 ++ [((RM b).1.findIdx (alF FF to) : Int)])) ∨ (¬ (RM b).1.findIdx (alF FF to) < (RM b).1.length ∧ RM (b + 1) = ((RM b).1 ++ [to], (RM b).2 ++ [((RM b).1.length : Int)]))) := hid (by
              rcases hcsb.out with ⟨h, _⟩ | ⟨_, h, e⟩ | ⟨_, h, e⟩
              · unfold alF at h; rw [hfn] at h; cases h
              · exact Or.inl ⟨h, e⟩
              · exact Or.inr ⟨h, e⟩)
            clear hfn hcsb hcs
            have hSb : Hid (∀ k, k < (RM b).1.length → (RM b).1.getD k 0 ≤ N.length) := hid (fun k hk => by
              rw [getD_el hk]
              exact Nat.le_of_lt (hMb.out.lt _ (List.getElem_mem hk)))
            have hLs : Hid (MkL ob w3 rk (U.setCell ⟨rk, b, none⟩ (.int .i64 (-1))) D F (.slice (some ⟨tg, 0, none⟩) (SI (RM b).1).length tc) nv av vs (RM b).1 (nxM (alF FF) N m) (acM (alF FF) N A m) ((rowN0 (RM b).2).set b (lastK FF (RM b).1 to 0))) := hid (by rw [lastK_zero]; exact hL1.out)
            clear hL1 hLU hU
            go_wp2_with fail
            clear a0 a1 p0 p1 p2 p3
            generalize U.setCell ⟨rk, b, none⟩ (.int .i64 (-1)) = U1 at hLs ⊢
            go_loopw [12] (fun kv wr => ∃ k : Nat, k ≤ (RM b).1.length ∧ kv = .int .i64 k ∧ Hid (MkL ob w3 rk wr D F (.slice (some ⟨tg, 0, none⟩) (SI (RM b).1).length tc) nv av vs (RM b).1 (nxM (alF FF) N m) (acM (alF FF) N A m) ((rowN0 (RM b).2).set b (lastK FF (RM b).1 to k)))) (fun kv _ => (RM b).1.length - (intOf kv).toNat)
            case atStart => exact ⟨0, by omega, rfl, hLs⟩
            case round =>
              obtain ⟨k, hk, rfl, hLk⟩ := hrel
              by_cases hkl : k < (RM b).1.length
              · have hklz : (k : Int) < ((SI (RM b).1).length : Int) := by have := hSl.out; omega
                obtain ⟨tg', tc', etv, htk⟩ := hLk.out.s.at hkl
                injection etv with etv1 etv2 etv3
                injection etv1 with etv1
                injection etv1 with etv1
                subst etv1
                subst etv3
                obtain ⟨a0, a1⟩ := hra.out wr ((RM b).1.getD k 0) hLk.out.s.low (hSb.out k hkl)
                have hskz : (((RM b).1.getD k 0 : Nat) : Int) < (N.length : Int) + 1 := by have := hSb.out k hkl; omega
                have hyes := hid (hlast.out k hkl)
                have hno := hid (fun (h : flg FF to ((RM b).1.getD k 0) = true) => lastK_no (F := FF) (to := to) hkl h)
                obtain ⟨fb, hfb⟩ : ∃ fb, Hid (flg FF to ((RM b).1.getD k 0) = fb) := ⟨_, hid rfl⟩
                rw [hfb.out] at a1
                rw [hfb.out] at hyes hno
                clear hfb
                generalize (RM b).1.getD k 0 = sk at *
                go_wp2_with fail
                go_quiet (fail)
                have hLq := hid (hLk.out.keep (belowN (n := nq) (Below.refl _ _)))
                clear a0 a1 htk hLk
                generalize wr.drewN nq = Wq at hLq ⊢
                obtain ⟨p0, p1⟩ := hLq.out.cell hb256
                have hput := hid (hLq.out.put b (k : Int))
                cases fb with
                | true =>
                  have hlk := hid (hno.out rfl)
                  clear hno hyes
                  go_wp2
                  go_roundw
                  case rel =>
                    first
                      | exact ⟨k + 1, by omega, by go_num, by rw [hlk.out]; exact hLq⟩
                      | (repeat (apply Exists.intro)
                         refine ⟨⟨k + 1, by omega, by go_num, by rw [hlk.out]; exact hLq⟩, ?_⟩
                         repeat (first | rfl | exact ⟨rfl, rfl⟩ | refine ⟨rfl, ?_⟩))
                  case measure => simp [intOf]; omega
                | false =>
                  have hlk := hid (hyes.out rfl).1
                  clear hno hyes
                  go_wp2
                  go_roundw
                  case rel =>
                    first
                      | exact ⟨k + 1, by omega, by go_num, by rw [hlk.out]; rw [List.set_set] at hput; exact hput⟩
                      | (repeat (apply Exists.intro)
                         refine ⟨⟨k + 1, by omega, by go_num, by rw [hlk.out]; rw [List.set_set] at hput; exact hput⟩, ?_⟩
                         repeat (first | rfl | exact ⟨rfl, rfl⟩ | refine ⟨rfl, ?_⟩))
                  case measure => simp [intOf]; omega
              · have hklz : ¬ (k : Int) < ((SI (RM b).1).length : Int) := by have := hSl.out; omega
                obtain rfl : k = (RM b).1.length := by omega
                obtain ⟨p0, p1⟩ := hLk.out.cell hb256
                have hcv : ((rowN0 (RM b).2).set b (lastK FF (RM b).1 to (RM b).1.length)).getD b 0 = lastK FF (RM b).1 to (RM b).1.length := by
                  rw [List.getD_eq_getElem?_getD, List.getElem?_set_self (by have := hLk.out.len; rw [List.length_set] at this; omega)]
                  rfl
                rw [hcv] at p0
                clear hcv
                rcases hcase.out with ⟨hfi, e⟩ | ⟨hfi, e⟩
                · have hlv : Hid (lastK FF (RM b).1 to (RM b).1.length = ((RM b).1.findIdx (alF FF to) : Int)) := hid (by unfold lastK; rw [if_pos hfi])
                  rw [hlv.out] at p0 hLk
                  have hfz : ¬ (((RM b).1.findIdx (alF FF to) : Nat) : Int) < 0 := by omega
                  have e1 := hid (congrArg Prod.fst e)
                  have e2 := hid (congrArg Prod.snd e)
                  clear e hfi hlv hcase
                  generalize (((RM b).1.findIdx (alF FF to) : Nat) : Int) = f at *
                  go_wp2
                  go_roundw
                  case rel => exact ⟨b + 1, by omega, by go_num, hid ⟨_, _, _, _, _, by rw [e1.out, e2.out, ← rowN0_put hql.out hb256]; exact hLk.out⟩⟩
                  case measure => simp [intOf]; omega
                · have hlv : Hid (lastK FF (RM b).1 to (RM b).1.length = -1) := hid (by unfold lastK; rw [if_neg hfi])
                  rw [hlv.out] at p0 hLk
                  have e1 := hid (congrArg Prod.fst e)
                  have e2 := hid (congrArg Prod.snd e)
                  have hSz : Hid ((((RM b).1.length : Nat) : Int) = ((SI (RM b).1).length : Int)) := hid (by rw [hSl.out])
                  have hL2 := hid (hLk.out.put b ((SI (RM b).1).length : Int))
                  have hL3 := hid (hL2.out.keep (al' _ (.cells #[.int .i64 (to : Int)] 3)))
                  have hsz9 : Hid ((wr.setCell ⟨rk, b, none⟩ (.int .i64 ((SI (RM b).1).length : Int))).heap.size = wr.heap.size) := hid (by simp)
                  clear e hfi hlv hcase
                  go_wp2_with (at_builtin; refine wpList_append_lies _ (by rfl) _ _ _ (by rfl) w3.heap.size 3 i0 (.int .i64 0) 1 8 Tryz.underlying23 hi0 z00 z01 z02 rfl (by decide) (.slice (some ⟨tg, 0, none⟩) (SI (RM b).1).length tc) (SI (RM b).1).length (numCells (SI (RM b).1)) (by rfl) hL3.out.s.st ⟨wr.heap.size, 0, none⟩ 1 1 [.int .i64 (to : Int)] (by rfl) (by rfl) (by have h9 := heap_new (wr.setCell ⟨rk, b, none⟩ (.int .i64 ((SI (RM b).1).length : Int))) (.cells #[.int .i64 (to : Int)] 3); rw [hsz9.out] at h9; exact World.news_of_block h9) (by simp [Value.oneCell']) (by omega) (by (unfold maxLen); omega) (by omega) hL3.out.s.df.size ((wr.setCell ⟨rk, b, none⟩ (.int .i64 ((SI (RM b).1).length : Int))).alloc (.cells #[.int .i64 (to : Int)] 3)).heap.size rfl ?_; intro g5 c5 w5 hown5 hgrow5 hat5 hlt5; have L5 := hid (hL3.out.push hown5 hgrow5 hat5))
                  go_roundw
                  case rel => exact ⟨b + 1, by omega, by go_num, hid ⟨_, _, _, _, _, by rw [e1.out, e2.out, hSz.out, ← rowN0_put hql.out hb256]; have h9 := L5.out; rw [List.set_set] at h9; exact h9⟩⟩
                  case measure => simp [intOf]; omega
        · have hbz : ¬ (b : Int) < 256 := by omega
          obtain rfl : b = 256 := by omega
          have hA1 : Hid (MkS ob w3 wr D (fun k => F k ∧ k ≠ rk) (.slice (some ⟨tg, 0, none⟩) (SI (RM 256).1).length tc) nv av vs (RM 256).1 (nxM (alF FF) N m) (acM (alF FF) N A m)) := hid (hL.out.s.drop (fun k hk => hk.1) (fun k e => ⟨hL.out.s.sF k e, fun e0 => hL.out.rt (by rw [e, e0])⟩))
          have hrow : Hid (Nums wr (.slice (some ⟨rk, 0, none⟩) 256 256) (RM 256).2) := hid (by
            have h1 := hL.out.row
            rw [rowN0_full hql.out] at h1
            exact Nums.of_row h1)
          have hroff : Hid (Off (fun k => D k ∨ (F k ∧ k ≠ rk)) (.slice (some ⟨rk, 0, none⟩) 256 256)) := hid (fun ad q c e h0 hf => by
            injection e with e
            injection e with e
            subst e
            rcases hf with h1 | h1
            · exact hL.out.s.df.apart _ h1 hL.out.rF
            · exact h1.2 rfl)
          have hrup : Hid (Off (fun k => k < w3.heap.size) (.slice (some ⟨rk, 0, none⟩) 256 256)) := hid (fun ad q c e h0 hf => by
            injection e with e
            injection e with e
            subst e
            exact absurd hf (Nat.not_lt.2 (hL.out.s.fF _ hL.out.rF)))
          have hvl : vs.length ≤ 240 := by rw [hL.out.s.df.nums.1, nxM_len]; omega
          have hget := hgetb
          have hmlt := hmb
          obtain ⟨na', nc', rfl⟩ := own_shape hA1.out.df.nxt
          obtain ⟨aa', ac', rfl⟩ := own_shape hA1.out.df.acc
          obtain ⟨d0, d1, f0, f1⟩ := cells2m hA1.out.df.blk
          have hal6 := hid (al' wr (.cells #[.slice (some ⟨rk, 0, none⟩) 256 256] 23))
          have S6 := hid (hA1.out.keep hal6.out)
          have N6 := hid (hrow.out.keep hal6.out)
          obtain ⟨d0', d1', f0', f1'⟩ := cells2m S6.out.df.blk
          obtain ⟨b3, o3, e3, hb3x, hc3⟩ := nums_cell hD3.out.acc i (by have := hAcc.out i hi; omega)
          subst e3
          have hiA : (i : Int) < (A.length : Int) := hAcc.out i hi
          have hac3 : Hid (∀ u, Below w3.heap.size w3 u → u.cell? ⟨b3, o3 + i, none⟩ = some (.int .i64 (A.getD i 0)) ∧ u.cell? ⟨w.heap.size, 1, none⟩ = some (.slice (some ⟨b3, o3, none⟩) A.length ac)) := hid (fun u hu => ⟨keep_cell hu hc3, (hdc.out u hu).2⟩)
          clear hL hc3 hb3x htc
          go_wp2_with (at_builtin; refine wpList_append_lies _ (by rfl) _ _ _ (by rfl) w3.heap.size 23 iN (.slice none 0 0) 1 24 Tryz.underlying22 hiN zN0 zN1 zN2 rfl (by decide) (.slice na' vs.length nc') vs.length vs (by rfl) S6.out.df.nxt ⟨wr.heap.size, 0, none⟩ 1 1 [.slice (some ⟨rk, 0, none⟩) 256 256] (by rfl) (by rfl) (World.news_of_block (heap_new wr (.cells #[.slice (some ⟨rk, 0, none⟩) 256 256] 23))) (by simp [Value.oneCell']) (by omega) (by (unfold maxLen); omega) (by omega) S6.out.df.size (wr.alloc (.cells #[.slice (some ⟨rk, 0, none⟩) 256 256] 23)).heap.size rfl ?_; intro g7 c7 w7 hown7 hgrow7 hat7 hlt7; obtain ⟨D7, S7, -⟩ := S6.out.row2 N6.out hroff.out hrup.out hown7 hgrow7 hat7; have S7 := hid S7; obtain ⟨x0, x1, y0, y1⟩ := cells2m (grown_blk hgrow7 S6.out.df.blk (fun e0 => (S6.out.df.nF _ e0).2.1 rfl)))
          have hall : Hid (∃ (D F : Nat → Prop) (vs' : List Value), MkS ob w3 (w7.setCell ⟨ob, 0, none⟩ (.slice (some ⟨g7, 0, none⟩) (vs.length + 1) c7)) D F (.slice (some ⟨tg, 0, none⟩) (SI (RM 256).1).length tc) (.slice (some ⟨g7, 0, none⟩) (vs.length + 1) c7) (.slice aa' (acM (alF FF) N A m).length ac') vs' (RM 256).1 (nxM (alF FF) N (m + 1)) (acM (alF FF) N A m)) := hid ⟨_, _, _, by rw [hNx1.out]; exact S7.out⟩
          clear S7 d0 d1 f0 f1 d0' d1' f0' f1' x0 x1 y0 y1
          generalize w7.setCell ⟨ob, 0, none⟩ (.slice (some ⟨g7, 0, none⟩) (vs.length + 1) c7) = W9 at hall ⊢
          generalize Value.slice (some ⟨g7, 0, none⟩) (vs.length + 1) c7 = nv7 at hall ⊢
          obtain ⟨D7, F7, vs7, S7⟩ := hall.out
          have S7 := hid S7
          clear hall
          have hd7 : Below W9.heap.size W9 W9.drew := (Below.refl _ _).drew
          have Sd := hid (S7.out.keep hd7)
          clear hd7
          obtain ⟨b0', b1', g0', g1'⟩ := cells2m Sd.out.df.blk
          obtain ⟨tg', tc', etv, hgc⟩ := Sd.out.at hmlt
          injection etv with etv1 etv2 etv3
          injection etv1 with etv1
          injection etv1 with etv1
          subst etv1
          subst etv3
          rw [hget.out] at hgc
          obtain ⟨a3, a4⟩ := hac3.out W9.drew Sd.out.low
          have hmz : (m : Int) < ((SI (RM 256).1).length : Int) := by have := hSl.out; omega
          have S8 := hid (Sd.out.keep (al' W9.drew (.cells #[.int .i64 (A.getD i 0)] 3)))
          obtain ⟨e0', e1', h0', h1'⟩ := cells2m S8.out.df.blk
          have hsnA : Hid (∀ (w4 : World) (g4 c4 : Nat), w4.ownsRow w3.heap.size 3 1 (.slice (some ⟨g4, 0, none⟩) ((acM (alF FF) N A m).length + 1) c4) ((acM (alF FF) N A m).length + 1) (numCells (acM (alF FF) N A m) ++ [.int .i64 (A.getD i 0)]) → Own w4 w3.heap.size (.slice (some ⟨g4, 0, none⟩) ((acM (alF FF) N A m).length + 1) c4) (acM (alF FF) N A (m + 1))) := hid (fun w4 g4 c4 h => by
            have e1 : (acM (alF FF) N A m ++ [A.getD i 0]).length = (acM (alF FF) N A m).length + 1 := List.length_append
            unfold Own
            rw [hAc1.out, e1, numCells_snoc]
            exact h)
          generalize A.getD i 0 = an at *
          have e0q : (W9.alloc (.cells #[.int .i64 an] 3)).drew.cell? ⟨ob, 0, none⟩ = some nv7 := e0'
          have e1q : (W9.alloc (.cells #[.int .i64 an] 3)).drew.cell? ⟨ob, 1, none⟩ = some (.slice aa' (acM (alF FF) N A m).length ac') := e1'
          have h1q : (W9.alloc (.cells #[.int .i64 an] 3)).drew.frozen? ⟨ob, 1, none⟩ = false := h1'
          go_wp2_with fail
          apply collapse
          case h =>
            intro rest
            go_region_law (refine step_append_lies _ (by rfl) (.tmp 97) (.tmp 106) 23 (by rfl) w3.heap.size 3 i0 (.int .i64 0) 1 8 Tryz.underlying23 hi0 z00 z01 z02 rfl (by decide) (.slice aa' (acM (alF FF) N A m).length ac') (acM (alF FF) N A m).length (numCells (acM (alF FF) N A m)) (by rfl) S8.out.df.acc ⟨W9.drew.heap.size, 0, none⟩ 1 1 [.int .i64 an] (by rfl) (by rfl) (World.news_of_block (heap_new W9.drew (.cells #[.int .i64 an] 3))) (by simp [Value.oneCell']) (by omega) (by (unfold maxLen); omega) (by omega) S8.out.df.size (W9.drew.alloc (.cells #[.int .i64 an] 3)).heap.size rfl ?_; intro g9 c9 w9 hown9 hgrow9 hat9 hlt9; obtain ⟨D9, S9, -⟩ := S8.out.acc2 (hsnA.out _ _ _ hown9) hgrow9 hat9; have S9 := hid S9; obtain ⟨x0, x1, y0, y1⟩ := cells2m (grown_blk hgrow9 S8.out.df.blk (fun e0 => (S8.out.df.aF _ e0).2 rfl)))
            all_goals
              have hall : Hid (∃ (D F : Nat → Prop) (nv av : Value) (vs' : List Value), MkS ob w3 (w9.setCell ⟨ob, 1, none⟩ (.slice (some ⟨g9, 0, none⟩) ((acM (alF FF) N A m).length + 1) c9)) D F (.slice (some ⟨tg, 0, none⟩) (SI (RM 256).1).length tc) nv av vs' (stM (alF FF) N (m + 1)) (nxM (alF FF) N (m + 1)) (acM (alF FF) N A (m + 1))) := hid ⟨_, _, _, _, _, by rw [hSt1.out]; exact S9.out⟩
              generalize w9.setCell ⟨ob, 1, none⟩ (.slice (some ⟨g9, 0, none⟩) ((acM (alF FF) N A m).length + 1) c9) = Wn at hall ⊢
              generalize Value.slice (some ⟨g9, 0, none⟩) ((acM (alF FF) N A m).length + 1) c9 = av9 at hall ⊢
              revert hall
              revert Wn av9
              exact rest.out
          case pf =>
            intro Wn av9 hall
            have hon' : Hid (∀ j, j < m + 1 → j < (stM (alF FF) N j).length) := hid (fun j hj => by
              by_cases e : j = m
              · rw [e]; exact hlt
              · exact hon.out j (by omega))
            go_wp2
            go_roundw
            case rel => exact ⟨m + 1, hm1, by go_num, hall, hon'⟩
            case measure => simp [intOf]; omega
    · have hltz : ¬ (m : Int) < ((SI (stM (alF FF) N m)).length : Int) := by have := hsl.out; omega
      obtain ⟨ta, tc, rfl⟩ := own_shape hS.out.st
      obtain ⟨oa, oc, rfl⟩ := own_shape hS.out.df.nxt
      obtain ⟨pa, pc, rfl⟩ := own_shape hS.out.df.acc
      obtain ⟨b0, b1, -⟩ := cells2m hS.out.df.blk
      have hfn : Hid ((stM (alF FF) N m).length = m) := hid (by
        rcases Nat.eq_zero_or_pos m with e | e
        · have := hMet.out.pos; omega
        · have h3 := hon.out (m - 1) (by omega)
          obtain ⟨U, hU⟩ := stM_pre hal.out hrH.out (m - 1) 1
          rw [show m - 1 + 1 = m by omega] at hU
          have h4 := congrArg List.length hU
          rw [List.length_append] at h4
          omega)
      have hz8 : wr.heap[W0.heap.size]? = some (.cells #[.slice none 0 0, .slice none 0 0] 25) := hs_keep hz3.out hS.out.low
      obtain ⟨x0, x1, y0, y1⟩ := cells2m hz8
      have hfb : ((wr.setCell ⟨W0.heap.size, 0, none⟩ (.slice oa vs.length oc)).setCell ⟨W0.heap.size, 1, none⟩ (.slice pa (acM (alF FF) N A m).length pc)).heap[W0.heap.size]? = some (.cells #[.slice oa vs.length oc, .slice pa (acM (alF FF) N A m).length pc] 25 (0, 0)) := heap_setCell (heap_setCell hz8)
      obtain ⟨r0, r1, -⟩ := cells2m hfb
      have hrb : Hid (W0.heap.size < w3.heap.size) := hid (blk_lt hz3.out)
      have hobr : ob ≠ W0.heap.size := by
        have := hS.out.dF _ hS.out.df.inD
        have := hrb.out
        omega
      have hkf : Hid (Kept (oneBlk W0.heap.size) wr ((wr.setCell ⟨W0.heap.size, 0, none⟩ (.slice oa vs.length oc)).setCell ⟨W0.heap.size, 1, none⟩ (.slice pa (acM (alF FF) N A m).length pc))) := hid (((Kept.refl (oneBlk W0.heap.size) wr).setCell (a := ⟨W0.heap.size, 0, none⟩) (v := .slice oa vs.length oc) (fun _ => rfl)).setCell (a := ⟨W0.heap.size, 1, none⟩) (v := .slice pa (acM (alF FF) N A m).length pc) (fun _ => rfl))
      have hend : Hid (∀ u, Kept (oneBlk W0.heap.size) wr u → MkR N A (nxM (alF FF) N m) (acM (alF FF) N A m) ∧ Dfa u (.slice oa vs.length oc) (.slice pa (acM (alF FF) N A m).length pc) (nxM (alF FF) N m) (acM (alF FF) N A m) ∧ Below w.heap.size w u) := hid (fun u hu => by
        have hD' : ∀ k, D k → ¬ oneBlk W0.heap.size k := fun k hk e0 => by
          have e1 : k = W0.heap.size := e0
          have := hS.out.dF k hk
          have := hrb.out
          omega
        have hN' : NumsF (oneBlk W0.heap.size) wr vs (nxM (alF FF) N m) := ⟨hS.out.df.nums.1, fun j => ⟨(hS.out.df.nums.2 j).1, (hS.out.up j).sub (fun k e0 => by have e1 : k = W0.heap.size := e0; have := hrb.out; omega)⟩⟩
        have hbl0 := bl_step hbw3.out hS.out.low
        refine ⟨⟨_, m, hal.out, ⟨hfn.out, hon.out⟩, rfl, rfl⟩, ⟨numss_of (F := oneBlk W0.heap.size) (own_kept hS.out.df.nxt hu (fun k e0 => hD' k (hS.out.df.nF k e0).1)) (hN'.kept hu), Nums.of_row (own_kept hS.out.df.acc hu (fun k e0 => hD' k (hS.out.df.aF k e0).1))⟩, hbl0.trans (hu.below (fun k e0 => ?_) hbl0.size)⟩
        have e1 : k = W0.heap.size := e0
        have := hs0.out
        omega)
      clear hz8 hfb
      go_wp2
      obtain ⟨E1, E2, E3⟩ := hend.out _ hkf.out
      exact bodyPost_ret (v := .tuple #[.agg #[.slice oa vs.length oc, .slice pa (acM (alF FF) N A m).length pc], .int .i64 0]) (by simp [results, Tryz.results11, go_sem, r0, r1]) rfl ⟨_, _, rfl, _, _, E1, E2, E3⟩


end Go.Proofs.YtjelgphhlcecoaaGreatDoor
namespace Go.Proofs.YtjelgphhlcecoaaGreatDoor
open Go.RowKit Go.Maps

/-- what is made of any automaton -/
def MkAn (N : List (List Int)) (A : List Int) (M : List (List Int)) (B : List Int) (er : Int) : Prop := (rgtB N A = true ∧ MkR N A M B ∧ er = 0) ∨ (rgtB N A = false ∧ M = [] ∧ B = [] ∧ er = 10)
theorem MkAn.uniq {N : List (List Int)} {A : List Int} {M M' : List (List Int)} {B B' : List Int} {er er' : Int} (h : MkAn N A M B er) (h' : MkAn N A M' B' er') : M = M' ∧ B = B' ∧ er = er' := by
  rcases h with ⟨h1, h2, rfl⟩ | ⟨h1, rfl, rfl, rfl⟩ <;> rcases h' with ⟨h3, h4, rfl⟩ | ⟨h3, rfl, rfl, rfl⟩
  · obtain ⟨e1, e2⟩ := h2.uniq (rgtA_of h1) h4
    exact ⟨e1, e2, rfl⟩
  · rw [h1] at h3; cases h3
  · rw [h1] at h3; cases h3
  · exact ⟨rfl, rfl, rfl⟩
end Go.Proofs.YtjelgphhlcecoaaGreatDoor
