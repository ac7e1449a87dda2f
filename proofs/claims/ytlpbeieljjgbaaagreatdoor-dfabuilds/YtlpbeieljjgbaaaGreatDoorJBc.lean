/- topiaryref08.Build, of at most 16 rules. DfaBuilds' walk, over what is asked of the two Builds. DfaBuilds: rules that are refused: one answer; too many rules. DfaBuilds: rules of which one is refused, and rules that are right. -/
import Derived.Test.YtlpbeieljjgbaaaGreatDoorJBb
import Derived.Test.YtlpbeieljjgbaaaGreatDoorJ42
import Derived.Test.YtlpbeieljjgbaaaGreatDoorJBa
namespace Go.Proofs.YtlpbeieljjgbaaaGreatDoor
open Go.RowKit

theorem rfR_bad {L : List (List Cel)} {k : Nat} (hk : k < L.length) (h : rightB L[k] = false) (w : World) : RefR L w (.slice none 0 0) (.slice none 0 0) 1 :=
  Or.inl ⟨by rw [List.all_eq_false]; exact ⟨_, List.getElem_mem hk, by simp [h]⟩, rfl, rfl, rfl⟩
set_option maxRecDepth 20000 in
set_option maxHeartbeats 8000000 in
theorem refBuild (v : Value) (L : List (List Cel)) (w : World) (hA : Celss w v L) (hn : L.length ≤ 16) :
    Calls Tryz.prog 17 #[v] w fun z w' => ∃ nv av er, z = .returned (.tuple #[.agg #[nv, av], .int .i64 er]) ∧ RefR L w' nv av er ∧ Below w.heap.size w w' := by
  obtain ⟨W0, hW0⟩ : ∃ W0, W0 = w.alloc (.cells #[.slice none 0 0, .slice none 0 0] 25) := ⟨_, rfl⟩
  have hb0 : Hid (Below w.heap.size w W0) := by rw [hW0]; exact hid (al' w _)
  have hz0 : Hid (W0.heap[w.heap.size]? = some (.cells #[.slice none 0 0, .slice none 0 0] 25)) := by rw [hW0]; exact hid (heap_new w _)
  have hs0 : W0.heap.size = w.heap.size + 1 := by rw [hW0]; simp
  obtain ⟨va, vc, rfl, _, _, hA⟩ := hA
  have hA' := hid hA
  clear hA
  have hnz : ¬ (16 : Int) < (L.length : Int) := by omega
  obtain ⟨iS, hiS, zS0, zS1, zS2⟩ := info_parts Tryz.infoSp
  obtain ⟨iN, hiN, zN0, zN1, zN2⟩ := info_parts Tryz.infoNs
  obtain ⟨i0, hi0, z00, z01, z02⟩ := info_parts Tryz.info3
  go_enter Tryz.func17, Tryz.ntmps17
  go_wp2
  rw [← hW0]
  have hs0' := hid hs0
  clear hs0 hW0
  go_loopw [4, 5] (fun v i wr => ∃ k : Nat, k ≤ L.length ∧ i = .int .i64 k ∧ Hid (∃ ts es, RbK W0.heap.size L k wr v ts es) ∧ Hid (Below W0.heap.size W0 wr)) (fun _ i _ => L.length - (intOf i).toNat)
  case atStart => exact ⟨0, Nat.zero_le _, rfl, hid ⟨[], [], by simp, by simp, AllO.nil _ _, rfl, fun r hr => absurd hr (Nat.not_lt_zero _)⟩, hid (Below.refl _ _)⟩
  case round =>
    obtain ⟨k, hk, rfl, hKx, hbl⟩ := hrel
    obtain ⟨ts, es, hK⟩ := hKx.out
    have hK := hid hK
    clear hKx
    have hbw : Hid (Below w.heap.size w wr) := hid (bl_step hb0.out hbl.out)
    have hzr : Hid (wr.heap[w.heap.size]? = some (.cells #[.slice none 0 0, .slice none 0 0] 25)) := hid (hs_keep hz0.out hbl.out)
    obtain ⟨hes0, hts⟩ := hK.out.len hk
    have he16 : es.length ≤ 16 := by omega
    have hes := hid hes0
    clear hes0
    obtain ⟨aa, ac, rfl⟩ := own_shape hK.out.all.row
    by_cases hlt : k < L.length
    · have hltz : (k : Int) < (L.length : Int) := by omega
      obtain ⟨b1, o1, x, rfl, hb1, hx, hC⟩ := hA'.out k hlt
      have hx1 : wr.cell? ⟨b1, o1 + k, none⟩ = some x := keep_cell hbw.out hx
      have hC1 := hC.keep hbw.out
      have GR := hid (rightC x L[k] wr hC1)
      cases hr : rightB L[k] with
      | false =>
        rw [hr] at GR
        have hz7 := hzr.out
        obtain ⟨x0, x1, y0, y1⟩ := cells2m hz7
        have hfb : ((wr.setCell ⟨w.heap.size, 0, none⟩ (.slice none 0 0)).setCell ⟨w.heap.size, 1, none⟩ (.slice none 0 0)).heap[w.heap.size]? = some (.cells #[.slice none 0 0, .slice none 0 0] 25 (0, 0)) := heap_setCell (heap_setCell hz7)
        obtain ⟨r0, r1, -⟩ := cells2m hfb
        have hend : Hid (RefR L ((wr.setCell ⟨w.heap.size, 0, none⟩ (.slice none 0 0)).setCell ⟨w.heap.size, 1, none⟩ (.slice none 0 0)) (.slice none 0 0) (.slice none 0 0) 1 ∧ Below w.heap.size w ((wr.setCell ⟨w.heap.size, 0, none⟩ (.slice none 0 0)).setCell ⟨w.heap.size, 1, none⟩ (.slice none 0 0))) := hid ⟨rfR_bad hlt hr _, bl_set (bl_set hbw.out _ _ _ (Nat.le_refl _)) _ _ _ (Nat.le_refl _)⟩
        clear hz7 hfb hr hC hC1
        go_wp2_with (go_at_call 29; refine GR.out.mono ?_; rintro e u ⟨rfl, hu⟩; subst u)
        exact bodyPost_ret (v := .tuple #[.agg #[.slice none 0 0, .slice none 0 0], .int .i64 1]) (by simp [results, Tryz.results17, go_sem, r0, r1]) rfl ⟨_, _, _, rfl, hend.out.1, hend.out.2⟩
      | true =>
        rw [hr] at GR
        obtain ⟨t, ht, hok⟩ := tree_of hr
        have GO := hid (rofGood x t wr (by rw [← ht]; exact hC1) hok.1 hok.2)
        have hshape : Hid (∀ u rs rf rl rg fl, SpVF (fun k => k < wr.heap.size) u rs rf rl rg (spOf t fl) → (∃ a c, rs = .slice a (setsS [t]).length c) ∧ (∃ a c, rf = .slice a (firstL t 0).length c) ∧ (∃ a c, rl = .slice a (lastL t 0).length c) ∧ (∃ a c, rg = .slice a fl.length c)) := hid (fun u rs rf rl rg fl h => by
          obtain ⟨a1, c1, e1, _⟩ := h.spv.sets
          obtain ⟨a2, c2, e2, _⟩ := h.spv.first
          obtain ⟨a3, c3, e3, _⟩ := h.spv.last
          obtain ⟨a4, c4, e4, _⟩ := h.spv.follow
          exact ⟨⟨a1, c1, e1⟩, ⟨a2, c2, e2⟩, ⟨a3, c3, e3⟩, ⟨a4, c4, e4⟩⟩)
        have hown : Hid (∀ k, (Value.slice aa es.length ac).ownBlock = some k → k < wr.heap.size) := hid (fun k e => (hK.out.all.row.lt k e).2)
        have hsz : W0.heap.size ≤ wr.heap.size := hbl.out.size
        have ht' := hid ht
        have hok' := hid hok
        clear hr hC hC1 ht hok
        generalize hns : (setsS [t]).length = ns at hshape
        generalize hnf : (firstL t 0).length = nf at hshape
        generalize hnl : (lastL t 0).length = nl at hshape
        clear hns hnf hnl
        go_wp2_with (first
          | (at_builtin; refine wpList_append_lies _ (by rfl) _ _ _ (by rfl) W0.heap.size 64 iS (.agg #[.slice none 0 0, .bool false, .slice none 0 0, .slice none 0 0, .slice none 0 0]) 5 104 Tryz.underlying61 hiS zS0 zS1 zS2 rfl (by decide) (.slice aa es.length ac) es.length (es.flatMap SpE.cells) (by rfl) K2.out.all.row ⟨w2.heap.size, 0, none⟩ 1 1 [.slice ra ns rc, .bool t.null, .slice fa nf fc, .slice la nl lc, .slice ga fl.length gc] (by rfl) (by rfl) (World.news_of_block (heap_new w2 (.cells #[.slice ra ns rc, .bool t.null, .slice fa nf fc, .slice la nl lc, .slice ga fl.length gc] 64))) (by simp [Value.oneCell']) (by omega) (by (unfold maxLen); omega) (by omega) hsz2.out (w2.alloc (.cells #[.slice ra ns rc, .bool t.null, .slice fa nf fc, .slice la nl lc, .slice ga fl.length gc] 64)).heap.size rfl ?_; intro g3 c3 w3 hown3 hgrow3 hat3 hlt3; have hK3 : Hid (∃ ts' es', RbK W0.heap.size L (k + 1) w3 (.slice (some ⟨g3, 0, none⟩) (es.length + 1) c3) ts' es') := hid ⟨_, _, K2.out.next hlt ht'.out hok'.out hF.out V2.out hown3 hgrow3 hat3⟩; have hb3 : Hid (Below W0.heap.size W0 w3) := hid ((bl_step hbl.out hb02.out).trans ((Kept.of_grown hgrow3).below (fun k e => (hK.out.all.row.lt k e).1) hsz2.out)))
          | (go_at_call 29; refine GR.out.mono ?_; rintro e u ⟨rfl, hu⟩; subst u)
          | (go_at_call 30; refine GO.out.mono ?_; rintro z w2 ⟨rs, rf, rl, rg, fl, rfl, hV, hF, hb2⟩; have hF := hid hF; have hV : Hid (SpVF (fun k => k < wr.heap.size) w2 rs rf rl rg (spOf t fl)) := hid hV; obtain ⟨⟨ra, rc, rfl⟩, ⟨fa, fc, rfl⟩, ⟨la, lc, rfl⟩, ⟨ga, gc, rfl⟩⟩ := hshape.out _ _ _ _ _ _ hV.out; have hal2 := hid (al' w2 (.cells #[.slice ra ns rc, .bool t.null, .slice fa nf fc, .slice la nl lc, .slice ga fl.length gc] 64)); have hb02 := hid (bl_step hb2 hal2.out); have K2 := hid (hK.out.keep hb02.out); have V2 := hid ((hV.out.keep hal2.out).more (G := fun k => (Value.slice aa es.length ac).ownBlock = some k) (fun k e => Or.inl (hown.out k e))); have hsz2 := hid (Nat.le_trans hsz hb02.out.size)))
        go_roundw
        case rel => exact ⟨k + 1, by omega, by go_num, hK3, hb3⟩
        case measure => simp [intOf]; omega
    · have hltz : ¬ (k : Int) < (L.length : Int) := by omega
      obtain rfl : k = L.length := by omega
      obtain ⟨all, hall⟩ : ∃ all, all = es.map SpE.p := ⟨_, rfl⟩
      have hC : Hid (RbC ts wr (.slice aa es.length ac) all) := hid (by rw [hall]; exact rbC_of hK.out.sp hK.out.ok (by omega) hK.out.all.spss)
      have hLt : Hid (L = ts.map post ∧ ∀ t ∈ ts, t.ok ∧ (post t).length ≤ 60) := hid ⟨by have := hK.out.take; rwa [List.take_length] at this, hK.out.ok⟩
      clear hall hK hA' hts hk hnz
      clear hes
      generalize es.length = en at *
      obtain ⟨W1, hW1⟩ : ∃ x, x = wr := ⟨_, rfl⟩
      subst hW1
      have hS2 : Hid (RbS W1.heap.size W1 (W1.alloc (.cells #[.slice none 0 0, .slice none 0 0] 25)) (fun k => k = W1.heap.size) (fun _ => False) (.slice none 0 0) (.slice none 0 0) (.slice none 0 0) [] [] [] [] []) := hid (RbS.start (Below.refl _ _))
      have hb2 := hid (al' W1 (.cells #[.slice none 0 0, .slice none 0 0] 25))
      have hs2 : Hid ((W1.alloc (.cells #[.slice none 0 0, .slice none 0 0] 25)).heap.size = W1.heap.size + 1) := hid (by simp)
      have GF := hid (hC.out.first _ hb2.out)
      go_wp2_with (first
        | (at_builtin; refine wpList_append_lies _ (by rfl) _ _ _ (by rfl) W1.heap.size 23 iN (.slice none 0 0) 1 24 Tryz.underlying22 hiN zN0 zN1 zN2 rfl (by decide) (.slice none 0 0) 0 [] (by rfl) (World.ownsRow_nil _ _ _ _) ⟨w3.heap.size, 0, none⟩ 1 1 [.slice fa (firstS all all.length).length fc] (by rfl) (by rfl) (World.news_of_block (heap_new w3 (.cells #[.slice fa (firstS all all.length).length fc] 23))) (by simp [Value.oneCell']) (by omega) (by (unfold maxLen); omega) (by omega) hsz3.out (w3.alloc (.cells #[.slice fa (firstS all all.length).length fc] 23)).heap.size rfl ?_; intro g4 c4 w4 hown4 hgrow4 hat4 hlt4; have hS4 : Hid (∃ (D F : Nat → Prop) (nv av : Value) (ss vs : List Value), RbS W1.heap.size W1 w4 D F (.slice (some ⟨g4, 0, none⟩) (0 + 1) c4) nv av ss vs (stsK all 0) (nxtK all 0) (accK all 0)) := hid ⟨_, _, _, _, _, _, S3.out.push N3.out O3.out hown4 hgrow4 hat4⟩)
        | (go_at_call 31; refine GF.out.mono ?_; rintro z w3 ⟨v3, rfl, hO3, hb3⟩; obtain ⟨fa, fc, rfl⟩ := own_shape hO3; have hal3 := hid (al' w3 (.cells #[.slice fa (firstS all all.length).length fc] 23)); have S3 := hid ((hS2.out.keep hb3).keep hal3.out); have N3 := hid ((Nums.of_row hO3).keep hal3.out); have O3 := hid (Off.new (F := fun k => k = W1.heap.size ∨ False) hO3 (fun k hk => (by rw [hs2.out]; exact hk.elim (fun h1 => (by omega)) False.elim))); have hsz3 := hid (Nat.le_trans (bl_step hb2.out hb3).size hal3.out.size)))
      clear hS2 hb2 hs2 GF
      go_loopw [7, 8] (fun tv i wr => ∃ n : Nat, n ≤ 240 ∧ i = .int .i64 n ∧ Hid (∃ (D F : Nat → Prop) (nv av : Value) (ss vs : List Value), RbS W1.heap.size W1 wr D F tv nv av ss vs (stsK all n) (nxtK all n) (accK all n)) ∧ Hid (∀ j, j < n → j < (stsK all j).length) ∧ Hid (∀ j, j ≤ n → (stsK all j).length ≤ 240)) (fun _ i _ => 1000 - (intOf i).toNat)
      case atStart => exact ⟨0, by omega, rfl, hS4, hid (fun j hj => absurd hj (Nat.not_lt_zero _)), hid (fun j hj => by have hj0 : j = 0 := (by omega); rw [hj0]; simp [stsK])⟩
      case round =>
        obtain ⟨n, hn240, rfl, hSx, hon, hfew⟩ := hrel
        obtain ⟨D, F, nv, av, ss, vs, hS⟩ := hSx.out
        have hS := hid hS
        clear hSx
        have hss : ss.length = (stsK all n).length := hS.out.sn.1
        have hvs : vs.length ≤ 240 := by rw [hS.out.df.nums.1, nxtK_len]; exact hn240
        obtain ⟨ta, tc, rfl⟩ := own_shape hS.out.st
        obtain ⟨na, nc, rfl⟩ := own_shape hS.out.df.nxt
        obtain ⟨aa', ac', rfl⟩ := own_shape hS.out.df.acc
        have h240 := hfew.out n (Nat.le_refl _)
        by_cases hlt : n < (stsK all n).length
        · have hltz : (n : Int) < (ss.length : Int) := by omega
          obtain ⟨WO, hWO⟩ : ∃ x, x = wr := ⟨_, rfl⟩
          subst hWO
          have hmk := make256
          have hL0 : Hid (∃ (D F : Nat → Prop) (nv av : Value) (ss' vs : List Value), RbL W1 WO.heap.size (WO.alloc (.cells (madeCells #[.int .i64 0] 256) 3)) D F (.slice ta ss.length tc) nv av ss' vs (rowK all ((stsK all n).getD n []) (stsK all n) 0).1 (nxtK all n) (accK all n) (rowN0 (rowK all ((stsK all n).getD n []) (stsK all n) 0).2)) := hid ⟨_, _, _, _, _, _, hS.out.newBlk (al' WO _) (by simp), Or.inr rfl, fun e => by have := hS.out.fL _ (hS.out.sF _ e); omega, own_base (made_ints WO 256 (by omega)) hS.out.low.size⟩
          have hmemb : Hid (∀ b, (rowK all ((stsK all n).getD n []) (stsK all n) b).1[n]? = some ((stsK all n).getD n [])) := hid (fun b => by
            obtain ⟨U, hU, _⟩ := (rowK_is all ((stsK all n).getD n []) (stsK all n) (stsK_nd all n) b).pre
            rw [hU, List.getElem?_append_left hlt]
            exact sts_at hlt)
          have hq : Hid (∀ b, (rowK all ((stsK all n).getD n []) (stsK all n) b).2.length = b) := hid (fun b => (rowK_is all ((stsK all n).getD n []) (stsK all n) (stsK_nd all n) b).len)
          have hmo : Hid (∀ b, (rowK all ((stsK all n).getD n []) (stsK all n) b).1.length ≤ 240 + b) := hid (fun b => by have := row_more all ((stsK all n).getD n []) (stsK all n) b; omega)
          have hBy := hid (fun b x u hb hu hx => hC.out.byB n b x u hb hlt hu hx)
          have hFi := hid (fun b tv x u hb h1 h2 => hC.out.find n b tv x u hb hlt h240 h1 h2)
          have hAc := hid (fun x u hx => hC.out.acc n x u hlt hx)
          have hcs := hid (rowK_cases all ((stsK all n).getD n []) (stsK all n))
          have hSt1 : Hid (stsK all (n + 1) = (rowK all ((stsK all n).getD n []) (stsK all n) 256).1) := hid rfl
          have hNx1 : Hid (nxtK all (n + 1) = nxtK all n ++ [(rowK all ((stsK all n).getD n []) (stsK all n) 256).2]) := hid rfl
          have hAc1 : Hid (accK all (n + 1) = accK all n ++ [accS ((stsK all n).getD n [])]) := hid rfl
          have hacl : (accK all n).length ≤ 240 := by rw [accK_len]; exact hn240
          go_wp2_with fail
          clear hmk hltz hss hvs hS
          generalize WO.alloc (.cells (madeCells #[.int .i64 0] 256) 3) = W5 at hL0 ⊢
          generalize WO.heap.size = rk at hL0 ⊢
          generalize (stsK all n).getD n [] = st at *
          generalize rowK all st (stsK all n) = RK at *
          generalize byS all st = BY at *
          go_loopw [7, 10] (fun tv i wr => ∃ b : Nat, b ≤ 256 ∧ i = .int .i64 b ∧ Hid (∃ (D F : Nat → Prop) (nv av : Value) (ss' vs : List Value), RbL W1 rk wr D F tv nv av ss' vs (RK b).1 (nxtK all n) (accK all n) (rowN0 (RK b).2))) (fun _ i _ => 256 - (intOf i).toNat)
          case atStart => exact ⟨0, by omega, rfl, hL0⟩
          case round =>
            obtain ⟨b, hb, rfl, hLx⟩ := hrel
            obtain ⟨D, F, nv, av, ss, vs, hL⟩ := hLx.out
            have hL := hid hL
            clear hLx
            obtain ⟨tg, tc, x, rfl, hns, hx, hNx⟩ := hL.out.at (hmemb.out b)
            have hssl : Hid (ss.length = (RK b).1.length) := hid hL.out.s.sn.1
            have hsle : ss.length ≤ 500 := by have := hmo.out b; have := hssl.out; omega
            have hnz' : (n : Int) < (ss.length : Int) := by omega
            by_cases hb256 : b < 256
            · have hbz : (b : Int) < 256 := by omega
              have GBb := hid (hBy.out b x wr hb256 hL.out.s.low hNx)
              have GFb := hid (fun tv x u h1 h2 => hFi.out b tv x u hb256 h1 h2)
              have hql := hq.out b
              have hoff : Hid (∀ u v l, Own u wr.heap.size v l → Off (fun k => D k ∨ F k) v) := hid (fun u v l h => Off.new h (fun k hk => by
                rcases hk with h1 | h1
                · exact hL.out.s.df.lt k h1
                · exact hL.out.s.fL k h1))
              obtain ⟨f, hf⟩ : ∃ f, Hid (findS (RK b).1 (BY b) 0 = f) := ⟨_, hid rfl⟩
              rw [hf.out] at GFb
              rcases hcs.out b with ⟨h, e⟩ | ⟨h, hm, e⟩ | ⟨h, hm, e⟩
              · have e1 := hid (congrArg Prod.fst e)
                have e2 := hid (congrArg Prod.snd e)
                rw [h] at GBb GFb
                clear h e hf
                generalize RK b = q at *
                go_wp2_with (first
                  | (go_at_call 32; refine GBb.out.mono ?_; rintro z w2 ⟨v2, rfl, hO2, hb2⟩; obtain ⟨a2, c2, rfl⟩ := own_shape hO2; have L2 := hid (hL.out.keep hb2); have N2 := hid (Nums.of_row hO2); have M2 := hid (numss_of L2.out.s.st L2.out.s.sn))
                  | (go_at_call 33; refine (GFb.out _ _ w2 M2.out N2.out).mono ?_; rintro z w3 ⟨rfl, hb3⟩; have L3 := hid (L2.out.keep hb3); obtain ⟨p0, p1⟩ := L3.out.cell hb256; obtain ⟨p2, p3⟩ := L3.out.put_cell hb256 f))
                go_roundw
                case rel => exact ⟨b + 1, by omega, by go_num, hid ⟨_, _, _, _, _, _, by rw [e1.out, e2.out, ← rowN0_put2 hql hb256 f]; exact (L3.out.put b f).put b (-1)⟩⟩
                case measure => simp [intOf]; omega
              · have e1 := hid (congrArg Prod.fst e)
                have e2 := hid (congrArg Prod.snd e)
                have hne : ((BY b).length : Int) ≠ 0 := fun e0 => h (List.eq_nil_of_length_eq_zero (by omega))
                have hne2 : (((BY b).length : Int) == 0) = false := beq_eq_false_iff_ne.2 hne
                have hfi : Hid (f = (((RK b).1.idxOf (BY b) : Nat) : Int)) := hid (by rw [← hf.out, findS_in 0 hm, Nat.zero_add])
                have hfz : ¬ f < 0 := by have := hfi.out; omega
                clear h e hf hm
                generalize BY b = to at *
                generalize RK b = q at *
                go_wp2_with (first
                  | (go_at_call 32; refine GBb.out.mono ?_; rintro z w2 ⟨v2, rfl, hO2, hb2⟩; obtain ⟨a2, c2, rfl⟩ := own_shape hO2; have L2 := hid (hL.out.keep hb2); have N2 := hid (Nums.of_row hO2); have M2 := hid (numss_of L2.out.s.st L2.out.s.sn))
                  | (go_at_call 33; refine (GFb.out _ _ w2 M2.out N2.out).mono ?_; rintro z w3 ⟨rfl, hb3⟩; have L3 := hid (L2.out.keep hb3); obtain ⟨p0, p1⟩ := L3.out.cell hb256; obtain ⟨p2, p3⟩ := L3.out.put_cell hb256 f))
                go_roundw
                case rel => exact ⟨b + 1, by omega, by go_num, hid ⟨_, _, _, _, _, _, by rw [e1.out, e2.out, ← hfi.out, ← rowN0_put1 hql hb256 f]; exact L3.out.put b f⟩⟩
                case measure => simp [intOf]; omega
              · have e1 := hid (congrArg Prod.fst e)
                have e2 := hid (congrArg Prod.snd e)
                have hne : ((BY b).length : Int) ≠ 0 := fun e0 => h (List.eq_nil_of_length_eq_zero (by omega))
                have hne2 : (((BY b).length : Int) == 0) = false := beq_eq_false_iff_ne.2 hne
                have hfi : f = -1 := by rw [← hf.out, findS_out 0 hm]
                clear h e hf hm
                subst hfi
                generalize BY b = to at *
                generalize RK b = q at *
                have hssz : Hid (((q.1.length : Nat) : Int) = (ss.length : Int)) := hid (by rw [hssl.out])
                go_wp2_with (first
                  | (at_builtin; refine wpList_append_lies _ (by rfl) _ _ _ (by rfl) W1.heap.size 23 iN (.slice none 0 0) 1 24 Tryz.underlying22 hiN zN0 zN1 zN2 rfl (by decide) (.slice (some ⟨tg, 0, none⟩) ss.length tc) ss.length ss (by rfl) L5.out.s.st ⟨w3.heap.size, 0, none⟩ 1 1 [.slice a2 to.length c2] (by rfl) (by rfl) (by have h9 := heap_new ((w3.setCell ⟨rk, b, none⟩ (.int .i64 (-1))).setCell ⟨rk, b, none⟩ (.int .i64 (ss.length : Int))) (.cells #[.slice a2 to.length c2] 23); rw [hsz9.out] at h9; exact World.news_of_block h9) (by simp [Value.oneCell']) (by omega) (by (unfold maxLen); omega) (by omega) L5.out.s.df.size (((w3.setCell ⟨rk, b, none⟩ (.int .i64 (-1))).setCell ⟨rk, b, none⟩ (.int .i64 (ss.length : Int))).alloc (.cells #[.slice a2 to.length c2] 23)).heap.size rfl ?_; intro g6 c6 w6 hown6 hgrow6 hat6 hlt6; have L6 := hid (L5.out.push N5.out O5.out hown6 hgrow6 hat6))
                  | (go_at_call 32; refine GBb.out.mono ?_; rintro z w2 ⟨v2, rfl, hO2, hb2⟩; obtain ⟨a2, c2, rfl⟩ := own_shape hO2; have L2 := hid (hL.out.keep hb2); have N2 := hid (Nums.of_row hO2); have O5 := hid (hoff.out _ _ _ hO2); have M2 := hid (numss_of L2.out.s.st L2.out.s.sn))
                  | (go_at_call 33; refine (GFb.out _ _ w2 M2.out N2.out).mono ?_; rintro z w3 ⟨rfl, hb3⟩; have L3 := hid (L2.out.keep hb3); obtain ⟨p0, p1⟩ := L3.out.cell hb256; obtain ⟨p2, p3⟩ := L3.out.put_cell hb256 (-1); have L4 := hid ((L3.out.put b (-1)).put b (ss.length : Int)); have N4 := hid ((N2.out.keep hb3).kept (F := F) (((Kept.refl F w3).setCell (a := ⟨rk, b, none⟩) (v := .int .i64 (-1)) (fun _ => hL.out.rF)).setCell (a := ⟨rk, b, none⟩) (v := .int .i64 (ss.length : Int)) (fun _ => hL.out.rF)) (O5.out.sub (fun k hk => Or.inr hk))); have hal5 := hid (al' ((w3.setCell ⟨rk, b, none⟩ (.int .i64 (-1))).setCell ⟨rk, b, none⟩ (.int .i64 (ss.length : Int))) (.cells #[.slice a2 to.length c2] 23)); have hsz9 : Hid (((w3.setCell ⟨rk, b, none⟩ (.int .i64 (-1))).setCell ⟨rk, b, none⟩ (.int .i64 (ss.length : Int))).heap.size = w3.heap.size) := hid (by simp); have L5 := hid (L4.out.keep hal5.out); have N5 := hid (N4.out.keep hal5.out)))
                go_roundw
                case rel => exact ⟨b + 1, by omega, by go_num, hid ⟨_, _, _, _, _, _, by rw [e1.out, e2.out, hssz.out, ← rowN0_put2 hql hb256 (-1)]; exact L6.out⟩⟩
                case measure => simp [intOf]; omega
            · have hbz : ¬ (b : Int) < 256 := by omega
              obtain rfl : b = 256 := by omega
              have hR : Hid (RbS W1.heap.size W1 wr D (fun k => F k ∧ k ≠ rk) (.slice (some ⟨tg, 0, none⟩) ss.length tc) nv av ss vs (stsK all (n + 1)) (nxtK all n) (accK all n)) := hid (by
                rw [hSt1.out]
                exact hL.out.s.drop (fun k hk => hk.1) (fun k e => ⟨hL.out.s.sF k e, fun e0 => hL.out.rt (by rw [e, e0])⟩))
              have hrow : Hid (Nums wr (.slice (some ⟨rk, 0, none⟩) 256 256) (RK 256).2) := hid (by
                have h1 := hL.out.row
                rw [rowN0_full (hq.out 256)] at h1
                exact Nums.of_row h1)
              have hroff : Hid (Off (fun k => D k ∨ (F k ∧ k ≠ rk)) (.slice (some ⟨rk, 0, none⟩) 256 256)) := hid (fun ad m c e h0 hf => by
                injection e with e
                injection e with e
                subst e
                rcases hf with h1 | h1
                · exact hL.out.s.df.apart _ h1 hL.out.rF
                · exact h1.2 rfl)
              have hrup : Hid (Off (fun k => k < W1.heap.size) (.slice (some ⟨rk, 0, none⟩) 256 256)) := hid (fun ad m c e h0 hf => by
                injection e with e
                injection e with e
                subst e
                have := hL.out.s.fF _ hL.out.rF
                exact absurd hf (Nat.not_lt.2 this))
              have hvs : vs.length ≤ 240 := by rw [hL.out.s.df.nums.1, nxtK_len]; exact hn240
              have hlen1 : Hid (ss.length = (stsK all (n + 1)).length) := hid hR.out.sn.1
              have hon' : Hid (∀ j, j < n + 1 → j < (stsK all j).length) := hid (fun j hj => by
                by_cases e : j = n
                · rw [e]; exact hlt
                · exact hon.out j (by omega))
              have hz7 : Hid (∀ u, Below W1.heap.size W1 u → u.heap[w.heap.size]? = some (.cells #[.slice none 0 0, .slice none 0 0] 25)) := hid (fun u hu => hs_keep hzr.out hu)
              by_cases hfull : 240 < ss.length
              · have hfz : (240 : Int) < (ss.length : Int) := by omega
                have hz8 := hz7.out wr hR.out.low
                obtain ⟨x0, x1, y0, y1⟩ := cells2m hz8
                have hfb : ((wr.setCell ⟨w.heap.size, 0, none⟩ (.slice none 0 0)).setCell ⟨w.heap.size, 1, none⟩ (.slice none 0 0)).heap[w.heap.size]? = some (.cells #[.slice none 0 0, .slice none 0 0] 25 (0, 0)) := heap_setCell (heap_setCell hz8)
                obtain ⟨r0, r1, -⟩ := cells2m hfb
                have hend : Hid (RefR L ((wr.setCell ⟨w.heap.size, 0, none⟩ (.slice none 0 0)).setCell ⟨w.heap.size, 1, none⟩ (.slice none 0 0)) (.slice none 0 0) (.slice none 0 0) 3 ∧ Below w.heap.size w ((wr.setCell ⟨w.heap.size, 0, none⟩ (.slice none 0 0)).setCell ⟨w.heap.size, 1, none⟩ (.slice none 0 0))) := hid ⟨Or.inr ⟨ts, hLt.out.1, hLt.out.2, all, hC.out.sp, Or.inr ⟨rfl, rfl, rfl, n, fun j hj => ⟨hon'.out j (by omega), hfew.out j hj⟩, by rw [← hlen1.out]; exact hfull⟩⟩, bl_set (bl_set (bl_step hbw.out hR.out.low) _ _ _ (Nat.le_refl _)) _ _ _ (Nat.le_refl _)⟩
                clear hz8 hfb hx hNx
                go_wp2
                exact bodyPost_ret (v := .tuple #[.agg #[.slice none 0 0, .slice none 0 0], .int .i64 3]) (by simp [results, Tryz.results17, go_sem, r0, r1]) rfl ⟨_, _, _, rfl, hend.out.1, hend.out.2⟩
              · have hfz : ¬ (240 : Int) < (ss.length : Int) := by omega
                obtain ⟨na, nc, rfl⟩ := own_shape hR.out.df.nxt
                obtain ⟨aa', ac', rfl⟩ := own_shape hR.out.df.acc
                obtain ⟨d0, d1, f0, f1⟩ := cells2m hR.out.df.blk
                have hal6 := hid (al' wr (.cells #[.slice (some ⟨rk, 0, none⟩) 256 256] 23))
                have S6 := hid (hR.out.keep hal6.out)
                have N6 := hid (hrow.out.keep hal6.out)
                obtain ⟨d0', d1', f0', f1'⟩ := cells2m S6.out.df.blk
                clear hx hNx
                go_wp2_with (at_builtin; refine wpList_append_lies _ (by rfl) _ _ _ (by rfl) W1.heap.size 23 iN (.slice none 0 0) 1 24 Tryz.underlying22 hiN zN0 zN1 zN2 rfl (by decide) (.slice na vs.length nc) vs.length vs (by rfl) S6.out.df.nxt ⟨wr.heap.size, 0, none⟩ 1 1 [.slice (some ⟨rk, 0, none⟩) 256 256] (by rfl) (by rfl) (World.news_of_block (heap_new wr (.cells #[.slice (some ⟨rk, 0, none⟩) 256 256] 23))) (by simp [Value.oneCell']) (by omega) (by (unfold maxLen); omega) (by omega) S6.out.df.size (wr.alloc (.cells #[.slice (some ⟨rk, 0, none⟩) 256 256] 23)).heap.size rfl ?_; intro g7 c7 w7 hown7 hgrow7 hat7 hlt7; obtain ⟨D7, S7⟩ := S6.out.row2 N6.out hroff.out hrup.out hown7 hgrow7 hat7; have S7 := hid S7; obtain ⟨x0, x1, y0, y1⟩ := cells2m (grown_blk hgrow7 S6.out.df.blk (fun e0 => (S6.out.df.nF _ e0).2.1 rfl)))
                have hall : Hid (∃ (D F : Nat → Prop) (vs' : List Value), RbS W1.heap.size W1 (w7.setCell ⟨W1.heap.size, 0, none⟩ (.slice (some ⟨g7, 0, none⟩) (vs.length + 1) c7)) D F (.slice (some ⟨tg, 0, none⟩) ss.length tc) (.slice (some ⟨g7, 0, none⟩) (vs.length + 1) c7) (.slice aa' (accK all n).length ac') ss vs' (stsK all (n + 1)) (nxtK all (n + 1)) (accK all n)) := hid ⟨_, _, _, by rw [hNx1.out]; exact S7.out⟩
                clear S7 d0 d1 f0 f1 d0' d1' f0' f1' x0 x1 y0 y1
                generalize w7.setCell ⟨W1.heap.size, 0, none⟩ (.slice (some ⟨g7, 0, none⟩) (vs.length + 1) c7) = W7 at hall ⊢
                generalize Value.slice (some ⟨g7, 0, none⟩) (vs.length + 1) c7 = nv7 at hall ⊢
                obtain ⟨D7, F7, vs7, S7⟩ := hall.out
                have S7 := hid S7
                clear hall
                have hd7 : Below W7.heap.size W7 W7.drew := (Below.refl _ _).drew
                have Sd := hid (S7.out.keep hd7)
                clear hd7
                obtain ⟨b0, b1, g0', g1'⟩ := cells2m Sd.out.df.blk
                obtain ⟨x, hx, hNx⟩ : ∃ x, W7.drew.cell? ⟨tg, n, none⟩ = some x ∧ Nums W7.drew x st := by
                  have h1 := Sd.out.st.cellAt n (by omega)
                  rw [List.getElem?_eq_getElem hns] at h1
                  refine ⟨ss[n], h1, ?_⟩
                  have h2 := (Sd.out.sn.2 n).1
                  rw [hSt1.out] at h2
                  rw [List.getD_eq_getElem?_getD, List.getElem?_eq_getElem hns, List.getD_eq_getElem?_getD, hmemb.out 256] at h2
                  exact h2
                have GAn := hid (hAc.out x W7.drew hNx)
                have hcells : Hid (∀ u, Below W7.drew.heap.size W7.drew u → RbS W1.heap.size W1 u D7 F7 (.slice (some ⟨tg, 0, none⟩) ss.length tc) nv7 (.slice aa' (accK all n).length ac') ss vs7 (stsK all (n + 1)) (nxtK all (n + 1)) (accK all n) ∧ u.cell? ⟨tg, n, none⟩ = some x) := hid (fun u hu => ⟨Sd.out.keep hu, keep_cell hu hx⟩)
                have hsnA : Hid (∀ (w4 : World) (g4 c4 : Nat), w4.ownsRow W1.heap.size 3 1 (.slice (some ⟨g4, 0, none⟩) ((accK all n).length + 1) c4) ((accK all n).length + 1) (numCells (accK all n) ++ [.int .i64 (accS st)]) → Own w4 W1.heap.size (.slice (some ⟨g4, 0, none⟩) ((accK all n).length + 1) c4) (accK all (n + 1))) := hid (fun w4 g4 c4 h => by
                  have e1 : (accK all n ++ [accS st]).length = (accK all n).length + 1 := List.length_append
                  unfold Own
                  rw [hAc1.out, e1, numCells_snoc]
                  exact h)
                clear hNx
                generalize accS st = an at *
                go_wp2_with fail
                apply collapse
                case h =>
                  intro rest
                  go_region_law ((first
                    | (refine step_append_lies _ (by rfl) (.tmp 98) (.tmp 104) 23 (by rfl) W1.heap.size 3 i0 (.int .i64 0) 1 8 Tryz.underlying23 hi0 z00 z01 z02 rfl (by decide) (.slice aa' (accK all n).length ac') (accK all n).length (numCells (accK all n)) (by rfl) S8.out.df.acc ⟨w8.heap.size, 0, none⟩ 1 1 [.int .i64 an] (by rfl) (by rfl) (World.news_of_block (heap_new w8 (.cells #[.int .i64 an] 3))) (by simp [Value.oneCell']) (by omega) (by (unfold maxLen); omega) (by omega) S8.out.df.size (w8.alloc (.cells #[.int .i64 an] 3)).heap.size rfl ?_; intro g9 c9 w9 hown9 hgrow9 hat9 hlt9; obtain ⟨D9, S9⟩ := S8.out.acc2 (hsnA.out _ _ _ hown9) hgrow9 hat9; have S9 := hid S9; obtain ⟨x0, x1, y0, y1⟩ := cells2m (grown_blk hgrow9 S8.out.df.blk (fun e0 => (S8.out.df.aF _ e0).2 rfl)))
                    | (refine step_call (by rfl) 34 #[x] (by go_simp) GAn.out ?_; rintro z w8 ⟨rfl, hb8⟩; refine ⟨_, rfl, ?_⟩; obtain ⟨S8, t8⟩ := hcells.out w8 hb8; obtain ⟨d0, d1, f0, f1⟩ := cells2m S8.df.blk; have S8 := hid (S8.keep (al' w8 (.cells #[.int .i64 an] 3))); obtain ⟨d0', d1', f0', f1'⟩ := cells2m S8.out.df.blk)))
                  all_goals
                    have hall : Hid (∃ (D F : Nat → Prop) (nv av : Value) (ss' vs' : List Value), RbS W1.heap.size W1 (w9.setCell ⟨W1.heap.size, 1, none⟩ (.slice (some ⟨g9, 0, none⟩) ((accK all n).length + 1) c9)) D F (.slice (some ⟨tg, 0, none⟩) ss.length tc) nv av ss' vs' (stsK all (n + 1)) (nxtK all (n + 1)) (accK all (n + 1))) := hid ⟨_, _, _, _, _, _, S9.out⟩
                    generalize w9.setCell ⟨W1.heap.size, 1, none⟩ (.slice (some ⟨g9, 0, none⟩) ((accK all n).length + 1) c9) = W9 at hall ⊢
                    generalize Value.slice (some ⟨g9, 0, none⟩) ((accK all n).length + 1) c9 = av9 at hall ⊢
                    generalize w8.heap.size = g8
                    revert hall
                    revert W9 av9 g8
                    exact rest.out
                case pf =>
                  intro W9 av9 g8 hall
                  have hfew' : Hid (∀ j, j ≤ n + 1 → (stsK all j).length ≤ 240) := hid (fun j hj => by
                    by_cases e : j = n + 1
                    · rw [e, ← hlen1.out]; omega
                    · exact hfew.out j (by omega))
                  have hn1 : n + 1 ≤ 240 := by omega
                  go_wp2
                  go_roundw
                  case rel => exact ⟨n + 1, hn1, by go_num, hall, hon', hfew'⟩
                  case measure => simp [intOf]; omega
        · have hltz : ¬ (n : Int) < (ss.length : Int) := by omega
          obtain ⟨b0, b1, -⟩ := cells2m hS.out.df.blk
          have hfn : Hid ((stsK all n).length = n) := hid (by
            have h0 : n ≤ (stsK all n).length := by
              rcases Nat.eq_zero_or_pos n with e | e
              · omega
              · have h3 := hon.out (n - 1) (by omega)
                obtain ⟨U, hU⟩ := stsK_mono all (n - 1) 1
                rw [show n - 1 + 1 = n by omega] at hU
                rw [hU, List.length_append]
                omega
            omega)
          have hz8 : wr.heap[w.heap.size]? = some (.cells #[.slice none 0 0, .slice none 0 0] 25) := hs_keep hzr.out hS.out.low
          obtain ⟨x0, x1, y0, y1⟩ := cells2m hz8
          have hfb : ((wr.setCell ⟨w.heap.size, 0, none⟩ (.slice na vs.length nc)).setCell ⟨w.heap.size, 1, none⟩ (.slice aa' (accK all n).length ac')).heap[w.heap.size]? = some (.cells #[.slice na vs.length nc, .slice aa' (accK all n).length ac'] 25 (0, 0)) := heap_setCell (heap_setCell hz8)
          obtain ⟨r0, r1, -⟩ := cells2m hfb
          have hrb : Hid (w.heap.size < W1.heap.size) := hid (blk_lt hzr.out)
          have hdbr : W1.heap.size ≠ w.heap.size := by have := hrb.out; omega
          have hkf : Hid (Kept (oneBlk w.heap.size) wr ((wr.setCell ⟨w.heap.size, 0, none⟩ (.slice na vs.length nc)).setCell ⟨w.heap.size, 1, none⟩ (.slice aa' (accK all n).length ac'))) := hid (((Kept.refl (oneBlk w.heap.size) wr).setCell (a := ⟨w.heap.size, 0, none⟩) (v := .slice na vs.length nc) (fun _ => rfl)).setCell (a := ⟨w.heap.size, 1, none⟩) (v := .slice aa' (accK all n).length ac') (fun _ => rfl))
          have hend : Hid (∀ u, Kept (oneBlk w.heap.size) wr u → RefR L u (.slice na vs.length nc) (.slice aa' (accK all n).length ac') 0 ∧ Below w.heap.size w u) := hid (fun u hu => by
            have hD : ∀ k, D k → ¬ oneBlk w.heap.size k := fun k hk e0 => by
              have e1 : k = w.heap.size := e0
              have := hS.out.dF k hk
              have := hrb.out
              omega
            have hN : NumsF (oneBlk w.heap.size) wr vs (nxtK all n) := ⟨hS.out.df.nums.1, fun j => ⟨(hS.out.df.nums.2 j).1, (hS.out.up j).sub (fun k e0 => by have e1 : k = w.heap.size := e0; have := hrb.out; omega)⟩⟩
            have hbl0 := bl_step hbw.out hS.out.low
            refine ⟨Or.inr ⟨ts, hLt.out.1, hLt.out.2, all, hC.out.sp, Or.inl ⟨rfl, n, ⟨hon.out, hfew.out, hfn.out⟩, ?_, ?_⟩⟩, hbl0.trans (hu.below (fun k e0 => ?_) hbl0.size)⟩
            · exact numss_of (F := oneBlk w.heap.size) (own_kept hS.out.df.nxt hu (fun k e0 => hD k (hS.out.df.nF k e0).1)) (hN.kept hu)
            · exact Nums.of_row (own_kept hS.out.df.acc hu (fun k e0 => hD k (hS.out.df.aF k e0).1))
            · have e1 : k = w.heap.size := e0
              omega)
          clear hz8 hfb
          go_wp2
          obtain ⟨E1, E2⟩ := hend.out _ hkf.out
          exact bodyPost_ret (v := .tuple #[.agg #[.slice na vs.length nc, .slice aa' (accK all n).length ac'], .int .i64 0]) (by simp [results, Tryz.results17, go_sem, r0, r1]) rfl ⟨_, _, _, rfl, E1, E2⟩

end Go.Proofs.YtlpbeieljjgbaaaGreatDoor
namespace Go.Proofs.YtlpbeieljjgbaaaGreatDoor
open Go.RowKit

/-- an answer of Build, as R says it -/
def AnsB (R : List (List Int) → List Int → Int → Prop) (w : World) (nv av : Value) (er : Int) : Prop := ∃ N A, R N A er ∧ Numss w nv N ∧ Nums w av A
structure OneB (R : List (List Int) → List Int → Int → Prop) : Prop where
  one : ∀ N A er N' A' er', R N A er → R N' A' er' → N = N' ∧ A = A' ∧ er = er'
  few : ∀ N A er, R N A er → N.length ≤ 1000 ∧ A.length ≤ 1000 ∧ ∀ j, j < N.length → (N.getD j []).length ≤ 1000
theorem numss_shape {w : World} {v : Value} {N : List (List Int)} (h : Numss w v N) : ∃ a n c, v = .slice a n c := by obtain ⟨a, c, e, _⟩ := h; exact ⟨a, _, c, e⟩
theorem nums_shape {w : World} {v : Value} {A : List Int} (h : Nums w v A) : ∃ a n c, v = .slice a n c := by obtain ⟨a, c, e, _⟩ := h; exact ⟨a, _, c, e⟩
set_option maxRecDepth 20000 in
set_option maxHeartbeats 8000000 in
theorem buildsWalk (R : List (List Int) → List Int → Int → Prop) (hR : OneB R) (v : Value) (L : List (List Cel)) (w : World) (hl : L.length * 24 ≤ 140737488351232) (hA : Celss w v L) (hT : Tab w) (hh : heavyB L = false)
    (hB : ∀ v' u, Celss u v' L → Tab u → Calls Tryz.prog 15 #[v'] u fun z w' => ∃ nv av er, z = .returned (.tuple #[.agg #[nv, av], .int .i64 er]) ∧ AnsB R w' nv av er ∧ Below u.heap.size u w')
    (hF : ∀ v' u, Celss u v' L → Calls Tryz.prog 17 #[v'] u fun z w' => ∃ nv av er, z = .returned (.tuple #[.agg #[nv, av], .int .i64 er]) ∧ AnsB R w' nv av er ∧ Below u.heap.size u w') :
    Calls Tryz.prog 4 #[v] w fun e w' => e = .returned (.bool true) ∧ Below w.heap.size w w' := by
  have GW := hid (wakes8 w hT)
  have GH := hid (fun u (hu : Below w.heap.size w u) => heavyC v L u (by omega) (hA.keep hu))
  obtain ⟨va, vc, rfl⟩ : ∃ a c, v = .slice a L.length c := by obtain ⟨a, c, e, _⟩ := hA; exact ⟨a, c, e⟩
  rw [hh] at GH
  obtain ⟨hL20, hl40⟩ := light hh
  have GC := hid (fun u (hu : Below w.heap.size w u) => copiedC _ L u (hA.keep hu) (by omega) (fun l h => by have := hl40 l h; omega))
  have GB := hid (fun v' u (hc : Celss u v' L) (hu : Below w.heap.size w u) => hB v' u hc (hT.keep hu))
  have GF := hid (fun u (hu : Below w.heap.size w u) => hF _ u (hA.keep hu))
  have hshC : Hid (∀ u v', Celss u v' L → ∃ a c, v' = .slice a L.length c) := hid (fun u v' h => by obtain ⟨a, c, e, _⟩ := h; exact ⟨a, c, e⟩)
  have GS : Hid (∀ u nv av er nv' av' er', AnsB R u nv av er → AnsB R u nv' av' er' → er = er' ∧ Calls Tryz.prog 18 #[.agg #[nv, av], .agg #[nv', av']] u fun e w' => e = .returned (.bool true) ∧ Below u.heap.size u w') := hid (fun u nv av er nv' av' er' h1 h2 => by
    obtain ⟨N, A, r1, n1, a1⟩ := h1
    obtain ⟨N', A', r2, n2, a2⟩ := h2
    obtain ⟨rfl, rfl, rfl⟩ := hR.one _ _ _ _ _ _ r1 r2
    obtain ⟨f1, f2, f3⟩ := hR.few _ _ _ r1
    exact ⟨rfl, refSameD nv av nv' av' N A u n1 a1 n2 a2 f1 f2 f3⟩)
  have hkeep : Hid (∀ u u' nv av er, AnsB R u nv av er → Below u.heap.size u u' → AnsB R u' nv av er) := hid (fun u u' nv av er h hb => by
    obtain ⟨N, A, r1, n1, a1⟩ := h
    exact ⟨N, A, r1, n1.keep hb, a1.keep hb⟩)
  have hsh : Hid (∀ u nv av er, AnsB R u nv av er → (∃ a n c, nv = .slice a n c) ∧ (∃ a n c, av = .slice a n c)) := hid (fun u nv av er h => by
    obtain ⟨N, A, r1, n1, a1⟩ := h
    exact ⟨numss_shape n1, nums_shape a1⟩)
  clear hA hT hh hl40 hB hF hR
  go_enter Tryz.func4, Tryz.ntmps4
  go_wp2_with (first
    | (go_at_call 8; refine GW.out.mono ?_; rintro e w1 ⟨rfl, hb1⟩)
    | (go_at_call 14; refine (GH.out w1 hb1).mono ?_; rintro e u ⟨rfl, hu⟩; subst u)
    | (go_at_call 16; refine (GC.out w1 hb1).mono ?_; rintro e w2 ⟨v2, rfl, hC2, hb2⟩; obtain ⟨a2, c2, rfl⟩ := hshC.out _ _ hC2; have hb02 := hid (bl_step hb1 hb2); have hC2 := hid hC2)
    | (go_at_call 15; refine (GB.out _ w2 hC2.out hb02.out).mono ?_; rintro e w3 ⟨nv, av, er, rfl, hR3, hb3⟩; have hR3 := hid hR3; have hb03 := hid (bl_step hb02.out hb3); obtain ⟨⟨na, nn, nc, rfl⟩, ⟨aa, an, ac, rfl⟩⟩ := hsh.out _ _ _ _ hR3.out; have hal3 := hid (al' w3 (.cells #[.slice na nn nc, .slice aa an ac] 25)); have hbk3 := hid (heap_new w3 (.cells #[.slice na nn nc, .slice aa an ac] 25)); have hb04 := hid (bl_step hb03.out hal3.out))
    | (go_at_call 17; refine (GF.out _ hb04.out).mono ?_; rintro e w5 ⟨nv', av', er', rfl, hR5, hb5⟩; have hR5 := hid hR5; obtain ⟨⟨na', nn', nc', rfl⟩, ⟨aa', an', ac', rfl⟩⟩ := hsh.out _ _ _ _ hR5.out; have hal5 := hid (al' w5 (.cells #[.slice na' nn' nc', .slice aa' an' ac'] 25)); have hbk5 := hid (heap_new w5 (.cells #[.slice na' nn' nc', .slice aa' an' ac'] 25)); have hb56 := hid (bl_step hb5 hal5.out); have hbk6 := hid ((hb56.out.block w3.heap.size (blk_lt hbk3.out)).trans hbk3.out); obtain ⟨p0, p1, -⟩ := cells2m hbk6.out; obtain ⟨q0, q1, -⟩ := cells2m hbk5.out; obtain ⟨hee, GS6⟩ := GS.out _ _ _ _ _ _ _ (hkeep.out _ _ _ _ _ hR3.out (bl_step hal3.out hb56.out)) (hkeep.out _ _ _ _ _ hR5.out hal5.out); subst hee; have GS6 := hid GS6; have hb06 := hid (bl_step hb04.out hb56.out))
    | (go_at_call 18; refine GS6.out.mono ?_; rintro e w7 ⟨rfl, hb7⟩))
  go_ret
  exact ⟨by simp, bl_step hb06.out hb7⟩

end Go.Proofs.YtlpbeieljjgbaaaGreatDoor
namespace Go.Proofs.YtlpbeieljjgbaaaGreatDoor
open Go.RowKit

def NoB (N : List (List Int)) (A : List Int) (er : Int) : Prop := N = [] ∧ A = [] ∧ er = 1
theorem oneB_no : OneB NoB where
  one := fun N A er N' A' er' h h' => by
    obtain ⟨rfl, rfl, rfl⟩ := h
    obtain ⟨rfl, rfl, rfl⟩ := h'
    exact ⟨rfl, rfl, rfl⟩
  few := fun N A er h => by
    obtain ⟨rfl, rfl, _⟩ := h
    exact ⟨by simp, by simp, fun j hj => absurd hj (Nat.not_lt_zero _)⟩
theorem numss_nil (w : World) : Numss w (.slice none 0 0) [] := ⟨none, 0, rfl, Nat.le_refl _, fun _ => rfl, fun _ hj => absurd hj (Nat.not_lt_zero _)⟩
theorem ansB_no (w : World) : AnsB NoB w (.slice none 0 0) (.slice none 0 0) 1 := ⟨[], [], ⟨rfl, rfl, rfl⟩, numss_nil w, Nums.nil w⟩
theorem celss_shape {w : World} {v : Value} {L : List (List Cel)} (h : Celss w v L) : ∃ a c, v = .slice a L.length c := by obtain ⟨a, c, e, _⟩ := h; exact ⟨a, c, e⟩
set_option maxRecDepth 20000 in
theorem buildsMany (v : Value) (L : List (List Cel)) (w : World) (hl : L.length * 24 ≤ 140737488351232) (hA : Celss w v L) (hT : Tab w) (hh : heavyB L = false) (hn : 16 < L.length) :
    Calls Tryz.prog 4 #[v] w fun e w' => e = .returned (.bool true) ∧ Below w.heap.size w w' :=
  buildsWalk NoB oneB_no v L w hl hA hT hh
    (fun v' u hc _ => by
      obtain ⟨a, c, rfl⟩ := celss_shape hc
      refine (buildNo _ u fun u' _ => placesMany a L.length c u' hn (by omega)).mono ?_
      rintro z w' ⟨rfl, hb⟩
      exact ⟨_, _, _, rfl, ansB_no w', hb⟩)
    (fun v' u hc => by
      obtain ⟨a, c, rfl⟩ := celss_shape hc
      refine (refBuildMany a L.length c u hn (by omega)).mono ?_
      rintro z w' ⟨rfl, hb⟩
      exact ⟨_, _, _, rfl, ansB_no w', hb⟩)

end Go.Proofs.YtlpbeieljjgbaaaGreatDoor
namespace Go.Proofs.YtlpbeieljjgbaaaGreatDoor
open Go.RowKit

theorem post_one {t t' : Rx} (h : post t = post t') : t = t' := by
  have e := stK_end t
  rw [h, stK_end t'] at e
  injection e with e
  exact e.symm
theorem posts_one : ∀ {ts ts' : List Rx}, ts.map post = ts'.map post → ts = ts'
  | [], [], _ => rfl
  | [], _ :: _, h => by cases h
  | _ :: _, [], h => by cases h
  | t :: ts, t' :: ts', h => by
    rw [List.map_cons, List.map_cons] at h
    injection h with h1 h2
    rw [post_one h1, posts_one h2]
/-- what is built of right rules -/
def BldW (ts : List Rx) (N : List (List Int)) (A : List Int) (er : Int) : Prop := ∃ all, SpAll ts all ∧ ((er = 0 ∧ ∃ n, BldTo all n ∧ N = nxtK all n ∧ A = accK all n) ∨ (er = 3 ∧ N = [] ∧ A = [] ∧ BldFull all))
theorem oneB_bld (ts : List Rx) : OneB (BldW ts) where
  one := fun N A er N' A' er' h h' => by
    obtain ⟨all, ha, h⟩ := h
    obtain ⟨all', ha', h'⟩ := h'
    obtain rfl := ha.uniq ha'
    rcases h with ⟨rfl, n, h1, rfl, rfl⟩ | ⟨rfl, rfl, rfl, h1⟩ <;> rcases h' with ⟨rfl, n', h1', rfl, rfl⟩ | ⟨rfl, rfl, rfl, h1'⟩
    · obtain rfl := h1.uniq h1'
      exact ⟨rfl, rfl, rfl⟩
    · exact absurd h1' h1.not_full
    · exact absurd h1 h1'.not_full
    · exact ⟨rfl, rfl, rfl⟩
  few := fun N A er h => by
    obtain ⟨all, ha, h⟩ := h
    rcases h with ⟨rfl, n, h1, rfl, rfl⟩ | ⟨rfl, rfl, rfl, h1⟩
    · have := h1.le
      refine ⟨by rw [nxtK_len]; omega, by rw [accK_len]; omega, fun j hj => ?_⟩
      rw [nxtK_len] at hj
      rw [(nxtK_row all hj).1]
      omega
    · exact ⟨by simp, by simp, fun j hj => absurd hj (Nat.not_lt_zero _)⟩
theorem ansB_bld {ts : List Rx} {w : World} {nv av : Value} {er : Int} (h : BldR ts w nv av er) : AnsB (BldW ts) w nv av er := by
  obtain ⟨all, ha, h⟩ := h
  rcases h with ⟨rfl, n, h1, h2, h3⟩ | ⟨rfl, rfl, rfl, h1⟩
  · exact ⟨_, _, ⟨all, ha, Or.inl ⟨rfl, n, h1, rfl, rfl⟩⟩, h2, h3⟩
  · exact ⟨[], [], ⟨all, ha, Or.inr ⟨rfl, rfl, rfl, h1⟩⟩, numss_nil w, Nums.nil w⟩
/-- the first rule that isn't right -/
theorem first_bad : ∀ (L : List (List Cel)), L.all rightB = false → ∃ (ts : List Rx) (l : List Cel), (∀ j (h : j < ts.length), L[j]? = some (post ts[j])) ∧ L[ts.length]? = some l ∧ rightB l = false ∧ ∀ t ∈ ts, t.ok ∧ (post t).length ≤ 60
  | [], h => by cases h
  | a :: r, h => by
    by_cases ha : rightB a = true
    · have hr : r.all rightB = false := by
        rw [List.all_cons, ha] at h
        simpa using h
      obtain ⟨ts, l, h1, h2, h3, h4⟩ := first_bad r hr
      obtain ⟨t, e, hok⟩ := tree_of ha
      refine ⟨t :: ts, l, fun j hj => ?_, by simpa using h2, h3, fun t' ht' => ?_⟩
      · cases j with
        | zero => simp [e]
        | succ j =>
          have := h1 j (by simpa using hj)
          simpa using this
      · rcases List.mem_cons.1 ht' with e0 | e0
        · rw [e0]; exact hok
        · exact h4 t' e0
    · exact ⟨[], a, fun j hj => absurd hj (Nat.not_lt_zero _), rfl, by simpa using ha, by simp⟩
theorem all_right {ts : List Rx} (hok : ∀ t ∈ ts, t.ok ∧ (post t).length ≤ 60) : (ts.map post).all rightB = true := by
  rw [List.all_eq_true]
  intro l hl
  obtain ⟨t, ht, rfl⟩ := List.mem_map.1 hl
  exact right_post (hok t ht).1 (hok t ht).2
set_option maxRecDepth 20000 in
theorem buildsOne (v : Value) (L : List (List Cel)) (w : World) (hl : L.length * 24 ≤ 140737488351232) (hA : Celss w v L) (hT : Tab w) (hh : heavyB L = false) :
    Calls Tryz.prog 4 #[v] w fun e w' => e = .returned (.bool true) ∧ Below w.heap.size w w' := by
  rcases Nat.lt_or_ge 16 L.length with hn | hn
  · exact buildsMany v L w hl hA hT hh hn
  · cases hr : L.all rightB with
    | false =>
      obtain ⟨ts, l, h1, h2, h3, h4⟩ := first_bad L hr
      refine buildsWalk NoB oneB_no v L w hl hA hT hh (fun v' u hc _ => ?_) (fun v' u hc => ?_)
      · refine (buildNo v' u fun u' hu' => placesBad v' L ts l u' (hc.keep hu') hn h1 h2 h3 h4).mono ?_
        rintro z w' ⟨rfl, hb⟩
        exact ⟨_, _, _, rfl, ansB_no w', hb⟩
      · refine (refBuild v' L u hc hn).mono ?_
        rintro z w' ⟨nv, av, er, rfl, hR, hb⟩
        rcases hR with ⟨_, rfl, rfl, rfl⟩ | ⟨ts', e, hok, _⟩
        · exact ⟨_, _, _, rfl, ansB_no w', hb⟩
        · rw [e, all_right hok] at hr
          cases hr
    | true =>
      obtain ⟨ts, e, hok⟩ := trees_of hr
      refine buildsWalk (BldW ts) (oneB_bld ts) v L w hl hA hT hh (fun v' u hc hT' => ?_) (fun v' u hc => ?_)
      · rw [e] at hc
        refine (buildGood v' ts u hc (by rw [e, List.length_map] at hn; exact hn) hok hT').mono ?_
        rintro z w' ⟨nv, av, er, rfl, hR, hb⟩
        exact ⟨_, _, _, rfl, ansB_bld hR, hb⟩
      · refine (refBuild v' L u hc hn).mono ?_
        rintro z w' ⟨nv, av, er, rfl, hR, hb⟩
        rcases hR with ⟨h0, _⟩ | ⟨ts', e', hok', hR⟩
        · rw [h0] at hr; cases hr
        · obtain rfl := posts_one (e.symm.trans e')
          exact ⟨_, _, _, rfl, ansB_bld hR, hb⟩
set_option maxRecDepth 20000 in
/-- whatever rules -/
theorem buildsAll (v : Value) (L : List (List Cel)) (w : World) (hl : L.length * 24 ≤ 140737488351232) (hA : Celss w v L) (hT : Tab w) :
    Calls Tryz.prog 4 #[v] w fun e w' => e = .returned (.bool true) ∧ Below w.heap.size w w' := by
  cases hh : heavyB L with
  | false => exact buildsOne v L w hl hA hT hh
  | true =>
    have GW := hid (wakes8 w hT)
    have GH := hid (fun u (hu : Below w.heap.size w u) => heavyC v L u (by omega) (hA.keep hu))
    obtain ⟨va, vc, rfl⟩ : ∃ a c, v = .slice a L.length c := by obtain ⟨a, c, e, _⟩ := hA; exact ⟨a, c, e⟩
    rw [hh] at GH
    clear hA hT hh
    go_enter Tryz.func4, Tryz.ntmps4
    go_wp2_with (first
      | (go_at_call 8; refine GW.out.mono ?_; rintro e w1 ⟨rfl, hb1⟩)
      | (go_at_call 14; refine (GH.out w1 hb1).mono ?_; rintro e u ⟨rfl, hu⟩; subst u))
    go_ret
    exact ⟨by simp, hb1⟩

end Go.Proofs.YtlpbeieljjgbaaaGreatDoor
