/- spots.Of, of a right rule. Rows of slices: slices.Grow, slices.Concat of them. -/
import Derived.Test.YtgbecehggdkkmaaJ31
import Derived.Test.YtgbecehggdkkmaaJ26
import Derived.BigRegion
import Derived.Deep.RegionHeld3
namespace Go.Proofs.Ytgbecehggdkkmaa
open Go.RowKit

set_option maxRecDepth 20000 in
set_option maxHeartbeats 8000000 in
theorem sofGood (v : Value) (t : Rx) (w : World) (hA : Cels w v (post t)) (ho : t.ok) (h60 : (post t).length ≤ 60) :
    Calls Try.prog 7 #[v] w fun e w' => ∃ sv fv lv gv fl, e = .returned (.tuple #[.agg #[sv, .bool t.null, fv, lv, gv], .int .i64 0]) ∧ SpV w' sv fv lv gv ⟨setsS [t], t.null, firstL t 0, lastL t 0, fl⟩ ∧ FolOK (FolS [t]) (nS [t]) fl ∧ Below w.heap.size w w' := by
  have hb0 := al' w (.cells #[nilV, .bool false, nilV, nilV, nilV] 27)
  have hrt := right_post ho h60
  have G := hid (rightP v _ _ (hA.keep hb0))
  rw [hrt] at G
  have hq := heap_new w (.cells #[nilV, .bool false, nilV, nilV, nilV] 27)
  have hb0 := hid hb0
  have hfit : Hid (∀ S ∈ setsS [t], Fit4 S) := hid (fun S hS => by obtain ⟨_, _, _, _, _, hF, _⟩ := hA; exact (hF _ (setsL_post t S (by simpa [setsS] using hS))).3)
  have hend : Hid (stK (post t) (post t).length = [t]) := hid (stK_end t)
  obtain ⟨l, hl⟩ : ∃ l, l = post t := ⟨_, rfl⟩
  rw [← hl] at hA hrt hend h60
  have hpos : 0 < l.length := by rw [hl]; exact post_pos t
  obtain ⟨av, cv, rfl, _, _, hFl, hAt⟩ := hA
  have hAt := hid hAt
  have hFl := hid hFl
  have hsuc := hid (fun k (hk : k < l.length) => stK_succ l k hk)
  have hwan := hid (fun k (hk : k < l.length) => stK_wants hrt k hk)
  have hns := hid (fun k (hk : k ≤ l.length) => nS_stK hrt k hk)
  obtain ⟨iP, hiP, zP0, zP1, zP2⟩ := info_parts Try.infoP
  obtain ⟨iS, hiS, zS0, zS1, zS2⟩ := info_parts Try.infoS4
  obtain ⟨iN, hiN, zN0, zN1, zN2⟩ := info_parts Try.infoN
  have hstart : Hid (stK l 0 = []) := hid rfl
  clear ho hrt hl
  go_enter Try.func7, Try.ntmps7
  go_wp2_with (go_at_call 16; refine G.out.mono ?_; rintro e w1 ⟨rfl, hb1⟩)
  have hM0 := hid (OfM.start w1 w.heap.size (Nat.lt_of_lt_of_le (by simp) hb1.size))
  have hbw : Hid (Below w.heap.size w (w1.alloc (.cells #[nilV, .bool false, nilV, nilV, nilV] 27))) := hid (bl_step (bl_step hb0.out hb1) (al' w1 _))
  have hqr := hid (hs_keep (hs_keep hq hb1) (al' w1 (.cells #[nilV, .bool false, nilV, nilV, nilV] 27)))
  have hpb : w.heap.size < w1.heap.size := Nat.lt_of_lt_of_le (by simp) hb1.size
  have hpl : Hid (w1.heap.size < (w1.alloc (.cells #[nilV, .bool false, nilV, nilV, nilV] 27)).heap.size) := hid (by simp)
  clear G hb0 hq hb1
  generalize w1.alloc (.cells #[nilV, .bool false, nilV, nilV, nilV] 27) = W0 at hM0 hbw hqr hpl ⊢
  generalize w1.heap.size = pb at hM0 hpb hpl ⊢
  clear w1
  go_loopw [6, 18] (fun ov i wr => ∃ (k : Nat) (F : Nat → Prop) (sv gv : Value) (gs : List Value) (fl : List (List Int)) (xs : List Value), k ≤ l.length ∧ i = .int .i64 k ∧ Hid (OfM pb pb F (nS (stK l k)) wr sv gv ov (setsS (stK l k)) gs fl (stK l k) xs) ∧ Hid (FolOK (FolS (stK l k)) (nS (stK l k)) fl) ∧ Hid (F w.heap.size) ∧ Below pb W0 wr) (fun _ i _ => l.length - (intOf i).toNat)
  case atStart => exact ⟨0, _, _, _, _, _, _, Nat.zero_le _, rfl, hM0, hid folOK_start, hid (Or.inr rfl), (Below.refl _ _).mono (Nat.le_of_lt hpl.out)⟩
  case round =>
    obtain ⟨k, F, sv, gv, gs, fl, xs, hk, rfl, hM, hFol, hX, hbl⟩ := hrel
    have hnk := hns.out k hk
    have hblw := hid (hbw.out.trans (hbl.mono (Nat.le_of_lt hpb)))
    have hpw : Hid (pb ≤ wr.heap.size) := hid hM.out.lk.base
    by_cases hlt : k < l.length
    · have hltz : (k : Int) < (l.length : Int) := by omega
      obtain ⟨b', o', rfl, hb', hat0⟩ := hAt.out k hlt
      have hat := hat0.keep hblw.out
      clear hat0
      have hw := hwan.out k hlt
      have hsu := hid (hsuc.out k hlt)
      have hfc := hid (hFl.out _ (List.getElem_mem hlt))
      generalize stK l k = st at hM hFol hnk hw hsu
      generalize l[k] = c at hat hw hsu hfc
      obtain ⟨op, S⟩ := c
      obtain ⟨sa, sb, sc, sd⟩ := S
      obtain ⟨d0, d1, d2, d3, d4⟩ := hat
      simp only at d0 d1 d2 d3 d4 hw
      have hc0 := heap_new wr (.cells #[.int .i64 op, .int .u64 (sa : Int), .int .u64 (sb : Int), .int .u64 (sc : Int), .int .u64 (sd : Int)] 46)
      obtain ⟨q0, q1, q2, q3, q4⟩ := cells5 hc0
      have hcb := hid hc0
      clear hc0
      rcases wants_cases op hw.1 with ⟨rfl, hwo⟩ | ⟨rfl, hwo⟩ | ⟨rfl, hwo⟩ | ⟨rfl, hwo⟩ | ⟨rfl, hwo⟩ | ⟨rfl, hwo⟩ | ⟨rfl, hwo⟩
      · have hst : Hid (stK l (k + 1) = .set ⟨sa, sb, sc, sd⟩ :: st) := hid (by rw [hsu.out]; simp [stepS])
        obtain ⟨oa, oc, hov⟩ := own_shape hM.out.own
        subst hov
        obtain ⟨sva, svc, rfl⟩ := own_shape hM.out.sets
        have hgv := own_shape hM.out.lk.own
        obtain ⟨gva, gvc, rfl⟩ := hgv
        have hgl : gs.length ≤ 60 := by rw [hM.out.lk.len]; omega
        have hsl := hid (setsS_len st)
        have hs60 : (setsS st).length ≤ 60 := by rw [hsl.out]; omega
        have M1 := hid (hM.out.keep (al' wr (.cells #[.int .i64 1, .int .u64 (sa : Int), .int .u64 (sb : Int), .int .u64 (sc : Int), .int .u64 (sd : Int)] 46)))
        obtain ⟨p0, p1, p2, p3, p4, -⟩ := cells5s M1.out.blk
        have hFl1 : Hid (∀ k, F k → k < (wr.alloc (.cells #[.int .i64 1, .int .u64 (sa : Int), .int .u64 (sb : Int), .int .u64 (sc : Int), .int .u64 (sd : Int)] 46)).heap.size) := hid (fun k e => M1.out.lk.lt k e)
        have hB1 := hid (bstep hbl (al' wr (.cells #[.int .i64 1, .int .u64 (sa : Int), .int .u64 (sb : Int), .int .u64 (sc : Int), .int .u64 (sd : Int)] 46)) hpw.out)
        have GS := hid (fun u => spotP ((setsS st).length : Int) u)
        have hst60 : st.length ≤ 60 := by omega
        have hcl : wr.heap.size < (wr.alloc (.cells #[.int .i64 1, .int .u64 (sa : Int), .int .u64 (sb : Int), .int .u64 (sc : Int), .int .u64 (sd : Int)] 46)).heap.size := by simp
        have hcn : Hid (∀ k, F k → k ≠ wr.heap.size) := hid (fun k e => by have := hM.out.lk.lt k e; omega)
        have hnn : nS st + 1 ≤ 60 := by omega
        go_wp2_with (first
          | (at_builtin; refine wpList_append_lies _ (by rfl) _ _ _ (by rfl) pb 24 iN (.slice none 0 0) 1 24 Try.underlying25 hiN zN0 zN1 zN2 rfl (by decide) (.slice gva gs.length gvc) gs.length gs (by rfl) M6.out.lk.own ⟨w3.heap.size, 0, none⟩ 1 1 [.slice none 0 0] (by rfl) (by rfl) (World.news_of_block (heap_new_set w3 _ _ (.cells #[.slice none 0 0] 24))) (by simp [Value.oneCell']) (by omega) (by (unfold maxLen); omega) (by omega) (M6.out.lk.base) (World.heap ((w3.setCell ⟨pb, 0, none⟩ (.slice (some ⟨g3, 0, none⟩) ((setsS st).length + 1) cap3)).alloc (.cells #[.slice none 0 0] 24))).size rfl ?_; intro g4 cap4 w4 hown4 hgrow4 hat4 hlt4; have M7 := hid (M6.out.addFol hnn hown4 hgrow4 hat4); have hb4 := grown_blk hgrow4 M6.out.blk (fun e => (M6.out.lk.row _ e).2 rfl); obtain ⟨y0, y1, y2, y3, y4, v0, v1, v2, v3, v4⟩ := cells5s hb4; have hB7 := hid (bl_set (bgrow hB6.out hgrow4 M6.out.lk.base (fun k e => (M6.out.lk.own.lt k e).1)) pb 4 (.slice (some ⟨g4, 0, none⟩) (gs.length + 1) cap4) (Nat.le_refl _)); clear hb4 x0 x1 x2 x3 x4 hgrow4 hown4)
          | (at_builtin; refine wpList_append_lies _ (by rfl) _ _ _ (by rfl) pb 40 iS (.agg #[.int .u64 0, .int .u64 0, .int .u64 0, .int .u64 0]) 4 32 Try.underlying23 hiS zS0 zS1 zS2 rfl (by decide) (.slice sva (setsS st).length svc) (setsS st).length (flatS (setsS st)) (by rfl) M4.out.sets ⟨w2.heap.size, 0, none⟩ 1 1 [.int .u64 (sa : Int), .int .u64 (sb : Int), .int .u64 (sc : Int), .int .u64 (sd : Int)] (by rfl) (by rfl) (World.news_of_block (heap_new w2 (.cells #[.int .u64 (sa : Int), .int .u64 (sb : Int), .int .u64 (sc : Int), .int .u64 (sd : Int)] 40))) (by simp [Value.oneCell']) (by omega) (by (unfold maxLen); omega) (by omega) (M4.out.lk.base) (World.heap (w2.alloc (.cells #[.int .u64 (sa : Int), .int .u64 (sb : Int), .int .u64 (sc : Int), .int .u64 (sd : Int)] 40))).size rfl ?_; intro g3 cap3 w3 hown3 hgrow3 hat3 hlt3; have M5 := hid (M4.out.addSet (T := ⟨sa, sb, sc, sd⟩) hown3 hgrow3 hat3); have hb3 := grown_blk hgrow3 M4.out.blk (fun e => (M4.out.sF _ e).2.1 rfl); obtain ⟨s0, s1, s2, s3, s4, t0, t1, t2, t3, t4⟩ := cells5s hb3; have hB5 := hid (bl_set (bgrow hB4.out hgrow3 M4.out.lk.base (fun k e => (M4.out.sets.lt k e).1)) pb 0 (.slice (some ⟨g3, 0, none⟩) ((setsS st).length + 1) cap3) (Nat.le_refl _)); obtain ⟨x0, x1, x2, x3, x4, -⟩ := cells5s M5.out.blk; have M6 := hid (M5.out.keep (al' (w3.setCell ⟨pb, 0, none⟩ (.slice (some ⟨g3, 0, none⟩) ((setsS st).length + 1) cap3)) (.cells #[.slice none 0 0] 24))); have hB6 := hid (bstep hB5.out (al' (w3.setCell ⟨pb, 0, none⟩ (.slice (some ⟨g3, 0, none⟩) ((setsS st).length + 1) cap3)) (.cells #[.slice none 0 0] 24)) M5.out.lk.base); clear hb3 r0 r1 r2 r3 r4 Q0 Q1 Q2 Q3 Q4 hgrow3 hown3)
          | (at_builtin; refine wpList_append_lies _ (by rfl) _ _ _ (by rfl) pb 48 iP (.agg #[.bool false, .slice none 0 0, .slice none 0 0]) 3 56 Try.underlying44 hiP zP0 zP1 zP2 rfl (by decide) (.slice oa st.length oc) st.length xs (by rfl) M2.out.own ⟨w1.heap.size, 0, none⟩ 1 1 [.bool false, .slice xa 1 xc, .slice ya 1 yc] (by rfl) (by rfl) (World.news_of_block (heap_new w1 (.cells #[.bool false, .slice xa 1 xc, .slice ya 1 yc] 48))) (by simp [Value.oneCell']) (by omega) (by (unfold maxLen); omega) (by omega) (M2.out.lk.base) (World.heap (w1.alloc (.cells #[.bool false, .slice xa 1 xc, .slice ya 1 yc] 48))).size rfl ?_; intro g2 cap2 w2 hown2 hgrow2 hat2 hlt2; have M3 := hid (M2.out.push (t := .set ⟨sa, sb, sc, sd⟩) hp2.out hown2 hgrow2 hat2); have hB3 := hid (bgrow hB2.out hgrow2 M2.out.lk.base (fun k e => (M2.out.own.lt k e).1)); have hc3 := hid (grown_blk hgrow2 hc2.out (fun e => hcn.out _ (M2.out.oF _ e).1 rfl)); obtain ⟨Q0, Q1, Q2, Q3, Q4⟩ := cells5 hc3.out; obtain ⟨r0, r1, r2, r3, r4, -⟩ := cells5s M3.out.blk; have M4 := hid (M3.out.keep (al' w2 (.cells #[.int .u64 (sa : Int), .int .u64 (sb : Int), .int .u64 (sc : Int), .int .u64 (sd : Int)] 40))); have hB4 := hid (bstep hB3.out (al' w2 (.cells #[.int .u64 (sa : Int), .int .u64 (sb : Int), .int .u64 (sc : Int), .int .u64 (sd : Int)] 40)) M3.out.lk.base); clear q0 q1 q2 q3 q4 p0 p1 p2 p3 p4 hgrow2 hown2)
          | (go_at_call 19; refine (GS.out _).mono ?_; rintro e w1 ⟨fv, lv, rfl, hO1, hO2, hb1⟩; obtain ⟨xa, xc, e1, hx⟩ := id (Nums.of_row hO1); obtain ⟨ya, yc, e2, hy⟩ := id (Nums.of_row hO2); clear hx hy; have e1' : fv = .slice xa 1 xc := e1; have e2' : lv = .slice ya 1 yc := e2; clear e1 e2; subst e1'; subst e2'; have M2 := hid ((M1.out.keep hb1).keep (al' w1 (.cells #[.bool false, .slice xa 1 xc, .slice ya 1 yc] 48))); have hp2 : Hid (PtV F (w1.alloc (.cells #[.bool false, .slice xa 1 xc, .slice ya 1 yc] 48)) (.slice xa 1 xc) (.slice ya 1 yc) (firstL (.set ⟨sa, sb, sc, sd⟩) (nS st)) (lastL (.set ⟨sa, sb, sc, sd⟩) (nS st))) := hid (by (rw [hsl.out] at hO1 hO2; exact PtV.keep ⟨Nums.of_row hO1, Off.new hO1 hFl1.out, Nums.of_row hO2, Off.new hO2 hFl1.out⟩ (al' w1 (.cells #[.bool false, .slice xa 1 xc, .slice ya 1 yc] 48)))); have hB2 := hid (bstep hB1.out (bl_step hb1 (al' w1 (.cells #[.bool false, .slice xa 1 xc, .slice ya 1 yc] 48))) M1.out.lk.base); have hc2 := hid (hs_keep (hs_keep hcb.out hb1) (al' w1 (.cells #[.bool false, .slice xa 1 xc, .slice ya 1 yc] 48)))))
        go_roundw
        case rel => exact ⟨k + 1, _, _, _, _, _, _, by omega, by go_num, hid (by rw [hst.out]; exact M7.out), hid (by rw [hst.out]; exact (hFol.out.more (fun j k h => (folS_in st j k h).1)).congr (fun j k _ => (folS_set _ st j k).symm)), hid (Or.inl (Or.inl (Or.inl hX.out))), hB7.out⟩
        case measure => simp [intOf]; omega
      · have hst : Hid (stK l (k + 1) = .eps :: st) := hid (by rw [hsu.out]; simp [stepS])
        obtain ⟨oa, oc, hov⟩ := own_shape hM.out.own
        subst hov
        have hst60 : st.length ≤ 60 := by omega
        have M1 := hid ((hM.out.keep (al' wr (.cells #[.int .i64 2, .int .u64 (sa : Int), .int .u64 (sb : Int), .int .u64 (sc : Int), .int .u64 (sd : Int)] 46))).keep (al' (wr.alloc (.cells #[.int .i64 2, .int .u64 (sa : Int), .int .u64 (sb : Int), .int .u64 (sc : Int), .int .u64 (sd : Int)] 46)) (.cells #[.bool true, .slice none 0 0, .slice none 0 0] 48)))
        have hB1 := hid (bstep hbl (bl_step (al' wr (.cells #[.int .i64 2, .int .u64 (sa : Int), .int .u64 (sb : Int), .int .u64 (sc : Int), .int .u64 (sd : Int)] 46)) (al' (wr.alloc (.cells #[.int .i64 2, .int .u64 (sa : Int), .int .u64 (sb : Int), .int .u64 (sc : Int), .int .u64 (sd : Int)] 46)) (.cells #[.bool true, .slice none 0 0, .slice none 0 0] 48))) hpw.out)
        have hN1 := hid (two_blocks wr (.cells #[.int .i64 2, .int .u64 (sa : Int), .int .u64 (sb : Int), .int .u64 (sc : Int), .int .u64 (sd : Int)] 46) (.cells #[.bool true, .slice none 0 0, .slice none 0 0] 48)).2
        go_wp2_with (at_builtin; refine wpList_append_lies _ (by rfl) _ _ _ (by rfl) pb 48 iP (.agg #[.bool false, .slice none 0 0, .slice none 0 0]) 3 56 Try.underlying44 hiP zP0 zP1 zP2 rfl (by decide) (.slice oa st.length oc) st.length xs (by rfl) M1.out.own ⟨wr.heap.size + 1, 0, none⟩ 1 1 [.bool true, .slice none 0 0, .slice none 0 0] (by rfl) (by rfl) (World.news_of_block hN1.out) (by simp [Value.oneCell']) (by omega) (by (unfold maxLen); omega) (by omega) (M1.out.lk.base) (World.heap ((wr.alloc (.cells #[.int .i64 2, .int .u64 (sa : Int), .int .u64 (sb : Int), .int .u64 (sc : Int), .int .u64 (sd : Int)] 46)).alloc (.cells #[.bool true, .slice none 0 0, .slice none 0 0] 48))).size rfl ?_; intro g2 cap2 w2 hown2 hgrow2 hat2 hlt2; have M2 := hid (M1.out.push (t := .eps) ⟨Nums.nil _, Off.nil _, Nums.nil _, Off.nil _⟩ hown2 hgrow2 hat2); have hB2 := hid (bgrow hB1.out hgrow2 M1.out.lk.base (fun k e => (M1.out.own.lt k e).1)); clear hgrow2 hown2)
        go_roundw
        case rel => exact ⟨k + 1, _, _, _, _, _, _, by omega, by go_num, hid (by rw [hst.out, setsS_eps]; exact M2.out), hid (by rw [hst.out]; exact hFol.out.congr (fun j k _ => (folS_eps st j k).symm)), hid (Or.inl hX.out), hB2.out⟩
        case measure => simp [intOf]; omega
      · obtain ⟨b, a, r, rfl⟩ := two_top (by rw [hwo] at hw; exact hw.2)
        have hst : Hid (stK l (k + 1) = (.cat a b) :: r) := hid (by rw [hsu.out]; simp [stepS])
        obtain ⟨ys, fb, lb, hxs, ⟨zs, fa, la, hys, hpr, hpa⟩, hpb'⟩ := hM.out.pts
        subst hys
        subst hxs
        have hzl := hpr.len
        obtain ⟨g, cap, hov, hcap⟩ := own_form3 hM.out.own (by simp)
        subst hov
        have hr60 : r.length + 2 ≤ 60 := by have := hnk.2; simp at this; omega
        have hM : Hid (OfM pb pb F (nS (b :: a :: r)) wr sv gv (.slice (some ⟨g, 0, none⟩) (r.length + 2) cap) (setsS (b :: a :: r)) gs fl (b :: a :: r) (zs ++ [.bool a.null, fa, la] ++ [.bool b.null, fb, lb])) := hM
        have hcap2 : r.length + 2 ≤ cap := by simpa using hcap
        have hnn : nS (b :: a :: r) ≤ 60 := by have := hnk.1; omega
        have hnab : nS r + nSets a + nSets b = nS (b :: a :: r) := rfl
        have M1 := hid ((hM.out.keep (al' wr (.cells #[.int .i64 3, .int .u64 (sa : Int), .int .u64 (sb : Int), .int .u64 (sc : Int), .int .u64 (sd : Int)] 46))).keep ((Below.refl _ _).drew : Below _ (wr.alloc (.cells #[.int .i64 3, .int .u64 (sa : Int), .int .u64 (sb : Int), .int .u64 (sc : Int), .int .u64 (sd : Int)] 46)) (wr.alloc (.cells #[.int .i64 3, .int .u64 (sa : Int), .int .u64 (sb : Int), .int .u64 (sc : Int), .int .u64 (sd : Int)] 46)).drew))
        have hB1 := hid (bstep hbl (bl_step (al' wr (.cells #[.int .i64 3, .int .u64 (sa : Int), .int .u64 (sb : Int), .int .u64 (sc : Int), .int .u64 (sd : Int)] 46)) ((Below.refl _ _).drew : Below _ (wr.alloc (.cells #[.int .i64 3, .int .u64 (sa : Int), .int .u64 (sb : Int), .int .u64 (sc : Int), .int .u64 (sd : Int)] 46)) (wr.alloc (.cells #[.int .i64 3, .int .u64 (sa : Int), .int .u64 (sb : Int), .int .u64 (sc : Int), .int .u64 (sd : Int)] 46)).drew)) hpw.out)
        have hk1 : Hid (Below wr.heap.size wr (wr.alloc (.cells #[.int .i64 3, .int .u64 (sa : Int), .int .u64 (sb : Int), .int .u64 (sc : Int), .int .u64 (sd : Int)] 46)).drew) := hid (bl_step (al' wr (.cells #[.int .i64 3, .int .u64 (sa : Int), .int .u64 (sb : Int), .int .u64 (sc : Int), .int .u64 (sd : Int)] 46)) ((Below.refl _ _).drew : Below _ (wr.alloc (.cells #[.int .i64 3, .int .u64 (sa : Int), .int .u64 (sb : Int), .int .u64 (sc : Int), .int .u64 (sd : Int)] 46)) (wr.alloc (.cells #[.int .i64 3, .int .u64 (sa : Int), .int .u64 (sb : Int), .int .u64 (sc : Int), .int .u64 (sd : Int)] 46)).drew))
        have pA := hid (hpa.keep hk1.out)
        have pB := hid (hpb'.keep hk1.out)
        have hprk := hid (hpr.kept (Kept.of_below (F := F) hk1.out))
        obtain ⟨fa1, fa2, rfl⟩ : ∃ x y, fa = .slice x (firstL a (nS r)).length y := by obtain ⟨x, y, e, _⟩ := hpa.first; exact ⟨x, y, e⟩
        obtain ⟨la1, la2, rfl⟩ : ∃ x y, la = .slice x (lastL a (nS r)).length y := by obtain ⟨x, y, e, _⟩ := hpa.last; exact ⟨x, y, e⟩
        obtain ⟨fb1, fb2, rfl⟩ : ∃ x y, fb = .slice x (firstL b (nS (a :: r))).length y := by obtain ⟨x, y, e, _⟩ := hpb'.first; exact ⟨x, y, e⟩
        obtain ⟨lb1, lb2, rfl⟩ : ∃ x y, lb = .slice x (lastL b (nS (a :: r))).length y := by obtain ⟨x, y, e, _⟩ := hpb'.last; exact ⟨x, y, e⟩
        have l1 : (lastL a (nS r)).length ≤ 60 := Nat.le_trans (lastL_len a _) (by omega)
        have l2 : (firstL b (nS (a :: r))).length ≤ 60 := Nat.le_trans (firstL_len b _) (by omega)
        have l3 : (firstL a (nS r)).length ≤ 60 := Nat.le_trans (firstL_len a _) (by omega)
        have l4 : (lastL b (nS (a :: r))).length ≤ 60 := Nat.le_trans (lastL_len b _) (by omega)
        have hla : InN (lastL a (nS r)) (nS (b :: a :: r)) := lastL_in a _ _ (by omega)
        have hfb : InN (firstL b (nS (a :: r))) (nS (b :: a :: r)) := firstL_in b _ _ (Nat.le_of_eq rfl)
        have GJ := hid (joinedCat F pb pb (nS (b :: a :: r)) gv _ _ _ _ a.null b.null _ _ _ _ gs fl _ M1.out.lk pA.out pB.out hla l1 hfb l2 l3 l4)
        have hFol2 : Hid (FolOK (FolS ((.cat a b) :: r)) (nS (b :: a :: r)) (linkL fl (firstL b (nS (a :: r))) (lastL a (nS r)))) := hid ((hFol.out.link (lastL_mem a (nS r)) (fun k hk => by have := lst_in a _ k hk; omega) (firstL_mem b (nS (a :: r)))).congr fun j k _ => (folS_cat a b r j k).symm)
        obtain ⟨rf, hrf⟩ : ∃ rf, Hid (rf = firstL (.cat a b) (nS r)) := ⟨_, hid rfl⟩
        obtain ⟨rl, hrl⟩ : ∃ rl, Hid (rl = lastL (.cat a b) (nS r)) := ⟨_, hid rfl⟩
        obtain ⟨rn, hrn⟩ : ∃ rn : Bool, Hid (rn = Rx.null (.cat a b)) := ⟨_, hid rfl⟩
        rw [show (if a.null = true then unionL (firstL a (nS r)) (firstL b (nS (a :: r))) else firstL a (nS r)) = rf from hrf.out.symm, show (if b.null = true then unionL (lastL a (nS r)) (lastL b (nS (a :: r))) else lastL b (nS (a :: r))) = rl from (lastL_cat a b (nS r)).symm.trans hrl.out.symm, show (a.null && b.null) = rn from (Bool.and_comm _ _).trans hrn.out.symm] at GJ
        have hcells : Hid (∀ (u : World) (v : Value) (j : Nat), u.ownsRow pb 48 3 (.slice (some ⟨g, 0, none⟩) (r.length + 2) cap) (r.length + 2) (zs ++ [.bool a.null, .slice fa1 (firstL a (nS r)).length fa2, .slice la1 (lastL a (nS r)).length la2] ++ [.bool b.null, .slice fb1 (firstL b (nS (a :: r))).length fb2, .slice lb1 (lastL b (nS (a :: r))).length lb2]) → j < 6 → ([.bool a.null, .slice fa1 (firstL a (nS r)).length fa2, .slice la1 (lastL a (nS r)).length la2, .bool b.null, .slice fb1 (firstL b (nS (a :: r))).length fb2, .slice lb1 (lastL b (nS (a :: r))).length lb2] : List Value)[j]? = some v → u.cell? ⟨g, r.length * 3 + j, none⟩ = some v) := hid (fun u v j h hj hv => by
          rw [h.cellAt _ (by omega), List.append_assoc, List.getElem?_append_right (by omega), hzl, Nat.add_sub_cancel_left]
          exact hv)
        have k0 : (wr.alloc (.cells #[.int .i64 3, .int .u64 (sa : Int), .int .u64 (sb : Int), .int .u64 (sc : Int), .int .u64 (sd : Int)] 46)).drew.cell? ⟨g, r.length * 3, none⟩ = some (.bool a.null) := hcells.out _ _ 0 M1.out.own (by omega) rfl
        have k1 : (wr.alloc (.cells #[.int .i64 3, .int .u64 (sa : Int), .int .u64 (sb : Int), .int .u64 (sc : Int), .int .u64 (sd : Int)] 46)).drew.cell? ⟨g, r.length * 3 + 1, none⟩ = some (.slice fa1 (firstL a (nS r)).length fa2) := hcells.out _ _ 1 M1.out.own (by omega) rfl
        have k2 : (wr.alloc (.cells #[.int .i64 3, .int .u64 (sa : Int), .int .u64 (sb : Int), .int .u64 (sc : Int), .int .u64 (sd : Int)] 46)).drew.cell? ⟨g, r.length * 3 + 2, none⟩ = some (.slice la1 (lastL a (nS r)).length la2) := hcells.out _ _ 2 M1.out.own (by omega) rfl
        have k3 : (wr.alloc (.cells #[.int .i64 3, .int .u64 (sa : Int), .int .u64 (sb : Int), .int .u64 (sc : Int), .int .u64 (sd : Int)] 46)).drew.cell? ⟨g, (r.length + 1) * 3, none⟩ = some (.bool b.null) := by rw [show (r.length + 1) * 3 = r.length * 3 + 3 by omega]; exact hcells.out _ _ 3 M1.out.own (by omega) rfl
        have k4 : (wr.alloc (.cells #[.int .i64 3, .int .u64 (sa : Int), .int .u64 (sb : Int), .int .u64 (sc : Int), .int .u64 (sd : Int)] 46)).drew.cell? ⟨g, (r.length + 1) * 3 + 1, none⟩ = some (.slice fb1 (firstL b (nS (a :: r))).length fb2) := by rw [show (r.length + 1) * 3 + 1 = r.length * 3 + 4 by omega]; exact hcells.out _ _ 4 M1.out.own (by omega) rfl
        have k5 : (wr.alloc (.cells #[.int .i64 3, .int .u64 (sa : Int), .int .u64 (sb : Int), .int .u64 (sc : Int), .int .u64 (sd : Int)] 46)).drew.cell? ⟨g, (r.length + 1) * 3 + 2, none⟩ = some (.slice lb1 (lastL b (nS (a :: r))).length lb2) := by rw [show (r.length + 1) * 3 + 2 = r.length * 3 + 5 by omega]; exact hcells.out _ _ 5 M1.out.own (by omega) rfl
        have he2 : (r.length : Int) + 1 + 1 - 2 = (r.length : Int) := by omega
        have hcz : (r.length : Int) ≤ (cap : Int) := by omega
        have s2 := cutP_hi g (r.length + 2) cap r.length (by omega)
        have hwr : IntKind.i64.wrap ((r.length : Int) + 1) = (r.length : Int) + 1 := by rw [IntKind.wrap_i64]; omega
        have hi1 : (r.length : Int) < (r.length : Int) + 1 + 1 := by omega
        have hi2 : (r.length : Int) + 1 < (r.length : Int) + 1 + 1 := by omega
        have hi3 : (0 : Int) ≤ (r.length : Int) + 1 := by omega
        clear hpa hpb' hpr
        go_wp2_with fail
        go_region_law ((first
          | (refine step_append_lies _ (by rfl) (.tmp 73) (.tmp 87) 44 (by rfl) pb 48 iP (.agg #[.bool false, .slice none 0 0, .slice none 0 0]) 3 56 Try.underlying44 hiP zP0 zP1 zP2 rfl (by decide) (.slice (some ⟨g, 0, none⟩) r.length cap) r.length zs (by rfl) M4.out.own ⟨w1.heap.size, 0, none⟩ 1 1 [.bool rn, .slice xa rf.length xc, .slice ya rl.length yc] (by rfl) (by rfl) (World.news_of_block (heap_new w1 (.cells #[.bool rn, .slice xa rf.length xc, .slice ya rl.length yc] 48))) (by simp [Value.oneCell']) (by omega) (by (unfold maxLen); omega) (by omega) M4.out.lk.base (World.heap (w1.alloc (.cells #[.bool rn, .slice xa rf.length xc, .slice ya rl.length yc] 48))).size rfl ?_; intro g2 cap2 w2 hown2 hgrow2 hat2 hlt2; have M5 := hid (M4.out.push' (t := (.cat a b)) hrn.out hrf.out hrl.out hpv4.out hown2 hgrow2 hat2); have hB5 := hid (bgrow hB4.out hgrow2 M4.out.lk.base (fun k e => (M4.out.own.lt k e).1)); clear hgrow2 hown2)
          | (refine step_call (by rfl) 20 #[.int .i64 3, .agg #[.bool a.null, .slice fa1 (firstL a (nS r)).length fa2, .slice la1 (lastL a (nS r)).length la2], .agg #[.bool b.null, .slice fb1 (firstL b (nS (a :: r))).length fb2, .slice lb1 (lastL b (nS (a :: r))).length lb2], (.func (.func 17) #[] #[.pointer (some ⟨pb, 0, none⟩)])] (by (go_simp; done)) GJ.out ?_; rintro e w1 ⟨fv, lv, rfl, hpv, ⟨gs1, hS1⟩, K1⟩; have M2 := hid (M1.out.linked K1 hS1); have hpr2 := hid (hprk.out.kept (K1.mono fun k _ e => (M1.out.lk.row k e).1)); have hB3 := hid (hB1.out.trans (K1.below (fun k e => (M1.out.lk.own.lt k e).1) M1.out.lk.base)); obtain ⟨xa, xc, rfl, hx1⟩ := id hpv.first; obtain ⟨ya, yc, rfl, hx2⟩ := id hpv.last; clear hx1 hx2; have M3 := hid (M2.out.cut (r := r) (ys := zs) rfl (by simp; omega) (by rw [← hzl, List.append_assoc]; exact List.take_left) hpr2.out); have M4 := hid (M3.out.keep (al' w1 (.cells #[.bool rn, .slice xa rf.length xc, .slice ya rl.length yc] 48))); have hpv4 := hid (hpv.keep (al' w1 (.cells #[.bool rn, .slice xa rf.length xc, .slice ya rl.length yc] 48))); have hB4 := hid (bstep hB3.out (al' w1 (.cells #[.bool rn, .slice xa rf.length xc, .slice ya rl.length yc] 48)) M2.out.lk.base); refine ⟨_, rfl, ?_⟩)
          | fail))
        all_goals
          go_wp2
          go_roundw
          case rel => exact ⟨k + 1, _, _, _, _, _, _, by omega, by go_num, hid (by rw [hst.out, nS_cat, setsS_cat]; exact M5.out), hid (by rw [hst.out, nS_cat]; exact hFol2.out), hid (Or.inl hX.out), hB5.out⟩
          case measure => simp [intOf]; omega
      · obtain ⟨b, a, r, rfl⟩ := two_top (by rw [hwo] at hw; exact hw.2)
        have hst : Hid (stK l (k + 1) = (.or a b) :: r) := hid (by rw [hsu.out]; simp [stepS])
        obtain ⟨ys, fb, lb, hxs, ⟨zs, fa, la, hys, hpr, hpa⟩, hpb'⟩ := hM.out.pts
        subst hys
        subst hxs
        have hzl := hpr.len
        obtain ⟨g, cap, hov, hcap⟩ := own_form3 hM.out.own (by simp)
        subst hov
        have hr60 : r.length + 2 ≤ 60 := by have := hnk.2; simp at this; omega
        have hM : Hid (OfM pb pb F (nS (b :: a :: r)) wr sv gv (.slice (some ⟨g, 0, none⟩) (r.length + 2) cap) (setsS (b :: a :: r)) gs fl (b :: a :: r) (zs ++ [.bool a.null, fa, la] ++ [.bool b.null, fb, lb])) := hM
        have hcap2 : r.length + 2 ≤ cap := by simpa using hcap
        have hnn : nS (b :: a :: r) ≤ 60 := by have := hnk.1; omega
        have hnab : nS r + nSets a + nSets b = nS (b :: a :: r) := rfl
        have M1 := hid ((hM.out.keep (al' wr (.cells #[.int .i64 4, .int .u64 (sa : Int), .int .u64 (sb : Int), .int .u64 (sc : Int), .int .u64 (sd : Int)] 46))).keep ((Below.refl _ _).drew : Below _ (wr.alloc (.cells #[.int .i64 4, .int .u64 (sa : Int), .int .u64 (sb : Int), .int .u64 (sc : Int), .int .u64 (sd : Int)] 46)) (wr.alloc (.cells #[.int .i64 4, .int .u64 (sa : Int), .int .u64 (sb : Int), .int .u64 (sc : Int), .int .u64 (sd : Int)] 46)).drew))
        have hB1 := hid (bstep hbl (bl_step (al' wr (.cells #[.int .i64 4, .int .u64 (sa : Int), .int .u64 (sb : Int), .int .u64 (sc : Int), .int .u64 (sd : Int)] 46)) ((Below.refl _ _).drew : Below _ (wr.alloc (.cells #[.int .i64 4, .int .u64 (sa : Int), .int .u64 (sb : Int), .int .u64 (sc : Int), .int .u64 (sd : Int)] 46)) (wr.alloc (.cells #[.int .i64 4, .int .u64 (sa : Int), .int .u64 (sb : Int), .int .u64 (sc : Int), .int .u64 (sd : Int)] 46)).drew)) hpw.out)
        have hk1 : Hid (Below wr.heap.size wr (wr.alloc (.cells #[.int .i64 4, .int .u64 (sa : Int), .int .u64 (sb : Int), .int .u64 (sc : Int), .int .u64 (sd : Int)] 46)).drew) := hid (bl_step (al' wr (.cells #[.int .i64 4, .int .u64 (sa : Int), .int .u64 (sb : Int), .int .u64 (sc : Int), .int .u64 (sd : Int)] 46)) ((Below.refl _ _).drew : Below _ (wr.alloc (.cells #[.int .i64 4, .int .u64 (sa : Int), .int .u64 (sb : Int), .int .u64 (sc : Int), .int .u64 (sd : Int)] 46)) (wr.alloc (.cells #[.int .i64 4, .int .u64 (sa : Int), .int .u64 (sb : Int), .int .u64 (sc : Int), .int .u64 (sd : Int)] 46)).drew))
        have pA := hid (hpa.keep hk1.out)
        have pB := hid (hpb'.keep hk1.out)
        have hprk := hid (hpr.kept (Kept.of_below (F := F) hk1.out))
        obtain ⟨fa1, fa2, rfl⟩ : ∃ x y, fa = .slice x (firstL a (nS r)).length y := by obtain ⟨x, y, e, _⟩ := hpa.first; exact ⟨x, y, e⟩
        obtain ⟨la1, la2, rfl⟩ : ∃ x y, la = .slice x (lastL a (nS r)).length y := by obtain ⟨x, y, e, _⟩ := hpa.last; exact ⟨x, y, e⟩
        obtain ⟨fb1, fb2, rfl⟩ : ∃ x y, fb = .slice x (firstL b (nS (a :: r))).length y := by obtain ⟨x, y, e, _⟩ := hpb'.first; exact ⟨x, y, e⟩
        obtain ⟨lb1, lb2, rfl⟩ : ∃ x y, lb = .slice x (lastL b (nS (a :: r))).length y := by obtain ⟨x, y, e, _⟩ := hpb'.last; exact ⟨x, y, e⟩
        have l1 : (lastL a (nS r)).length ≤ 60 := Nat.le_trans (lastL_len a _) (by omega)
        have l2 : (firstL b (nS (a :: r))).length ≤ 60 := Nat.le_trans (firstL_len b _) (by omega)
        have l3 : (firstL a (nS r)).length ≤ 60 := Nat.le_trans (firstL_len a _) (by omega)
        have l4 : (lastL b (nS (a :: r))).length ≤ 60 := Nat.le_trans (lastL_len b _) (by omega)
        have GJ := hid (joinedOr F _ _ _ _ (.func (.func 17) #[] #[.pointer (some ⟨pb, 0, none⟩)]) a.null b.null _ _ _ _ _ M1.out.lk.lt pA.out pB.out l1 l2 l3 l4)
        have hFol2 : Hid (FolOK (FolS ((.or a b) :: r)) (nS (b :: a :: r)) fl) := hid (hFol.out.congr fun j k _ => (folS_or a b r j k).symm)
        obtain ⟨rf, hrf⟩ : ∃ rf, Hid (rf = firstL (.or a b) (nS r)) := ⟨_, hid rfl⟩
        obtain ⟨rl, hrl⟩ : ∃ rl, Hid (rl = lastL (.or a b) (nS r)) := ⟨_, hid rfl⟩
        obtain ⟨rn, hrn⟩ : ∃ rn : Bool, Hid (rn = Rx.null (.or a b)) := ⟨_, hid rfl⟩
        rw [show unionL (firstL a (nS r)) (firstL b (nS (a :: r))) = rf from hrf.out.symm, show unionL (lastL a (nS r)) (lastL b (nS (a :: r))) = rl from hrl.out.symm, show (a.null || b.null) = rn from (Bool.or_comm _ _).trans hrn.out.symm] at GJ
        have hcells : Hid (∀ (u : World) (v : Value) (j : Nat), u.ownsRow pb 48 3 (.slice (some ⟨g, 0, none⟩) (r.length + 2) cap) (r.length + 2) (zs ++ [.bool a.null, .slice fa1 (firstL a (nS r)).length fa2, .slice la1 (lastL a (nS r)).length la2] ++ [.bool b.null, .slice fb1 (firstL b (nS (a :: r))).length fb2, .slice lb1 (lastL b (nS (a :: r))).length lb2]) → j < 6 → ([.bool a.null, .slice fa1 (firstL a (nS r)).length fa2, .slice la1 (lastL a (nS r)).length la2, .bool b.null, .slice fb1 (firstL b (nS (a :: r))).length fb2, .slice lb1 (lastL b (nS (a :: r))).length lb2] : List Value)[j]? = some v → u.cell? ⟨g, r.length * 3 + j, none⟩ = some v) := hid (fun u v j h hj hv => by
          rw [h.cellAt _ (by omega), List.append_assoc, List.getElem?_append_right (by omega), hzl, Nat.add_sub_cancel_left]
          exact hv)
        have k0 : (wr.alloc (.cells #[.int .i64 4, .int .u64 (sa : Int), .int .u64 (sb : Int), .int .u64 (sc : Int), .int .u64 (sd : Int)] 46)).drew.cell? ⟨g, r.length * 3, none⟩ = some (.bool a.null) := hcells.out _ _ 0 M1.out.own (by omega) rfl
        have k1 : (wr.alloc (.cells #[.int .i64 4, .int .u64 (sa : Int), .int .u64 (sb : Int), .int .u64 (sc : Int), .int .u64 (sd : Int)] 46)).drew.cell? ⟨g, r.length * 3 + 1, none⟩ = some (.slice fa1 (firstL a (nS r)).length fa2) := hcells.out _ _ 1 M1.out.own (by omega) rfl
        have k2 : (wr.alloc (.cells #[.int .i64 4, .int .u64 (sa : Int), .int .u64 (sb : Int), .int .u64 (sc : Int), .int .u64 (sd : Int)] 46)).drew.cell? ⟨g, r.length * 3 + 2, none⟩ = some (.slice la1 (lastL a (nS r)).length la2) := hcells.out _ _ 2 M1.out.own (by omega) rfl
        have k3 : (wr.alloc (.cells #[.int .i64 4, .int .u64 (sa : Int), .int .u64 (sb : Int), .int .u64 (sc : Int), .int .u64 (sd : Int)] 46)).drew.cell? ⟨g, (r.length + 1) * 3, none⟩ = some (.bool b.null) := by rw [show (r.length + 1) * 3 = r.length * 3 + 3 by omega]; exact hcells.out _ _ 3 M1.out.own (by omega) rfl
        have k4 : (wr.alloc (.cells #[.int .i64 4, .int .u64 (sa : Int), .int .u64 (sb : Int), .int .u64 (sc : Int), .int .u64 (sd : Int)] 46)).drew.cell? ⟨g, (r.length + 1) * 3 + 1, none⟩ = some (.slice fb1 (firstL b (nS (a :: r))).length fb2) := by rw [show (r.length + 1) * 3 + 1 = r.length * 3 + 4 by omega]; exact hcells.out _ _ 4 M1.out.own (by omega) rfl
        have k5 : (wr.alloc (.cells #[.int .i64 4, .int .u64 (sa : Int), .int .u64 (sb : Int), .int .u64 (sc : Int), .int .u64 (sd : Int)] 46)).drew.cell? ⟨g, (r.length + 1) * 3 + 2, none⟩ = some (.slice lb1 (lastL b (nS (a :: r))).length lb2) := by rw [show (r.length + 1) * 3 + 2 = r.length * 3 + 5 by omega]; exact hcells.out _ _ 5 M1.out.own (by omega) rfl
        have he2 : (r.length : Int) + 1 + 1 - 2 = (r.length : Int) := by omega
        have hcz : (r.length : Int) ≤ (cap : Int) := by omega
        have s2 := cutP_hi g (r.length + 2) cap r.length (by omega)
        have hwr : IntKind.i64.wrap ((r.length : Int) + 1) = (r.length : Int) + 1 := by rw [IntKind.wrap_i64]; omega
        have hi1 : (r.length : Int) < (r.length : Int) + 1 + 1 := by omega
        have hi2 : (r.length : Int) + 1 < (r.length : Int) + 1 + 1 := by omega
        have hi3 : (0 : Int) ≤ (r.length : Int) + 1 := by omega
        clear hpa hpb' hpr
        go_wp2_with fail
        go_region_law ((first
          | (refine step_append_lies _ (by rfl) (.tmp 73) (.tmp 87) 44 (by rfl) pb 48 iP (.agg #[.bool false, .slice none 0 0, .slice none 0 0]) 3 56 Try.underlying44 hiP zP0 zP1 zP2 rfl (by decide) (.slice (some ⟨g, 0, none⟩) r.length cap) r.length zs (by rfl) M4.out.own ⟨w1.heap.size, 0, none⟩ 1 1 [.bool rn, .slice xa rf.length xc, .slice ya rl.length yc] (by rfl) (by rfl) (World.news_of_block (heap_new w1 (.cells #[.bool rn, .slice xa rf.length xc, .slice ya rl.length yc] 48))) (by simp [Value.oneCell']) (by omega) (by (unfold maxLen); omega) (by omega) M4.out.lk.base (World.heap (w1.alloc (.cells #[.bool rn, .slice xa rf.length xc, .slice ya rl.length yc] 48))).size rfl ?_; intro g2 cap2 w2 hown2 hgrow2 hat2 hlt2; have M5 := hid (M4.out.push' (t := (.or a b)) hrn.out hrf.out hrl.out hpv4.out hown2 hgrow2 hat2); have hB5 := hid (bgrow hB4.out hgrow2 M4.out.lk.base (fun k e => (M4.out.own.lt k e).1)); clear hgrow2 hown2)
          | (refine step_call (by rfl) 20 #[.int .i64 4, .agg #[.bool a.null, .slice fa1 (firstL a (nS r)).length fa2, .slice la1 (lastL a (nS r)).length la2], .agg #[.bool b.null, .slice fb1 (firstL b (nS (a :: r))).length fb2, .slice lb1 (lastL b (nS (a :: r))).length lb2], (.func (.func 17) #[] #[.pointer (some ⟨pb, 0, none⟩)])] (by (go_simp; done)) GJ.out ?_; rintro e w1 ⟨fv, lv, rfl, hpv, K1⟩; have M2 := hid (M1.out.keep K1); have hpr2 := hid (hprk.out.kept (Kept.of_below K1)); have hB3 := hid (bstep hB1.out K1 M1.out.lk.base); obtain ⟨xa, xc, rfl, hx1⟩ := id hpv.first; obtain ⟨ya, yc, rfl, hx2⟩ := id hpv.last; clear hx1 hx2; have M3 := hid (M2.out.cut (r := r) (ys := zs) rfl (by simp; omega) (by rw [← hzl, List.append_assoc]; exact List.take_left) hpr2.out); have M4 := hid (M3.out.keep (al' w1 (.cells #[.bool rn, .slice xa rf.length xc, .slice ya rl.length yc] 48))); have hpv4 := hid (hpv.keep (al' w1 (.cells #[.bool rn, .slice xa rf.length xc, .slice ya rl.length yc] 48))); have hB4 := hid (bstep hB3.out (al' w1 (.cells #[.bool rn, .slice xa rf.length xc, .slice ya rl.length yc] 48)) M2.out.lk.base); refine ⟨_, rfl, ?_⟩)
          | fail))
        all_goals
          go_wp2
          go_roundw
          case rel => exact ⟨k + 1, _, _, _, _, _, _, by omega, by go_num, hid (by rw [hst.out, nS_or, setsS_or]; exact M5.out), hid (by rw [hst.out, nS_or]; exact hFol2.out), hid (Or.inl hX.out), hB5.out⟩
          case measure => simp [intOf]; omega
      · obtain ⟨a, r, rfl⟩ := one_top (by rw [hwo] at hw; exact hw.2)
        have hst : Hid (stK l (k + 1) = (.star a) :: r) := hid (by rw [hsu.out]; simp [stepS])
        obtain ⟨zs, fa, la, hxs, hpr, hpa⟩ := hM.out.pts
        subst hxs
        have hzl := hpr.len
        obtain ⟨g, cap, hov, hcap⟩ := own_form3 hM.out.own (by simp)
        subst hov
        have hr60 : r.length + 1 ≤ 60 := by have := hnk.2; simp at this; omega
        have hM : Hid (OfM pb pb F (nS (a :: r)) wr sv gv (.slice (some ⟨g, 0, none⟩) (r.length + 1) cap) (setsS (a :: r)) gs fl (a :: r) (zs ++ [.bool a.null, fa, la])) := hM
        have hnn : nS (a :: r) ≤ 60 := by have := hnk.1; omega
        have hnab : nS r + nSets a = nS (a :: r) := rfl
        have M1 := hid ((hM.out.keep (al' wr (.cells #[.int .i64 5, .int .u64 (sa : Int), .int .u64 (sb : Int), .int .u64 (sc : Int), .int .u64 (sd : Int)] 46))).keep ((Below.refl _ _).drew : Below _ (wr.alloc (.cells #[.int .i64 5, .int .u64 (sa : Int), .int .u64 (sb : Int), .int .u64 (sc : Int), .int .u64 (sd : Int)] 46)) (wr.alloc (.cells #[.int .i64 5, .int .u64 (sa : Int), .int .u64 (sb : Int), .int .u64 (sc : Int), .int .u64 (sd : Int)] 46)).drew))
        have hk1 : Hid (Below wr.heap.size wr (wr.alloc (.cells #[.int .i64 5, .int .u64 (sa : Int), .int .u64 (sb : Int), .int .u64 (sc : Int), .int .u64 (sd : Int)] 46)).drew) := hid (bl_step (al' wr (.cells #[.int .i64 5, .int .u64 (sa : Int), .int .u64 (sb : Int), .int .u64 (sc : Int), .int .u64 (sd : Int)] 46)) ((Below.refl _ _).drew : Below _ (wr.alloc (.cells #[.int .i64 5, .int .u64 (sa : Int), .int .u64 (sb : Int), .int .u64 (sc : Int), .int .u64 (sd : Int)] 46)) (wr.alloc (.cells #[.int .i64 5, .int .u64 (sa : Int), .int .u64 (sb : Int), .int .u64 (sc : Int), .int .u64 (sd : Int)] 46)).drew))
        have hB1 := hid (bstep hbl hk1.out hpw.out)
        have pA := hid (hpa.keep hk1.out)
        have hprk := hid (hpr.kept (Kept.of_below (F := F) hk1.out))
        obtain ⟨fa1, fa2, rfl⟩ : ∃ x y, fa = .slice x (firstL a (nS r)).length y := by obtain ⟨x, y, e, _⟩ := hpa.first; exact ⟨x, y, e⟩
        obtain ⟨la1, la2, rfl⟩ : ∃ x y, la = .slice x (lastL a (nS r)).length y := by obtain ⟨x, y, e, _⟩ := hpa.last; exact ⟨x, y, e⟩
        have l1 : (lastL a (nS r)).length ≤ 60 := Nat.le_trans (lastL_len a _) (by omega)
        have l3 : (firstL a (nS r)).length ≤ 60 := Nat.le_trans (firstL_len a _) (by omega)
        have hla : InN (lastL a (nS r)) (nS (a :: r)) := lastL_in a _ _ (Nat.le_of_eq rfl)
        have hfa : InN (firstL a (nS r)) (nS (a :: r)) := firstL_in a _ _ (Nat.le_of_eq rfl)
        have GJ := hid (repeatedC F pb pb (nS (a :: r)) gv _ _ 5 a.null _ _ gs fl _ (by omega) M1.out.lk pA.out hla l1 hfa l3)
        have hFol2 : Hid (FolOK (FolS ((.star a) :: r)) (nS ((.star a) :: r)) (linkL fl (firstL a (nS r)) (lastL a (nS r)))) := hid ((hFol.out.link (lastL_mem a (nS r)) (fun k hk => by have := lst_in a _ k hk; omega) (firstL_mem a (nS r))).congr fun j k _ => (folS_star a r j k).symm)
        obtain ⟨rn, hrn⟩ : ∃ rn : Bool, Hid (rn = Rx.null (.star a)) := ⟨_, hid rfl⟩
        rw [show (a.null || decide ((5 : Int) = 5)) = rn from (show (a.null || true) = true from Bool.or_true _).trans hrn.out.symm] at GJ
        have hcells : Hid (∀ (u : World) (v : Value) (j : Nat), u.ownsRow pb 48 3 (.slice (some ⟨g, 0, none⟩) (r.length + 1) cap) (r.length + 1) (zs ++ [.bool a.null, .slice fa1 (firstL a (nS r)).length fa2, .slice la1 (lastL a (nS r)).length la2]) → j < 3 → ([.bool a.null, .slice fa1 (firstL a (nS r)).length fa2, .slice la1 (lastL a (nS r)).length la2] : List Value)[j]? = some v → u.cell? ⟨g, r.length * 3 + j, none⟩ = some v ∧ u.frozen? ⟨g, r.length * 3 + j, none⟩ = false) := hid (fun u v j h hj hv => ⟨by
          rw [h.cellAt _ (by omega), List.getElem?_append_right (by omega), hzl, Nat.add_sub_cancel_left]
          exact hv, h.frozenAt _⟩)
        have k0 : (wr.alloc (.cells #[.int .i64 5, .int .u64 (sa : Int), .int .u64 (sb : Int), .int .u64 (sc : Int), .int .u64 (sd : Int)] 46)).drew.cell? ⟨g, r.length * 3, none⟩ = some (.bool a.null) := (hcells.out _ _ 0 M1.out.own (by omega) rfl).1
        have k1 : (wr.alloc (.cells #[.int .i64 5, .int .u64 (sa : Int), .int .u64 (sb : Int), .int .u64 (sc : Int), .int .u64 (sd : Int)] 46)).drew.cell? ⟨g, r.length * 3 + 1, none⟩ = some (.slice fa1 (firstL a (nS r)).length fa2) := (hcells.out _ _ 1 M1.out.own (by omega) rfl).1
        have k2 : (wr.alloc (.cells #[.int .i64 5, .int .u64 (sa : Int), .int .u64 (sb : Int), .int .u64 (sc : Int), .int .u64 (sd : Int)] 46)).drew.cell? ⟨g, r.length * 3 + 2, none⟩ = some (.slice la1 (lastL a (nS r)).length la2) := (hcells.out _ _ 2 M1.out.own (by omega) rfl).1
        have hi1 : (r.length : Int) < (r.length : Int) + 1 := by omega
        clear hpa hpr
        go_wp2_with fail
        go_region_law ((first
          | (refine step_call (by rfl) 21 #[.int .i64 5, .agg #[.bool a.null, .slice fa1 (firstL a (nS r)).length fa2, .slice la1 (lastL a (nS r)).length la2], (.func (.func 17) #[] #[.pointer (some ⟨pb, 0, none⟩)])] (by (go_simp; done)) GJ.out ?_; rintro e w1 ⟨fv, lv, rfl, hpv, ⟨gs1, hS1⟩, K1⟩; have M2 := hid (M1.out.linked K1 hS1); have hpr2 := hid (hprk.out.kept (K1.mono fun k _ e => (M1.out.lk.row k e).1)); have hB2 := hid (hB1.out.trans (K1.below (fun k e => (M1.out.lk.own.lt k e).1) M1.out.lk.base)); obtain ⟨xa, xc, rfl, hx1⟩ := id hpv.first; obtain ⟨ya, yc, rfl, hx2⟩ := id hpv.last; clear hx1 hx2; have m0 : w1.cell? ⟨g, r.length * 3, none⟩ = some (.bool a.null) := (hcells.out _ _ 0 M2.out.own (by omega) rfl).1; have f0 : w1.frozen? ⟨g, r.length * 3, none⟩ = false := (hcells.out _ _ 0 M2.out.own (by omega) rfl).2; have m1 : w1.cell? ⟨g, r.length * 3 + 1, none⟩ = some (.slice fa1 (firstL a (nS r)).length fa2) := (hcells.out _ _ 1 M2.out.own (by omega) rfl).1; have f1 : w1.frozen? ⟨g, r.length * 3 + 1, none⟩ = false := (hcells.out _ _ 1 M2.out.own (by omega) rfl).2; have m2 : w1.cell? ⟨g, r.length * 3 + 2, none⟩ = some (.slice la1 (lastL a (nS r)).length la2) := (hcells.out _ _ 2 M2.out.own (by omega) rfl).1; have f2 : w1.frozen? ⟨g, r.length * 3 + 2, none⟩ = false := (hcells.out _ _ 2 M2.out.own (by omega) rfl).2; have M3 := hid (M2.out.put' (t := (.star a)) hrn.out hzl hpr2.out hpv); have hB3 := hid (bl_set (bl_set (bl_set hB2.out g (r.length * 3) (.bool rn) (M2.out.own.lt g rfl).1) g (r.length * 3 + 1) (.slice xa (firstL a (nS r)).length xc) (M2.out.own.lt g rfl).1) g (r.length * 3 + 2) (.slice ya (lastL a (nS r)).length yc) (M2.out.own.lt g rfl).1); refine ⟨_, rfl, ?_⟩)
          | fail))
        all_goals
          go_wp2
          go_roundw
          case rel => exact ⟨k + 1, _, _, _, _, _, _, by omega, by go_num, hid (by rw [hst.out]; exact M3.out), hid (by rw [hst.out]; exact hFol2.out), hX, hB3.out⟩
          case measure => simp [intOf]; omega
      · obtain ⟨a, r, rfl⟩ := one_top (by rw [hwo] at hw; exact hw.2)
        have hst : Hid (stK l (k + 1) = (.plus a) :: r) := hid (by rw [hsu.out]; simp [stepS])
        obtain ⟨zs, fa, la, hxs, hpr, hpa⟩ := hM.out.pts
        subst hxs
        have hzl := hpr.len
        obtain ⟨g, cap, hov, hcap⟩ := own_form3 hM.out.own (by simp)
        subst hov
        have hr60 : r.length + 1 ≤ 60 := by have := hnk.2; simp at this; omega
        have hM : Hid (OfM pb pb F (nS (a :: r)) wr sv gv (.slice (some ⟨g, 0, none⟩) (r.length + 1) cap) (setsS (a :: r)) gs fl (a :: r) (zs ++ [.bool a.null, fa, la])) := hM
        have hnn : nS (a :: r) ≤ 60 := by have := hnk.1; omega
        have hnab : nS r + nSets a = nS (a :: r) := rfl
        have M1 := hid ((hM.out.keep (al' wr (.cells #[.int .i64 6, .int .u64 (sa : Int), .int .u64 (sb : Int), .int .u64 (sc : Int), .int .u64 (sd : Int)] 46))).keep ((Below.refl _ _).drew : Below _ (wr.alloc (.cells #[.int .i64 6, .int .u64 (sa : Int), .int .u64 (sb : Int), .int .u64 (sc : Int), .int .u64 (sd : Int)] 46)) (wr.alloc (.cells #[.int .i64 6, .int .u64 (sa : Int), .int .u64 (sb : Int), .int .u64 (sc : Int), .int .u64 (sd : Int)] 46)).drew))
        have hk1 : Hid (Below wr.heap.size wr (wr.alloc (.cells #[.int .i64 6, .int .u64 (sa : Int), .int .u64 (sb : Int), .int .u64 (sc : Int), .int .u64 (sd : Int)] 46)).drew) := hid (bl_step (al' wr (.cells #[.int .i64 6, .int .u64 (sa : Int), .int .u64 (sb : Int), .int .u64 (sc : Int), .int .u64 (sd : Int)] 46)) ((Below.refl _ _).drew : Below _ (wr.alloc (.cells #[.int .i64 6, .int .u64 (sa : Int), .int .u64 (sb : Int), .int .u64 (sc : Int), .int .u64 (sd : Int)] 46)) (wr.alloc (.cells #[.int .i64 6, .int .u64 (sa : Int), .int .u64 (sb : Int), .int .u64 (sc : Int), .int .u64 (sd : Int)] 46)).drew))
        have hB1 := hid (bstep hbl hk1.out hpw.out)
        have pA := hid (hpa.keep hk1.out)
        have hprk := hid (hpr.kept (Kept.of_below (F := F) hk1.out))
        obtain ⟨fa1, fa2, rfl⟩ : ∃ x y, fa = .slice x (firstL a (nS r)).length y := by obtain ⟨x, y, e, _⟩ := hpa.first; exact ⟨x, y, e⟩
        obtain ⟨la1, la2, rfl⟩ : ∃ x y, la = .slice x (lastL a (nS r)).length y := by obtain ⟨x, y, e, _⟩ := hpa.last; exact ⟨x, y, e⟩
        have l1 : (lastL a (nS r)).length ≤ 60 := Nat.le_trans (lastL_len a _) (by omega)
        have l3 : (firstL a (nS r)).length ≤ 60 := Nat.le_trans (firstL_len a _) (by omega)
        have hla : InN (lastL a (nS r)) (nS (a :: r)) := lastL_in a _ _ (Nat.le_of_eq rfl)
        have hfa : InN (firstL a (nS r)) (nS (a :: r)) := firstL_in a _ _ (Nat.le_of_eq rfl)
        have GJ := hid (repeatedC F pb pb (nS (a :: r)) gv _ _ 6 a.null _ _ gs fl _ (by omega) M1.out.lk pA.out hla l1 hfa l3)
        have hFol2 : Hid (FolOK (FolS ((.plus a) :: r)) (nS ((.plus a) :: r)) (linkL fl (firstL a (nS r)) (lastL a (nS r)))) := hid ((hFol.out.link (lastL_mem a (nS r)) (fun k hk => by have := lst_in a _ k hk; omega) (firstL_mem a (nS r))).congr fun j k _ => (folS_plus a r j k).symm)
        obtain ⟨rn, hrn⟩ : ∃ rn : Bool, Hid (rn = Rx.null (.plus a)) := ⟨_, hid rfl⟩
        rw [show (a.null || decide ((6 : Int) = 5)) = rn from (show (a.null || false) = a.null from Bool.or_false _).trans hrn.out.symm] at GJ
        have hcells : Hid (∀ (u : World) (v : Value) (j : Nat), u.ownsRow pb 48 3 (.slice (some ⟨g, 0, none⟩) (r.length + 1) cap) (r.length + 1) (zs ++ [.bool a.null, .slice fa1 (firstL a (nS r)).length fa2, .slice la1 (lastL a (nS r)).length la2]) → j < 3 → ([.bool a.null, .slice fa1 (firstL a (nS r)).length fa2, .slice la1 (lastL a (nS r)).length la2] : List Value)[j]? = some v → u.cell? ⟨g, r.length * 3 + j, none⟩ = some v ∧ u.frozen? ⟨g, r.length * 3 + j, none⟩ = false) := hid (fun u v j h hj hv => ⟨by
          rw [h.cellAt _ (by omega), List.getElem?_append_right (by omega), hzl, Nat.add_sub_cancel_left]
          exact hv, h.frozenAt _⟩)
        have k0 : (wr.alloc (.cells #[.int .i64 6, .int .u64 (sa : Int), .int .u64 (sb : Int), .int .u64 (sc : Int), .int .u64 (sd : Int)] 46)).drew.cell? ⟨g, r.length * 3, none⟩ = some (.bool a.null) := (hcells.out _ _ 0 M1.out.own (by omega) rfl).1
        have k1 : (wr.alloc (.cells #[.int .i64 6, .int .u64 (sa : Int), .int .u64 (sb : Int), .int .u64 (sc : Int), .int .u64 (sd : Int)] 46)).drew.cell? ⟨g, r.length * 3 + 1, none⟩ = some (.slice fa1 (firstL a (nS r)).length fa2) := (hcells.out _ _ 1 M1.out.own (by omega) rfl).1
        have k2 : (wr.alloc (.cells #[.int .i64 6, .int .u64 (sa : Int), .int .u64 (sb : Int), .int .u64 (sc : Int), .int .u64 (sd : Int)] 46)).drew.cell? ⟨g, r.length * 3 + 2, none⟩ = some (.slice la1 (lastL a (nS r)).length la2) := (hcells.out _ _ 2 M1.out.own (by omega) rfl).1
        have hi1 : (r.length : Int) < (r.length : Int) + 1 := by omega
        clear hpa hpr
        go_wp2_with fail
        go_region_law ((first
          | (refine step_call (by rfl) 21 #[.int .i64 6, .agg #[.bool a.null, .slice fa1 (firstL a (nS r)).length fa2, .slice la1 (lastL a (nS r)).length la2], (.func (.func 17) #[] #[.pointer (some ⟨pb, 0, none⟩)])] (by (go_simp; done)) GJ.out ?_; rintro e w1 ⟨fv, lv, rfl, hpv, ⟨gs1, hS1⟩, K1⟩; have M2 := hid (M1.out.linked K1 hS1); have hpr2 := hid (hprk.out.kept (K1.mono fun k _ e => (M1.out.lk.row k e).1)); have hB2 := hid (hB1.out.trans (K1.below (fun k e => (M1.out.lk.own.lt k e).1) M1.out.lk.base)); obtain ⟨xa, xc, rfl, hx1⟩ := id hpv.first; obtain ⟨ya, yc, rfl, hx2⟩ := id hpv.last; clear hx1 hx2; have m0 : w1.cell? ⟨g, r.length * 3, none⟩ = some (.bool a.null) := (hcells.out _ _ 0 M2.out.own (by omega) rfl).1; have f0 : w1.frozen? ⟨g, r.length * 3, none⟩ = false := (hcells.out _ _ 0 M2.out.own (by omega) rfl).2; have m1 : w1.cell? ⟨g, r.length * 3 + 1, none⟩ = some (.slice fa1 (firstL a (nS r)).length fa2) := (hcells.out _ _ 1 M2.out.own (by omega) rfl).1; have f1 : w1.frozen? ⟨g, r.length * 3 + 1, none⟩ = false := (hcells.out _ _ 1 M2.out.own (by omega) rfl).2; have m2 : w1.cell? ⟨g, r.length * 3 + 2, none⟩ = some (.slice la1 (lastL a (nS r)).length la2) := (hcells.out _ _ 2 M2.out.own (by omega) rfl).1; have f2 : w1.frozen? ⟨g, r.length * 3 + 2, none⟩ = false := (hcells.out _ _ 2 M2.out.own (by omega) rfl).2; have M3 := hid (M2.out.put' (t := (.plus a)) hrn.out hzl hpr2.out hpv); have hB3 := hid (bl_set (bl_set (bl_set hB2.out g (r.length * 3) (.bool rn) (M2.out.own.lt g rfl).1) g (r.length * 3 + 1) (.slice xa (firstL a (nS r)).length xc) (M2.out.own.lt g rfl).1) g (r.length * 3 + 2) (.slice ya (lastL a (nS r)).length yc) (M2.out.own.lt g rfl).1); refine ⟨_, rfl, ?_⟩)
          | fail))
        all_goals
          go_wp2
          go_roundw
          case rel => exact ⟨k + 1, _, _, _, _, _, _, by omega, by go_num, hid (by rw [hst.out]; exact M3.out), hid (by rw [hst.out]; exact hFol2.out), hX, hB3.out⟩
          case measure => simp [intOf]; omega
      · obtain ⟨a, r, rfl⟩ := one_top (by rw [hwo] at hw; exact hw.2)
        have hst : Hid (stK l (k + 1) = (.opt a) :: r) := hid (by rw [hsu.out]; simp [stepS])
        obtain ⟨zs, fa, la, hxs, hpr, hpa⟩ := hM.out.pts
        subst hxs
        have hzl := hpr.len
        obtain ⟨g, cap, hov, hcap⟩ := own_form3 hM.out.own (by simp)
        subst hov
        have hr60 : r.length + 1 ≤ 60 := by have := hnk.2; simp at this; omega
        have hM : Hid (OfM pb pb F (nS (a :: r)) wr sv gv (.slice (some ⟨g, 0, none⟩) (r.length + 1) cap) (setsS (a :: r)) gs fl (a :: r) (zs ++ [.bool a.null, fa, la])) := hM
        have hnn : nS (a :: r) ≤ 60 := by have := hnk.1; omega
        have hnab : nS r + nSets a = nS (a :: r) := rfl
        have M1 := hid ((hM.out.keep (al' wr (.cells #[.int .i64 7, .int .u64 (sa : Int), .int .u64 (sb : Int), .int .u64 (sc : Int), .int .u64 (sd : Int)] 46))).keep ((Below.refl _ _).drew : Below _ (wr.alloc (.cells #[.int .i64 7, .int .u64 (sa : Int), .int .u64 (sb : Int), .int .u64 (sc : Int), .int .u64 (sd : Int)] 46)) (wr.alloc (.cells #[.int .i64 7, .int .u64 (sa : Int), .int .u64 (sb : Int), .int .u64 (sc : Int), .int .u64 (sd : Int)] 46)).drew))
        have hk1 : Hid (Below wr.heap.size wr (wr.alloc (.cells #[.int .i64 7, .int .u64 (sa : Int), .int .u64 (sb : Int), .int .u64 (sc : Int), .int .u64 (sd : Int)] 46)).drew) := hid (bl_step (al' wr (.cells #[.int .i64 7, .int .u64 (sa : Int), .int .u64 (sb : Int), .int .u64 (sc : Int), .int .u64 (sd : Int)] 46)) ((Below.refl _ _).drew : Below _ (wr.alloc (.cells #[.int .i64 7, .int .u64 (sa : Int), .int .u64 (sb : Int), .int .u64 (sc : Int), .int .u64 (sd : Int)] 46)) (wr.alloc (.cells #[.int .i64 7, .int .u64 (sa : Int), .int .u64 (sb : Int), .int .u64 (sc : Int), .int .u64 (sd : Int)] 46)).drew))
        have hB1 := hid (bstep hbl hk1.out hpw.out)
        have pA := hid (hpa.keep hk1.out)
        have hprk := hid (hpr.kept (Kept.of_below (F := F) hk1.out))
        obtain ⟨fa1, fa2, rfl⟩ : ∃ x y, fa = .slice x (firstL a (nS r)).length y := by obtain ⟨x, y, e, _⟩ := hpa.first; exact ⟨x, y, e⟩
        obtain ⟨la1, la2, rfl⟩ : ∃ x y, la = .slice x (lastL a (nS r)).length y := by obtain ⟨x, y, e, _⟩ := hpa.last; exact ⟨x, y, e⟩
        have l1 : (lastL a (nS r)).length ≤ 60 := Nat.le_trans (lastL_len a _) (by omega)
        have l3 : (firstL a (nS r)).length ≤ 60 := Nat.le_trans (firstL_len a _) (by omega)
        have GJ := hid (repeatedOpt F _ _ (.func (.func 17) #[] #[.pointer (some ⟨pb, 0, none⟩)]) a.null _ _ _ pA.out)
        have hFol2 : Hid (FolOK (FolS ((.opt a) :: r)) (nS ((.opt a) :: r)) fl) := hid (hFol.out.congr fun j k _ => (folS_opt a r j k).symm)
        obtain ⟨rn, hrn⟩ : ∃ rn : Bool, Hid (rn = Rx.null (.opt a)) := ⟨_, hid rfl⟩
        rw [show true = rn from hrn.out.symm] at GJ
        have hcells : Hid (∀ (u : World) (v : Value) (j : Nat), u.ownsRow pb 48 3 (.slice (some ⟨g, 0, none⟩) (r.length + 1) cap) (r.length + 1) (zs ++ [.bool a.null, .slice fa1 (firstL a (nS r)).length fa2, .slice la1 (lastL a (nS r)).length la2]) → j < 3 → ([.bool a.null, .slice fa1 (firstL a (nS r)).length fa2, .slice la1 (lastL a (nS r)).length la2] : List Value)[j]? = some v → u.cell? ⟨g, r.length * 3 + j, none⟩ = some v ∧ u.frozen? ⟨g, r.length * 3 + j, none⟩ = false) := hid (fun u v j h hj hv => ⟨by
          rw [h.cellAt _ (by omega), List.getElem?_append_right (by omega), hzl, Nat.add_sub_cancel_left]
          exact hv, h.frozenAt _⟩)
        have k0 : (wr.alloc (.cells #[.int .i64 7, .int .u64 (sa : Int), .int .u64 (sb : Int), .int .u64 (sc : Int), .int .u64 (sd : Int)] 46)).drew.cell? ⟨g, r.length * 3, none⟩ = some (.bool a.null) := (hcells.out _ _ 0 M1.out.own (by omega) rfl).1
        have k1 : (wr.alloc (.cells #[.int .i64 7, .int .u64 (sa : Int), .int .u64 (sb : Int), .int .u64 (sc : Int), .int .u64 (sd : Int)] 46)).drew.cell? ⟨g, r.length * 3 + 1, none⟩ = some (.slice fa1 (firstL a (nS r)).length fa2) := (hcells.out _ _ 1 M1.out.own (by omega) rfl).1
        have k2 : (wr.alloc (.cells #[.int .i64 7, .int .u64 (sa : Int), .int .u64 (sb : Int), .int .u64 (sc : Int), .int .u64 (sd : Int)] 46)).drew.cell? ⟨g, r.length * 3 + 2, none⟩ = some (.slice la1 (lastL a (nS r)).length la2) := (hcells.out _ _ 2 M1.out.own (by omega) rfl).1
        have hi1 : (r.length : Int) < (r.length : Int) + 1 := by omega
        clear hpa hpr
        go_wp2_with fail
        go_region_law ((first
          | (refine step_call (by rfl) 21 #[.int .i64 7, .agg #[.bool a.null, .slice fa1 (firstL a (nS r)).length fa2, .slice la1 (lastL a (nS r)).length la2], (.func (.func 17) #[] #[.pointer (some ⟨pb, 0, none⟩)])] (by (go_simp; done)) GJ.out ?_; rintro e w1 ⟨fv, lv, rfl, hpv, K1⟩; have M2 := hid (M1.out.keep K1); have hpr2 := hid (hprk.out.kept (Kept.of_below K1)); have hB2 := hid (bstep hB1.out K1 M1.out.lk.base); obtain ⟨xa, xc, rfl, hx1⟩ := id hpv.first; obtain ⟨ya, yc, rfl, hx2⟩ := id hpv.last; clear hx1 hx2; have m0 : w1.cell? ⟨g, r.length * 3, none⟩ = some (.bool a.null) := (hcells.out _ _ 0 M2.out.own (by omega) rfl).1; have f0 : w1.frozen? ⟨g, r.length * 3, none⟩ = false := (hcells.out _ _ 0 M2.out.own (by omega) rfl).2; have m1 : w1.cell? ⟨g, r.length * 3 + 1, none⟩ = some (.slice fa1 (firstL a (nS r)).length fa2) := (hcells.out _ _ 1 M2.out.own (by omega) rfl).1; have f1 : w1.frozen? ⟨g, r.length * 3 + 1, none⟩ = false := (hcells.out _ _ 1 M2.out.own (by omega) rfl).2; have m2 : w1.cell? ⟨g, r.length * 3 + 2, none⟩ = some (.slice la1 (lastL a (nS r)).length la2) := (hcells.out _ _ 2 M2.out.own (by omega) rfl).1; have f2 : w1.frozen? ⟨g, r.length * 3 + 2, none⟩ = false := (hcells.out _ _ 2 M2.out.own (by omega) rfl).2; have M3 := hid (M2.out.put' (t := (.opt a)) hrn.out hzl hpr2.out hpv); have hB3 := hid (bl_set (bl_set (bl_set hB2.out g (r.length * 3) (.bool rn) (M2.out.own.lt g rfl).1) g (r.length * 3 + 1) (.slice xa (firstL a (nS r)).length xc) (M2.out.own.lt g rfl).1) g (r.length * 3 + 2) (.slice ya (lastL a (nS r)).length yc) (M2.out.own.lt g rfl).1); refine ⟨_, rfl, ?_⟩)
          | fail))
        all_goals
          go_wp2
          go_roundw
          case rel => exact ⟨k + 1, _, _, _, _, _, _, by omega, by go_num, hid (by rw [hst.out]; exact M3.out), hid (by rw [hst.out]; exact hFol2.out), hX, hB3.out⟩
          case measure => simp [intOf]; omega
    · have hltz : ¬ (k : Int) < (l.length : Int) := by omega
      obtain rfl : k = l.length := by omega
      rw [hend.out] at hM hFol
      obtain ⟨ys, fv, lv, hxs, hys, hpt⟩ := hM.out.pts
      have hys' : ys = [] := hys
      subst hys'
      subst hxs
      obtain ⟨g, cap, hov, hcap⟩ := own_form3 hM.out.own (by simp)
      subst hov
      have hM : Hid (OfM pb pb F (nS [t]) wr sv gv (.slice (some ⟨g, 0, none⟩) 1 cap) (setsS [t]) gs fl [t] [.bool t.null, fv, lv]) := hM
      obtain ⟨fa1, fa2, rfl⟩ : ∃ x y, fv = .slice x (firstL t 0).length y := by obtain ⟨x, y, e, _⟩ := hpt.first; exact ⟨x, y, e⟩
      obtain ⟨la1, la2, rfl⟩ : ∃ x y, lv = .slice x (lastL t 0).length y := by obtain ⟨x, y, e, _⟩ := hpt.last; exact ⟨x, y, e⟩
      obtain ⟨sa, sc, rfl⟩ := own_shape hM.out.sets
      obtain ⟨ga, gc, rfl⟩ := own_shape hM.out.lk.own
      have k0 : wr.drew.cell? ⟨g, 0, none⟩ = some (.bool t.null) := hM.out.own.cellAt 0 (by omega)
      have k1 : wr.drew.cell? ⟨g, 1, none⟩ = some (.slice fa1 (firstL t 0).length fa2) := hM.out.own.cellAt 1 (by omega)
      have k2 : wr.drew.cell? ⟨g, 2, none⟩ = some (.slice la1 (lastL t 0).length la2) := hM.out.own.cellAt 2 (by omega)
      have hgp := (hM.out.oF g rfl).2.1
      obtain ⟨c0, c1, c2, c3, c4, f0, f1, f2, f3, f4⟩ := cells5s (show wr.drew.heap[pb]? = _ from hM.out.blk)
      have hq1 : wr.heap[w.heap.size]? = _ := (hbl.block _ hpb).trans hqr.out
      have hWp : (((wr.setCell ⟨pb, 1, none⟩ (.bool t.null)).setCell ⟨pb, 2, none⟩ (.slice fa1 (firstL t 0).length fa2)).setCell ⟨pb, 3, none⟩ (.slice la1 (lastL t 0).length la2)).drew.heap[pb]? = some (.cells #[.slice sa (setsS [t]).length sc, .bool t.null, .slice fa1 (firstL t 0).length fa2, .slice la1 (lastL t 0).length la2, .slice ga gs.length gc] 27 (0, 0)) := (show (((wr.setCell ⟨pb, 1, none⟩ (.bool t.null)).setCell ⟨pb, 2, none⟩ (.slice fa1 (firstL t 0).length fa2)).setCell ⟨pb, 3, none⟩ (.slice la1 (lastL t 0).length la2)).heap[pb]? = _ from heap_setCell (heap_setCell (heap_setCell hM.out.blk)))
      have hWx : (((wr.setCell ⟨pb, 1, none⟩ (.bool t.null)).setCell ⟨pb, 2, none⟩ (.slice fa1 (firstL t 0).length fa2)).setCell ⟨pb, 3, none⟩ (.slice la1 (lastL t 0).length la2)).drew.heap[w.heap.size]? = some (.cells #[nilV, .bool false, nilV, nilV, nilV] 27 (0, 0)) := (show (((wr.setCell ⟨pb, 1, none⟩ (.bool t.null)).setCell ⟨pb, 2, none⟩ (.slice fa1 (firstL t 0).length fa2)).setCell ⟨pb, 3, none⟩ (.slice la1 (lastL t 0).length la2)).heap[w.heap.size]? = _ from hs_set (hs_set (hs_set hq1 (by omega)) (by omega)) (by omega))
      have hKp : Kept (fun k => k = pb ∨ k = w.heap.size) wr ((((wr.setCell ⟨pb, 1, none⟩ (.bool t.null)).setCell ⟨pb, 2, none⟩ (.slice fa1 (firstL t 0).length fa2)).setCell ⟨pb, 3, none⟩ (.slice la1 (lastL t 0).length la2)).drew) := ((((Kept.refl (fun k => k = pb ∨ k = w.heap.size) wr).setCell (a := ⟨pb, 1, none⟩) (v := .bool t.null) fun _ => Or.inl rfl).setCell (a := ⟨pb, 2, none⟩) (v := .slice fa1 (firstL t 0).length fa2) fun _ => Or.inl rfl).setCell (a := ⟨pb, 3, none⟩) (v := .slice la1 (lastL t 0).length la2) (fun _ => Or.inl rfl)).step (Kept.of_below ((Below.refl _ _).drew)) (fun _ _ h => h)
      have hKp := hid hKp
      have hfin : Hid (∀ u, Kept (fun k => k = pb ∨ k = w.heap.size) wr u → SpV u (.slice sa (setsS [t]).length sc) (.slice fa1 (firstL t 0).length fa2) (.slice la1 (lastL t 0).length la2) (.slice ga gs.length gc) ⟨setsS [t], t.null, firstL t 0, lastL t 0, fl⟩ ∧ Below w.heap.size w u) := hid (fun u hu => by
        have hFs : ∀ k, (k = pb ∨ k = w.heap.size) → F k := fun k e => by
          rcases e with rfl | rfl
          · exact hM.out.lk.inF
          · exact hX.out
        have huF : Kept F wr u := hu.mono fun k _ e => hFs k e
        refine ⟨⟨Sets.of_own (own_kept hM.out.sets hu (fun k e e' => ?_)) hfit.out, hpt.first.kept huF hpt.offF, hpt.last.kept huF hpt.offL, numss_of (F := F) (own_kept hM.out.lk.own hu (fun k e e' => ?_)) (hM.out.lk.nums.kept huF)⟩, hblw.out.trans (hu.below (fun k e => ?_) hblw.out.size)⟩
        · have h1 := (hM.out.sets.lt k e).1
          rcases e' with e' | e'
          · exact (hM.out.sF k e).2.1 e'
          · omega
        · have h1 := (hM.out.lk.own.lt k e).1
          rcases e' with e' | e'
          · exact (hM.out.lk.row k e).2 e'
          · omega
        · rcases e with e | e <;> omega)
      obtain ⟨C0, C1, C2, C3, C4, -, -, -, -, -⟩ := cells5s hWp
      obtain ⟨X0, X1, X2, X3, X4, Y0, Y1, Y2, Y3, Y4⟩ := cells5s hWx
      have hfb := put5_blk (y0 := .slice sa (setsS [t]).length sc) (y1 := .bool t.null) (y2 := .slice fa1 (firstL t 0).length fa2) (y3 := .slice la1 (lastL t 0).length la2) (y4 := .slice ga gs.length gc) hWx
      obtain ⟨R0, R1, R2, R3, R4, -, -, -, -, -⟩ := cells5s hfb
      unfold put5 at R0 R1 R2 R3 R4
      have hKf := hid (put5_kept (b := w.heap.size) (y0 := .slice sa (setsS [t]).length sc) (y1 := .bool t.null) (y2 := .slice fa1 (firstL t 0).length fa2) (y3 := .slice la1 (lastL t 0).length la2) (y4 := .slice ga gs.length gc) hKp.out (Or.inr rfl))
      have s10 : (wr.setCell ⟨pb, 1, none⟩ (.bool t.null)).drew.cell? ⟨g, 0, none⟩ = some (.bool t.null) := set_keep (v := .bool t.null) 1 k0 hgp
      have s11 : (wr.setCell ⟨pb, 1, none⟩ (.bool t.null)).drew.cell? ⟨g, 1, none⟩ = some (.slice fa1 (firstL t 0).length fa2) := set_keep (v := .bool t.null) 1 k1 hgp
      have s12 : (wr.setCell ⟨pb, 1, none⟩ (.bool t.null)).drew.cell? ⟨g, 2, none⟩ = some (.slice la1 (lastL t 0).length la2) := set_keep (v := .bool t.null) 1 k2 hgp
      have s20 : ((wr.setCell ⟨pb, 1, none⟩ (.bool t.null)).setCell ⟨pb, 2, none⟩ (.slice fa1 (firstL t 0).length fa2)).drew.cell? ⟨g, 0, none⟩ = some (.bool t.null) := set_keep (v := .slice fa1 (firstL t 0).length fa2) 2 s10 hgp
      have s21 : ((wr.setCell ⟨pb, 1, none⟩ (.bool t.null)).setCell ⟨pb, 2, none⟩ (.slice fa1 (firstL t 0).length fa2)).drew.cell? ⟨g, 1, none⟩ = some (.slice fa1 (firstL t 0).length fa2) := set_keep (v := .slice fa1 (firstL t 0).length fa2) 2 s11 hgp
      have s22 : ((wr.setCell ⟨pb, 1, none⟩ (.bool t.null)).setCell ⟨pb, 2, none⟩ (.slice fa1 (firstL t 0).length fa2)).drew.cell? ⟨g, 2, none⟩ = some (.slice la1 (lastL t 0).length la2) := set_keep (v := .slice fa1 (firstL t 0).length fa2) 2 s12 hgp
      have s30 : (((wr.setCell ⟨pb, 1, none⟩ (.bool t.null)).setCell ⟨pb, 2, none⟩ (.slice fa1 (firstL t 0).length fa2)).setCell ⟨pb, 3, none⟩ (.slice la1 (lastL t 0).length la2)).drew.cell? ⟨g, 0, none⟩ = some (.bool t.null) := set_keep (v := .slice la1 (lastL t 0).length la2) 3 s20 hgp
      have s31 : (((wr.setCell ⟨pb, 1, none⟩ (.bool t.null)).setCell ⟨pb, 2, none⟩ (.slice fa1 (firstL t 0).length fa2)).setCell ⟨pb, 3, none⟩ (.slice la1 (lastL t 0).length la2)).drew.cell? ⟨g, 1, none⟩ = some (.slice fa1 (firstL t 0).length fa2) := set_keep (v := .slice la1 (lastL t 0).length la2) 3 s21 hgp
      have s32 : (((wr.setCell ⟨pb, 1, none⟩ (.bool t.null)).setCell ⟨pb, 2, none⟩ (.slice fa1 (firstL t 0).length fa2)).setCell ⟨pb, 3, none⟩ (.slice la1 (lastL t 0).length la2)).drew.cell? ⟨g, 2, none⟩ = some (.slice la1 (lastL t 0).length la2) := set_keep (v := .slice la1 (lastL t 0).length la2) 3 s22 hgp
      have hb1 : (wr.setCell ⟨pb, 1, none⟩ (.bool t.null)).drew.heap[pb]? = some (.cells #[.slice sa (setsS [t]).length sc, .bool t.null, nilV, nilV, .slice ga gs.length gc] 27 (0, 0)) := (show (wr.setCell ⟨pb, 1, none⟩ (.bool t.null)).heap[pb]? = _ from heap_setCell hM.out.blk)
      have hb2 : ((wr.setCell ⟨pb, 1, none⟩ (.bool t.null)).setCell ⟨pb, 2, none⟩ (.slice fa1 (firstL t 0).length fa2)).drew.heap[pb]? = some (.cells #[.slice sa (setsS [t]).length sc, .bool t.null, .slice fa1 (firstL t 0).length fa2, nilV, .slice ga gs.length gc] 27 (0, 0)) := (show ((wr.setCell ⟨pb, 1, none⟩ (.bool t.null)).setCell ⟨pb, 2, none⟩ (.slice fa1 (firstL t 0).length fa2)).heap[pb]? = _ from heap_setCell (heap_setCell hM.out.blk))
      obtain ⟨-, -, D2, -, -, -, -, D7, -, -⟩ := cells5s hb1
      obtain ⟨-, -, -, E3, -, -, -, -, E8, -⟩ := cells5s hb2
      have hF2 := hid hFol.out
      clear hWp hWx hfb hq1 hpt hb1 hb2 hM hFol hKp hX hfit hend hns hwan hsuc hAt hFl hblw hbl hqr hbw hM0 hnk hstart
      generalize (firstL t 0).length = nf at *
      generalize (lastL t 0).length = nl at *
      generalize (setsS [t]).length = ns at *
      generalize gs.length = ng at *
      go_wp2_with fail
      go_region_held3 (fun w' => w'.cell? ⟨g, 0, none⟩ = some (.bool t.null) ∧ w'.cell? ⟨g, 1, none⟩ = some (.slice fa1 nf fa2) ∧ w'.cell? ⟨g, 2, none⟩ = some (.slice la1 nl la2))
        (go_keep)
        (fail)
      clear s10 s11 s12 s20 s21 s22 s30 s31 s32 k0 k1 k2 c0 c1 c2 c3 c4 f0 f1 f2 f3 f4 D2 D7 E3 E8
      generalize (((wr.setCell ⟨pb, 1, none⟩ (.bool t.null)).setCell ⟨pb, 2, none⟩ (.slice fa1 nf fa2)).setCell ⟨pb, 3, none⟩ (.slice la1 nl la2)).drew = U at *
      go_wp2
      obtain ⟨E1, E2⟩ := hfin.out _ hKf.out
      exact bodyPost_ret (v := .tuple #[.agg #[.slice sa ns sc, .bool t.null, .slice fa1 nf fa2, .slice la1 nl la2, .slice ga ng gc], .int .i64 0]) (by simp [results, Try.results7, go_sem, R0, R1, R2, R3, R4]) rfl ⟨_, _, _, _, fl, rfl, E1, hF2.out, E2⟩

end Go.Proofs.Ytgbecehggdkkmaa
namespace Go.Proofs.Ytgbecehggdkkmaa
open Go.RowKit

/-- a slice holds these values, wherever it lies -/
def Rws (w : World) (v : Value) (l : List Value) : Prop := ∃ a cap, v = .slice a l.length cap ∧ l.length ≤ cap ∧ (a = none → cap = 0) ∧ ∀ j (h : j < l.length), ∃ b o, a = some ⟨b, o, none⟩ ∧ b < w.heap.size ∧ w.cell? ⟨b, o + j, none⟩ = some l[j]
theorem Rws.keep {w w' : World} {v : Value} {l : List Value} (h : Rws w v l) (hb : Below w.heap.size w w') : Rws w' v l := by
  obtain ⟨a, cap, hv, hc, hn, hat⟩ := h
  refine ⟨a, cap, hv, hc, hn, fun j hj => ?_⟩
  obtain ⟨b, o, ha, hlt, h1⟩ := hat j hj
  exact ⟨b, o, ha, Nat.lt_of_lt_of_le hlt hb.size, keep_cell hb h1⟩
abbrev OwnR (w : World) (B : Nat) (v : Value) (l : List Value) : Prop := w.ownsRow B 24 1 v l.length l
theorem Rws.of_row {w : World} {B : Nat} {v : Value} {l : List Value} (h : OwnR w B v l) : Rws w v l := by
  have h' := h
  rcases h.2 with ⟨rfl, h0⟩ | ⟨g, cap, cur, rfl, _, _, hc, _⟩
  · exact ⟨none, 0, by rw [h0], by omega, fun _ => rfl, fun j hj => by omega⟩
  · refine ⟨_, cap, rfl, hc, (fun h => by cases h), fun j hj => ⟨g, 0, rfl, (h'.lt g rfl).2, ?_⟩⟩
    rw [Nat.zero_add, h'.cellAt j (by omega), List.getElem?_eq_getElem hj]
theorem Rws.empty {w : World} {v : Value} (h : Rws w v []) : v = .slice none 0 0 ∨ ∃ a cap, v = .slice (some a) 0 cap := by
  obtain ⟨a, cap, rfl, hc, hn, _⟩ := h
  cases a with
  | none => left; rw [hn rfl]; rfl
  | some a => exact Or.inr ⟨a, cap, rfl⟩
theorem Rws.at {w : World} {v : Value} {l : List Value} (h : Rws w v l) (h0 : 0 < l.length) : ∃ b o cap, v = .slice (some ⟨b, o, none⟩) l.length cap ∧ l.length ≤ cap ∧ b < w.heap.size ∧ ∀ j (hj : j < l.length), w.cell? ⟨b, o + j, none⟩ = some l[j] := by
  obtain ⟨a, cap, rfl, hc, hn, hat⟩ := h
  obtain ⟨b, o, rfl, hb, _⟩ := hat 0 h0
  refine ⟨b, o, cap, rfl, hc, hb, fun j hj => ?_⟩
  obtain ⟨b', o', e, _, h1⟩ := hat j hj
  cases e
  exact h1
theorem Rws.news {w : World} {b o : Nat} {l : List Value} (h : ∀ j (hj : j < l.length), w.cell? ⟨b, o + j, none⟩ = some l[j]) : ∀ j u, l[j]? = some u → w.cell? ((⟨b, o, none⟩ : Addr).add j) = some u := fun j u hu => by
  rw [Go.WideShapes.add_plain]
  have hj : j < l.length := by
    rcases Nat.lt_or_ge j l.length with h1 | h1
    · exact h1
    · rw [List.getElem?_eq_none h1] at hu; cases hu
  rw [List.getElem?_eq_getElem hj] at hu
  cases hu
  exact h j hj
theorem below_appR {B : Nat} {w0 wr w2 : World} {v : Value} {n : Nat} {xs : List Value} (hown : wr.ownsRow B 24 1 v n xs) (hbl : Below B w0 wr) (hB : B ≤ w0.heap.size) (hg : wr.grownBy w2 v.ownBlock) : Below B w0 w2 :=
  bgrow hbl hg (Nat.le_trans hB hbl.size) (fun k e => (hown.lt k e).1)
theorem Rws.parts {w : World} {v : Value} {l : List Value} (h : Rws w v l) : (v = .slice none 0 0 ∧ l = []) ∨ ∃ ad cap, v = .slice (some ad) l.length cap ∧ ∀ j u, l[j]? = some u → w.cell? (ad.add j) = some u := by
  by_cases h0 : l = []
  · subst h0
    rcases h.empty with rfl | ⟨a, cap, rfl⟩
    · exact Or.inl ⟨rfl, rfl⟩
    · exact Or.inr ⟨a, cap, rfl, fun j u hu => by simp at hu⟩
  · obtain ⟨b, o, cap, rfl, hcap, hb, hc⟩ := h.at (List.length_pos_iff.2 h0)
    exact Or.inr ⟨_, cap, rfl, (Rws.news hc)⟩

set_option maxRecDepth 20000 in
theorem wp_appR {ops : Array Oper} {rest : List Oper} {o : Oper} {a : Act} {Q : Exit → Act → World → Prop} (w : World) (hgd : o.guard = none) (s x : Operand)
    (ho : o.op = .call { callee := .builtin .append, args := #[s, x], argTypes := #[25, 25] })
    (B : Nat) (l1 l2 : List Value) (v vx : Value) (hs : a.eval s = v) (hx : a.eval x = vx) (hown : OwnR w B v l1) (hN : Rws w vx l2) (hone : ∀ u ∈ l2, u.oneCell' = true) (hl : l1.length + l2.length ≤ 4000000) (hB : B ≤ w.heap.size)
    (h : ∀ v' w', OwnR w' B v' (l1 ++ l2) → Below B w w' → wpList Try.prog ops Q rest (a.put o.dst v') w') : wpList Try.prog ops Q (o :: rest) a w := by
  obtain ⟨i0, hi, hz0, hz1, hz2⟩ := info_parts Try.infoN
  rcases hN.parts with ⟨rfl, rfl⟩ | ⟨ad, cap, rfl, hnews⟩
  · refine wpList_append_own_none hgd s x 25 ho B 24 i0 1 Try.underlying25 hi v _ _ hs hown hx ?_
    rw [List.append_nil] at h
    exact h v w hown ((Below.refl _ w).mono hB)
  · refine wpList_append_own w hgd s x 25 ho B 24 i0 (.slice none 0 0) 1 24 Try.underlying25 hi hz0 hz1 hz2 rfl (by decide) v _ _ hs hown ad l2.length cap l2 hx (by omega) hnews (hone) (by unfold maxLen; omega) (by omega) hB ?_
    intro v' w' hO hg _
    refine h v' w' ?_ (below_appR hown ((Below.refl _ w).mono hB) hB hg)
    unfold OwnR
    rw [List.length_append]
    exact hO

set_option maxRecDepth 20000 in
theorem growOwnR (n : Nat) (w : World) (hn : n ≤ 4000000) :
    Calls Try.prog 58 #[.slice none 0 0, .int .i64 n] w fun e w' => ∃ v, e = .returned v ∧ OwnR w' w.heap.size v [] ∧ Below w.heap.size w w' := by
  by_cases h0 : n = 0
  · subst h0
    exact (Any8.slices_Grow_room Try.grow2 none 0 0 0 w (Nat.le_refl _) (by omega) (by omega) (Nat.le_refl _)).mono fun e w' ⟨he, hw⟩ => by
      subst hw; exact ⟨_, he, World.ownsRow_nil _ _ _ _, Below.refl _ _⟩
  · obtain ⟨i0, hi, hz0, hz1, hz2⟩ := info_parts Try.infoN
    refine (Any8.slices_Grow_grow Try.grow2 i0 (.slice none 0 0) hi hz0 (by omega) none 0 0 n [] w (Nat.le_refl _) (by omega) (by rw [hz2]; omega) (by omega) (by simp) (fun _ => rfl) (fun a h => by cases h)).mono fun e w' ⟨he, hw⟩ => ?_
    subst hw
    have key : ∀ o, (w.drew.alloc o).heap[w.heap.size]? = some o := fun o => by
      show (w.heap.push o)[w.heap.size]? = some o
      simp
    refine ⟨_, he, ⟨rfl, Or.inr ⟨w.heap.size, _, _, rfl, Nat.le_refl _, key _, Nat.zero_le _, grownCap_le_maxLen w _ _ _ (by unfold maxLen; omega), ?_, rfl⟩⟩, (Below.refl _ w).drew.alloc (Nat.le_refl _) _⟩
    have hg := grownCap_ge w n 0 24
    change grownCap w n 0 24 ≥ n at hg
    rw [Array.size_append, Array.size_append, size_zeroCells, size_zeroCells]
    simp only [Value.cells, Nat.zero_add]
    show 0 + (n - 0) * 1 + (grownCap w n 0 24 - n) * 1 = grownCap w n 0 24 * 1
    omega

set_option maxRecDepth 20000 in
set_option maxHeartbeats 2000000 in
theorem concatR (va vb : Value) (la lb : List Value) (h : Nat) (w : World) (hla : la.length ≤ 1000000) (hlb : lb.length ≤ 1000000) (hh : h < w.heap.size) (c0 : w.cell? ⟨h, 0, none⟩ = some va) (c1 : w.cell? ⟨h, 1, none⟩ = some vb) (hA : Rws w va la) (hB : Rws w vb lb) (oA : ∀ u ∈ la, u.oneCell' = true) (oB : ∀ u ∈ lb, u.oneCell' = true) :
    Calls Try.prog 47 #[.slice (some ⟨h, 0, none⟩) 2 2] w fun e w' => ∃ v', e = .returned v' ∧ OwnR w' w.heap.size v' (la ++ lb) ∧ Below w.heap.size w w' := by
  obtain ⟨aa, ca, rfl, hA1⟩ := id hA
  obtain ⟨ab, cb, rfl, hB1⟩ := id hB
  clear hA1 hB1
  have hA' := hid hA
  have hB' := hid hB
  clear hA hB
  have G : Hid (∀ u, Calls Try.prog 58 #[.slice none 0 0, .int .i64 ((la.length : Int) + lb.length)] u fun e w' => ∃ v, e = .returned v ∧ OwnR w' u.heap.size v [] ∧ Below u.heap.size u w') := fun u => by
    have := growOwnR (la.length + lb.length) u (by omega)
    rwa [Int.natCast_add] at this
  go_enter Try.func47, Try.ntmps47
  go_wp2
  go_loop [3, 11] (fun s i => ∃ k : Nat, k ≤ 2 ∧ i = .int .i64 k ∧ s = .int .i64 (if k = 0 then 0 else if k = 1 then (la.length : Int) else (la.length : Int) + lb.length)) (fun _ i => 2 - (intOf i).toNat)
  case atStart => exact ⟨0, Nat.zero_le _, rfl, rfl⟩
  case round =>
    obtain ⟨k, hk, rfl, rfl⟩ := hrel
    have hk3 : k = 0 ∨ k = 1 ∨ k = 2 := by omega
    rcases hk3 with rfl | rfl | rfl
    · have hz : ¬ ((la.length : Int) < 0) := by omega
      go_wp2
      go_round
      case rel => exact ⟨1, by omega, by go_num, by simp⟩
      case measure => simp [intOf]
    · have hz : ¬ ((la.length : Int) + (lb.length : Int) < 0) := by omega
      have hw1 : IntKind.i64.wrap ((la.length : Int) + (lb.length : Int)) = (la.length : Int) + (lb.length : Int) := by rw [IntKind.wrap_i64]; omega
      go_wp2
      go_round
      case rel => exact ⟨2, by omega, by go_num, by simp⟩
      case measure => simp [intOf]
    · simp only [show ¬ (2 : Nat) = 0 by decide, show ¬ (2 : Nat) = 1 by decide, if_false]
      go_wp2_with (go_at_call 58; refine (G.out _).mono ?_; rintro e w1 ⟨v1, rfl, hO1, hb1⟩)
      go_loopw [6, 27] (fun v i wr => ∃ k : Nat, k ≤ 2 ∧ i = .int .i64 k ∧ OwnR wr w.heap.size v (if k = 0 then [] else if k = 1 then la else la ++ lb) ∧ Below w.heap.size w wr) (fun _ i _ => 2 - (intOf i).toNat)
      case atStart => exact ⟨0, Nat.zero_le _, rfl, hO1, hb1⟩
      case round =>
        obtain ⟨k, hk, rfl, hO, hbl⟩ := hrel
        have d0 := (hbl.cell hh).trans c0
        have d1 := (hbl.cell hh).trans c1
        have hA2 := hid (hA'.out.keep hbl)
        have hB2 := hid (hB'.out.keep hbl)
        have hsz := hbl.size
        have hk3 : k = 0 ∨ k = 1 ∨ k = 2 := by omega
        rcases hk3 with rfl | rfl | rfl
        · have hO' : OwnR wr w.heap.size u6 [] := hO
          clear hO
          go_wp2_with (at_builtin; refine wp_appR _ rfl _ _ rfl w.heap.size [] la _ _ rfl rfl hO' hA2.out oA (by simp; omega) hsz ?_; intro v' w2 hO2 hb2)
          go_wp2
          go_roundw
          case rel => exact ⟨1, by omega, by go_num, hO2, hbl.trans hb2⟩
          case measure => simp [intOf]
        · have hO' : OwnR wr w.heap.size u6 la := hO
          clear hO
          go_wp2_with (at_builtin; refine wp_appR _ rfl _ _ rfl w.heap.size la lb _ _ rfl rfl hO' hB2.out oB (by omega) hsz ?_; intro v' w2 hO2 hb2)
          go_wp2
          go_roundw
          case rel => exact ⟨2, by omega, by go_num, hO2, hbl.trans hb2⟩
          case measure => simp [intOf]
        · have hO' : OwnR wr w.heap.size u6 (la ++ lb) := hO
          clear hO
          go_wp2
          go_ret
          exact ⟨_, rfl, hO', hbl⟩

end Go.Proofs.Ytgbecehggdkkmaa
