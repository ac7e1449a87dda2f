/- spots.Of: small facts. spots.Of, of a right rule. The maths of layer 8: states of rules, and what they are behind a text. The maths of layer 8: the automaton of the states that are met. -/
import Derived.Test.YtonlcnmlklaicaaGreatDoorJ15
import Derived.Test.YtonlcnmlklaicaaGreatDoorJ12
import Derived.BigRegion
import Derived.Deep.RegionHeld3
namespace Go.Proofs.YtonlcnmlklaicaaGreatDoor
open Go.RowKit

theorem own_shape {w : World} {B n size : Nat} {e : TypeId} {v : Value} {xs : List Value} (h : w.ownsRow B e size v n xs) : ∃ a c, v = .slice a n c := by
  rcases h.2 with ⟨rfl, h0⟩ | ⟨g, cap, cur, rfl, _⟩
  · exact ⟨none, 0, by rw [h0]⟩
  · exact ⟨_, _, rfl⟩
theorem bstep {B : Nat} {W w u : World} (h : Below B W w) (hu : Below w.heap.size w u) (hB : B ≤ w.heap.size) : Below B W u := h.trans (hu.mono hB)
theorem bgrow {B : Nat} {W u w' : World} {r : Option Nat} (h : Below B W u) (hg : u.grownBy w' r) (hB : B ≤ u.heap.size) (hr : ∀ k, r = some k → B ≤ k) : Below B W w' :=
  h.trans ((Kept.of_grown hg).below (fun k e => hr k e) hB)
theorem grown_blk {u w' : World} {r : Option Nat} {b : Nat} {x : Obj} (hg : u.grownBy w' r) (hx : u.heap[b]? = some x) (hr : r ≠ some b) : w'.heap[b]? = some x := (Kept.of_grown hg).blk hx hr

theorem set_size (w : World) (a : Addr) (v : Value) : (w.setCell a v).heap.size = w.heap.size := by simp
theorem heap_new_set (w : World) (a : Addr) (v : Value) (o : Obj) : ((w.setCell a v).alloc o).heap[w.heap.size]? = some o := by
  have h := heap_new (w.setCell a v) o
  rw [set_size] at h
  exact h

theorem setsL_post : ∀ (t : Rx) (S : W4), S ∈ setsL t → (⟨1, S⟩ : Cel) ∈ post t
  | .set T, S, h => by simp [setsL] at h; subst h; simp [post]
  | .eps, S, h => by simp [setsL] at h
  | .cat a b, S, h => by
    simp only [setsL, List.mem_append] at h
    simp only [post, List.mem_append]
    rcases h with h | h
    · exact Or.inl (setsL_post a S h)
    · exact Or.inr (Or.inl (setsL_post b S h))
  | .or a b, S, h => by
    simp only [setsL, List.mem_append] at h
    simp only [post, List.mem_append]
    rcases h with h | h
    · exact Or.inl (setsL_post a S h)
    · exact Or.inr (Or.inl (setsL_post b S h))
  | .star a, S, h => by
    simp only [post, List.mem_append]
    exact Or.inl (setsL_post a S h)
  | .plus a, S, h => by
    simp only [post, List.mem_append]
    exact Or.inl (setsL_post a S h)
  | .opt a, S, h => by
    simp only [post, List.mem_append]
    exact Or.inl (setsL_post a S h)
theorem setsS_eps (st : List Rx) : setsS (.eps :: st) = setsS st := by simp [setsS, setsL]
theorem two_top {st : List Rx} (h : (2 : Int) ≤ (st.length : Int)) : ∃ b a r, st = b :: a :: r := by
  match st, h with
  | b :: a :: r, _ => exact ⟨b, a, r, rfl⟩
  | [_], h => simp at h
  | [], h => simp at h
theorem one_top {st : List Rx} (h : (1 : Int) ≤ (st.length : Int)) : ∃ a r, st = a :: r := by
  match st, h with
  | a :: r, _ => exact ⟨a, r, rfl⟩
  | [], h => simp at h
theorem own_form3 {w : World} {B n size : Nat} {e : TypeId} {v : Value} {xs : List Value} (h : w.ownsRow B e size v n xs) (hn : 0 < n) : ∃ g cap, v = .slice (some ⟨g, 0, none⟩) n cap ∧ n ≤ cap := by
  rcases h.2 with ⟨rfl, h0⟩ | ⟨g, cap, cur, rfl, _, _, hc, _⟩
  · omega
  · exact ⟨g, cap, rfl, hc⟩
theorem OfM.push' {B pb n : Nat} {F : Nat → Prop} {u w' : World} {sv gv ov : Value} {S : List W4} {gs : List Value} {fl : List (List Int)} {st : List Rx} {xs : List Value} (h : OfM B pb F n u sv gv ov S gs fl st xs) {g cap : Nat} {t : Rx} {fv lv : Value} {nb : Bool} {f l : List Int} (hn : nb = t.null) (hf : f = firstL t (nS st)) (hl : l = lastL t (nS st)) (hp : PtV F u fv lv f l)
    (ho : w'.ownsRow B 109 3 (.slice (some ⟨g, 0, none⟩) (st.length + 1) cap) (st.length + 1) (xs ++ [.bool nb, fv, lv])) (hg : u.grownBy w' ov.ownBlock) (hat : ov.ownBlock = some g ∨ g = u.heap.size) :
    OfM B pb (fun k => F k ∨ k = g) n w' sv gv (.slice (some ⟨g, 0, none⟩) (st.length + 1) cap) S gs fl (t :: st) (xs ++ [.bool nb, fv, lv]) := by
  subst hn hf hl
  exact h.push hp ho hg hat
theorem OfM.put' {B pb n : Nat} {F : Nat → Prop} {w : World} {sv gv : Value} {S : List W4} {gs : List Value} {fl : List (List Int)} {a t : Rx} {r : List Rx} {ys : List Value} {x0 x1 x2 fv lv : Value} {g cap : Nat} {nb : Bool} (h : OfM B pb F n w sv gv (.slice (some ⟨g, 0, none⟩) (r.length + 1) cap) S gs fl (a :: r) (ys ++ [x0, x1, x2])) (hn : nb = t.null) (hl : ys.length = r.length * 3) (hr : PtS F w r ys) (hp : PtV F w fv lv (firstL t (nS r)) (lastL t (nS r))) :
    OfM B pb F n (((w.setCell ⟨g, r.length * 3, none⟩ (.bool nb)).setCell ⟨g, r.length * 3 + 1, none⟩ fv).setCell ⟨g, r.length * 3 + 2, none⟩ lv) sv gv (.slice (some ⟨g, 0, none⟩) (r.length + 1) cap) S gs fl (t :: r) (ys ++ [.bool nb, fv, lv]) := by
  subst hn
  exact h.put hl hr hp

end Go.Proofs.YtonlcnmlklaicaaGreatDoor
namespace Go.Proofs.YtonlcnmlklaicaaGreatDoor
open Go.RowKit

set_option maxRecDepth 20000 in
set_option maxHeartbeats 8000000 in
theorem sofGood (v : Value) (t : Rx) (w : World) (hA : Cels w v (post t)) (ho : t.ok) (h60 : (post t).length ≤ 60) :
    Calls Tryz.prog 35 #[v] w fun e w' => ∃ sv fv lv gv fl, e = .returned (.tuple #[.agg #[sv, .bool t.null, fv, lv, gv], .int .i64 0]) ∧ SpVF (fun k => k < w.heap.size) w' sv fv lv gv ⟨setsS [t], t.null, firstL t 0, lastL t 0, fl⟩ ∧ FolOK (FolS [t]) (nS [t]) fl ∧ Below w.heap.size w w' := by
  have hb0 := al' w (.cells #[nilV, .bool false, nilV, nilV, nilV] 88)
  have hrt := right_post ho h60
  have G := hid (rightP v _ _ (hA.keep hb0))
  rw [hrt] at G
  have hq := heap_new w (.cells #[nilV, .bool false, nilV, nilV, nilV] 88)
  have hb0 := hid hb0
  have hfit : Hid (∀ S ∈ setsS [t], Fit4 S) := hid (fun S hS => by obtain ⟨_, _, _, _, _, hF, _⟩ := hA; exact (hF _ (setsL_post t S (by simpa [setsS] using hS))).3)
  have hend : Hid (stK (post t) (post t).length = [t]) := hid (stK_end t)
  obtain ⟨l, hl⟩ : ∃ l, l = post t := ⟨_, rfl⟩
  rw [← hl] at hA hrt hend h60
  have hpos : 0 < l.length := by rw [hl]; exact post_pos t
  obtain ⟨av, cv, rfl, _, _, hFl, hAt⟩ := hA
  have hAt := hid hAt
  have hFl := hid hFl
  have hsuc := hid (fun k (hk : k < l.length) => stK_succ l k hk)
  have hwan := hid (fun k (hk : k < l.length) => stK_wants hrt k hk)
  have hns := hid (fun k (hk : k ≤ l.length) => nS_stK hrt k hk)
  obtain ⟨iP, hiP, zP0, zP1, zP2⟩ := info_parts Tryz.infoP
  obtain ⟨iS, hiS, zS0, zS1, zS2⟩ := info_parts Tryz.infoS4
  obtain ⟨iN, hiN, zN0, zN1, zN2⟩ := info_parts Tryz.infoN
  have hstart : Hid (stK l 0 = []) := hid rfl
  clear ho hrt hl
  go_enter Tryz.func35, Tryz.ntmps35
  go_wp2_with (go_at_call 49; refine G.out.mono ?_; rintro e w1 ⟨rfl, hb1⟩)
  have hM0 := hid (OfM.start w1 w.heap.size (Nat.lt_of_lt_of_le (by simp) hb1.size))
  have hbw : Hid (Below w.heap.size w (w1.alloc (.cells #[nilV, .bool false, nilV, nilV, nilV] 88))) := hid (bl_step (bl_step hb0.out hb1) (al' w1 _))
  have hqr := hid (hs_keep (hs_keep hq hb1) (al' w1 (.cells #[nilV, .bool false, nilV, nilV, nilV] 88)))
  have hpb : w.heap.size < w1.heap.size := Nat.lt_of_lt_of_le (by simp) hb1.size
  have hpl : Hid (w1.heap.size < (w1.alloc (.cells #[nilV, .bool false, nilV, nilV, nilV] 88)).heap.size) := hid (by simp)
  clear G hb0 hq hb1
  generalize w1.alloc (.cells #[nilV, .bool false, nilV, nilV, nilV] 88) = W0 at hM0 hbw hqr hpl ⊢
  generalize w1.heap.size = pb at hM0 hpb hpl ⊢
  clear w1
  go_loopw [6, 18] (fun ov i wr => ∃ (k : Nat) (F : Nat → Prop) (sv gv : Value) (gs : List Value) (fl : List (List Int)) (xs : List Value), k ≤ l.length ∧ i = .int .i64 k ∧ Hid (OfM pb pb F (nS (stK l k)) wr sv gv ov (setsS (stK l k)) gs fl (stK l k) xs) ∧ Hid (FolOK (FolS (stK l k)) (nS (stK l k)) fl) ∧ Hid (LowF w.heap.size F) ∧ Below pb W0 wr) (fun _ i _ => l.length - (intOf i).toNat)
  case atStart => exact ⟨0, _, _, _, _, _, _, Nat.zero_le _, rfl, hM0, hid folOK_start, hid (fun _ h => Or.inr h), (Below.refl _ _).mono (Nat.le_of_lt hpl.out)⟩
  case round =>
    obtain ⟨k, F, sv, gv, gs, fl, xs, hk, rfl, hM, hFol, hX, hbl⟩ := hrel
    have hnk := hns.out k hk
    have hblw := hid (hbw.out.trans (hbl.mono (Nat.le_of_lt hpb)))
    have hpw : Hid (pb ≤ wr.heap.size) := hid hM.out.lk.base
    by_cases hlt : k < l.length
    · have hltz : (k : Int) < (l.length : Int) := by omega
      obtain ⟨b', o', rfl, hb', hat0⟩ := hAt.out k hlt
      have hat := hat0.keep hblw.out
      clear hat0
      have hw := hwan.out k hlt
      have hsu := hid (hsuc.out k hlt)
      have hfc := hid (hFl.out _ (List.getElem_mem hlt))
      generalize stK l k = st at hM hFol hnk hw hsu
      generalize l[k] = c at hat hw hsu hfc
      obtain ⟨op, S⟩ := c
      obtain ⟨sa, sb, sc, sd⟩ := S
      obtain ⟨d0, d1, d2, d3, d4⟩ := hat
      simp only at d0 d1 d2 d3 d4 hw
      have hc0 := heap_new wr (.cells #[.int .i64 op, .int .u64 (sa : Int), .int .u64 (sb : Int), .int .u64 (sc : Int), .int .u64 (sd : Int)] 67)
      obtain ⟨q0, q1, q2, q3, q4⟩ := cells5 hc0
      have hcb := hid hc0
      clear hc0
      rcases wants_cases op hw.1 with ⟨rfl, hwo⟩ | ⟨rfl, hwo⟩ | ⟨rfl, hwo⟩ | ⟨rfl, hwo⟩ | ⟨rfl, hwo⟩ | ⟨rfl, hwo⟩ | ⟨rfl, hwo⟩
      · have hst : Hid (stK l (k + 1) = .set ⟨sa, sb, sc, sd⟩ :: st) := hid (by rw [hsu.out]; simp [stepS])
        obtain ⟨oa, oc, hov⟩ := own_shape hM.out.own
        subst hov
        obtain ⟨sva, svc, rfl⟩ := own_shape hM.out.sets
        have hgv := own_shape hM.out.lk.own
        obtain ⟨gva, gvc, rfl⟩ := hgv
        have hgl : gs.length ≤ 60 := by rw [hM.out.lk.len]; omega
        have hsl := hid (setsS_len st)
        have hs60 : (setsS st).length ≤ 60 := by rw [hsl.out]; omega
        have M1 := hid (hM.out.keep (al' wr (.cells #[.int .i64 1, .int .u64 (sa : Int), .int .u64 (sb : Int), .int .u64 (sc : Int), .int .u64 (sd : Int)] 67)))
        obtain ⟨p0, p1, p2, p3, p4, -⟩ := cells5s M1.out.blk
        have hFl1 : Hid (∀ k, F k → k < (wr.alloc (.cells #[.int .i64 1, .int .u64 (sa : Int), .int .u64 (sb : Int), .int .u64 (sc : Int), .int .u64 (sd : Int)] 67)).heap.size) := hid (fun k e => M1.out.lk.lt k e)
        have hB1 := hid (bstep hbl (al' wr (.cells #[.int .i64 1, .int .u64 (sa : Int), .int .u64 (sb : Int), .int .u64 (sc : Int), .int .u64 (sd : Int)] 67)) hpw.out)
        have GS := hid (fun u => spotP ((setsS st).length : Int) u)
        have hst60 : st.length ≤ 60 := by omega
        have hcl : wr.heap.size < (wr.alloc (.cells #[.int .i64 1, .int .u64 (sa : Int), .int .u64 (sb : Int), .int .u64 (sc : Int), .int .u64 (sd : Int)] 67)).heap.size := by simp
        have hcn : Hid (∀ k, F k → k ≠ wr.heap.size) := hid (fun k e => by have := hM.out.lk.lt k e; omega)
        have hnn : nS st + 1 ≤ 60 := by omega
        go_wp2_with (first
          | (at_builtin; refine wpList_append_lies _ (by rfl) _ _ _ (by rfl) pb 23 iN (.slice none 0 0) 1 24 Tryz.underlying22 hiN zN0 zN1 zN2 rfl (by decide) (.slice gva gs.length gvc) gs.length gs (by rfl) M6.out.lk.own ⟨w3.heap.size, 0, none⟩ 1 1 [.slice none 0 0] (by rfl) (by rfl) (World.news_of_block (heap_new_set w3 _ _ (.cells #[.slice none 0 0] 23))) (by simp [Value.oneCell']) (by omega) (by (unfold maxLen); omega) (by omega) (M6.out.lk.base) (World.heap ((w3.setCell ⟨pb, 0, none⟩ (.slice (some ⟨g3, 0, none⟩) ((setsS st).length + 1) cap3)).alloc (.cells #[.slice none 0 0] 23))).size rfl ?_; intro g4 cap4 w4 hown4 hgrow4 hat4 hlt4; have M7 := hid (M6.out.addFol hnn hown4 hgrow4 hat4); have hb4 := grown_blk hgrow4 M6.out.blk (fun e => (M6.out.lk.row _ e).2 rfl); obtain ⟨y0, y1, y2, y3, y4, v0, v1, v2, v3, v4⟩ := cells5s hb4; have hB7 := hid (bl_set (bgrow hB6.out hgrow4 M6.out.lk.base (fun k e => (M6.out.lk.own.lt k e).1)) pb 4 (.slice (some ⟨g4, 0, none⟩) (gs.length + 1) cap4) (Nat.le_refl _)); clear hb4 x0 x1 x2 x3 x4 hgrow4 hown4)
          | (at_builtin; refine wpList_append_lies _ (by rfl) _ _ _ (by rfl) pb 65 iS (.agg #[.int .u64 0, .int .u64 0, .int .u64 0, .int .u64 0]) 4 32 Tryz.underlying68 hiS zS0 zS1 zS2 rfl (by decide) (.slice sva (setsS st).length svc) (setsS st).length (flatS (setsS st)) (by rfl) M4.out.sets ⟨w2.heap.size, 0, none⟩ 1 1 [.int .u64 (sa : Int), .int .u64 (sb : Int), .int .u64 (sc : Int), .int .u64 (sd : Int)] (by rfl) (by rfl) (World.news_of_block (heap_new w2 (.cells #[.int .u64 (sa : Int), .int .u64 (sb : Int), .int .u64 (sc : Int), .int .u64 (sd : Int)] 65))) (by simp [Value.oneCell']) (by omega) (by (unfold maxLen); omega) (by omega) (M4.out.lk.base) (World.heap (w2.alloc (.cells #[.int .u64 (sa : Int), .int .u64 (sb : Int), .int .u64 (sc : Int), .int .u64 (sd : Int)] 65))).size rfl ?_; intro g3 cap3 w3 hown3 hgrow3 hat3 hlt3; have M5 := hid (M4.out.addSet (T := ⟨sa, sb, sc, sd⟩) hown3 hgrow3 hat3); have hb3 := grown_blk hgrow3 M4.out.blk (fun e => (M4.out.sF _ e).2.1 rfl); obtain ⟨s0, s1, s2, s3, s4, t0, t1, t2, t3, t4⟩ := cells5s hb3; have hB5 := hid (bl_set (bgrow hB4.out hgrow3 M4.out.lk.base (fun k e => (M4.out.sets.lt k e).1)) pb 0 (.slice (some ⟨g3, 0, none⟩) ((setsS st).length + 1) cap3) (Nat.le_refl _)); obtain ⟨x0, x1, x2, x3, x4, -⟩ := cells5s M5.out.blk; have M6 := hid (M5.out.keep (al' (w3.setCell ⟨pb, 0, none⟩ (.slice (some ⟨g3, 0, none⟩) ((setsS st).length + 1) cap3)) (.cells #[.slice none 0 0] 23))); have hB6 := hid (bstep hB5.out (al' (w3.setCell ⟨pb, 0, none⟩ (.slice (some ⟨g3, 0, none⟩) ((setsS st).length + 1) cap3)) (.cells #[.slice none 0 0] 23)) M5.out.lk.base); clear hb3 r0 r1 r2 r3 r4 Q0 Q1 Q2 Q3 Q4 hgrow3 hown3)
          | (at_builtin; refine wpList_append_lies _ (by rfl) _ _ _ (by rfl) pb 109 iP (.agg #[.bool false, .slice none 0 0, .slice none 0 0]) 3 56 Tryz.underlying107 hiP zP0 zP1 zP2 rfl (by decide) (.slice oa st.length oc) st.length xs (by rfl) M2.out.own ⟨w1.heap.size, 0, none⟩ 1 1 [.bool false, .slice xa 1 xc, .slice ya 1 yc] (by rfl) (by rfl) (World.news_of_block (heap_new w1 (.cells #[.bool false, .slice xa 1 xc, .slice ya 1 yc] 109))) (by simp [Value.oneCell']) (by omega) (by (unfold maxLen); omega) (by omega) (M2.out.lk.base) (World.heap (w1.alloc (.cells #[.bool false, .slice xa 1 xc, .slice ya 1 yc] 109))).size rfl ?_; intro g2 cap2 w2 hown2 hgrow2 hat2 hlt2; have M3 := hid (M2.out.push (t := .set ⟨sa, sb, sc, sd⟩) hp2.out hown2 hgrow2 hat2); have hB3 := hid (bgrow hB2.out hgrow2 M2.out.lk.base (fun k e => (M2.out.own.lt k e).1)); have hc3 := hid (grown_blk hgrow2 hc2.out (fun e => hcn.out _ (M2.out.oF _ e).1 rfl)); obtain ⟨Q0, Q1, Q2, Q3, Q4⟩ := cells5 hc3.out; obtain ⟨r0, r1, r2, r3, r4, -⟩ := cells5s M3.out.blk; have M4 := hid (M3.out.keep (al' w2 (.cells #[.int .u64 (sa : Int), .int .u64 (sb : Int), .int .u64 (sc : Int), .int .u64 (sd : Int)] 65))); have hB4 := hid (bstep hB3.out (al' w2 (.cells #[.int .u64 (sa : Int), .int .u64 (sb : Int), .int .u64 (sc : Int), .int .u64 (sd : Int)] 65)) M3.out.lk.base); clear q0 q1 q2 q3 q4 p0 p1 p2 p3 p4 hgrow2 hown2)
          | (go_at_call 52; refine (GS.out _).mono ?_; rintro e w1 ⟨fv, lv, rfl, hO1, hO2, hb1⟩; obtain ⟨xa, xc, e1, hx⟩ := id (Nums.of_row hO1); obtain ⟨ya, yc, e2, hy⟩ := id (Nums.of_row hO2); clear hx hy; have e1' : fv = .slice xa 1 xc := e1; have e2' : lv = .slice ya 1 yc := e2; clear e1 e2; subst e1'; subst e2'; have M2 := hid ((M1.out.keep hb1).keep (al' w1 (.cells #[.bool false, .slice xa 1 xc, .slice ya 1 yc] 109))); have hp2 : Hid (PtV F (w1.alloc (.cells #[.bool false, .slice xa 1 xc, .slice ya 1 yc] 109)) (.slice xa 1 xc) (.slice ya 1 yc) (firstL (.set ⟨sa, sb, sc, sd⟩) (nS st)) (lastL (.set ⟨sa, sb, sc, sd⟩) (nS st))) := hid (by (rw [hsl.out] at hO1 hO2; exact PtV.keep ⟨Nums.of_row hO1, Off.new hO1 hFl1.out, Nums.of_row hO2, Off.new hO2 hFl1.out⟩ (al' w1 (.cells #[.bool false, .slice xa 1 xc, .slice ya 1 yc] 109)))); have hB2 := hid (bstep hB1.out (bl_step hb1 (al' w1 (.cells #[.bool false, .slice xa 1 xc, .slice ya 1 yc] 109))) M1.out.lk.base); have hc2 := hid (hs_keep (hs_keep hcb.out hb1) (al' w1 (.cells #[.bool false, .slice xa 1 xc, .slice ya 1 yc] 109)))))
        go_roundw
        case rel => exact ⟨k + 1, _, _, _, _, _, _, by omega, by go_num, hid (by rw [hst.out]; exact M7.out), hid (by rw [hst.out]; exact (hFol.out.more (fun j k h => (folS_in st j k h).1)).congr (fun j k _ => (folS_set _ st j k).symm)), hid (hX.out.up fun _ h => Or.inl (Or.inl (Or.inl h))), hB7.out⟩
        case measure => simp [intOf]; omega
      · have hst : Hid (stK l (k + 1) = .eps :: st) := hid (by rw [hsu.out]; simp [stepS])
        obtain ⟨oa, oc, hov⟩ := own_shape hM.out.own
        subst hov
        have hst60 : st.length ≤ 60 := by omega
        have M1 := hid ((hM.out.keep (al' wr (.cells #[.int .i64 2, .int .u64 (sa : Int), .int .u64 (sb : Int), .int .u64 (sc : Int), .int .u64 (sd : Int)] 67))).keep (al' (wr.alloc (.cells #[.int .i64 2, .int .u64 (sa : Int), .int .u64 (sb : Int), .int .u64 (sc : Int), .int .u64 (sd : Int)] 67)) (.cells #[.bool true, .slice none 0 0, .slice none 0 0] 109)))
        have hB1 := hid (bstep hbl (bl_step (al' wr (.cells #[.int .i64 2, .int .u64 (sa : Int), .int .u64 (sb : Int), .int .u64 (sc : Int), .int .u64 (sd : Int)] 67)) (al' (wr.alloc (.cells #[.int .i64 2, .int .u64 (sa : Int), .int .u64 (sb : Int), .int .u64 (sc : Int), .int .u64 (sd : Int)] 67)) (.cells #[.bool true, .slice none 0 0, .slice none 0 0] 109))) hpw.out)
        have hN1 := hid (two_blocks wr (.cells #[.int .i64 2, .int .u64 (sa : Int), .int .u64 (sb : Int), .int .u64 (sc : Int), .int .u64 (sd : Int)] 67) (.cells #[.bool true, .slice none 0 0, .slice none 0 0] 109)).2
        go_wp2_with (at_builtin; refine wpList_append_lies _ (by rfl) _ _ _ (by rfl) pb 109 iP (.agg #[.bool false, .slice none 0 0, .slice none 0 0]) 3 56 Tryz.underlying107 hiP zP0 zP1 zP2 rfl (by decide) (.slice oa st.length oc) st.length xs (by rfl) M1.out.own ⟨wr.heap.size + 1, 0, none⟩ 1 1 [.bool true, .slice none 0 0, .slice none 0 0] (by rfl) (by rfl) (World.news_of_block hN1.out) (by simp [Value.oneCell']) (by omega) (by (unfold maxLen); omega) (by omega) (M1.out.lk.base) (World.heap ((wr.alloc (.cells #[.int .i64 2, .int .u64 (sa : Int), .int .u64 (sb : Int), .int .u64 (sc : Int), .int .u64 (sd : Int)] 67)).alloc (.cells #[.bool true, .slice none 0 0, .slice none 0 0] 109))).size rfl ?_; intro g2 cap2 w2 hown2 hgrow2 hat2 hlt2; have M2 := hid (M1.out.push (t := .eps) ⟨Nums.nil _, Off.nil _, Nums.nil _, Off.nil _⟩ hown2 hgrow2 hat2); have hB2 := hid (bgrow hB1.out hgrow2 M1.out.lk.base (fun k e => (M1.out.own.lt k e).1)); clear hgrow2 hown2)
        go_roundw
        case rel => exact ⟨k + 1, _, _, _, _, _, _, by omega, by go_num, hid (by rw [hst.out, setsS_eps]; exact M2.out), hid (by rw [hst.out]; exact hFol.out.congr (fun j k _ => (folS_eps st j k).symm)), hid (hX.out.up fun _ h => Or.inl h), hB2.out⟩
        case measure => simp [intOf]; omega
      · obtain ⟨b, a, r, rfl⟩ := two_top (by rw [hwo] at hw; exact hw.2)
        have hst : Hid (stK l (k + 1) = (.cat a b) :: r) := hid (by rw [hsu.out]; simp [stepS])
        obtain ⟨ys, fb, lb, hxs, ⟨zs, fa, la, hys, hpr, hpa⟩, hpb'⟩ := hM.out.pts
        subst hys
        subst hxs
        have hzl := hpr.len
        obtain ⟨g, cap, hov, hcap⟩ := own_form3 hM.out.own (by simp)
        subst hov
        have hr60 : r.length + 2 ≤ 60 := by have := hnk.2; simp at this; omega
        have hM : Hid (OfM pb pb F (nS (b :: a :: r)) wr sv gv (.slice (some ⟨g, 0, none⟩) (r.length + 2) cap) (setsS (b :: a :: r)) gs fl (b :: a :: r) (zs ++ [.bool a.null, fa, la] ++ [.bool b.null, fb, lb])) := hM
        have hcap2 : r.length + 2 ≤ cap := by simpa using hcap
        have hnn : nS (b :: a :: r) ≤ 60 := by have := hnk.1; omega
        have hnab : nS r + nSets a + nSets b = nS (b :: a :: r) := rfl
        have M1 := hid ((hM.out.keep (al' wr (.cells #[.int .i64 3, .int .u64 (sa : Int), .int .u64 (sb : Int), .int .u64 (sc : Int), .int .u64 (sd : Int)] 67))).keep ((Below.refl _ _).drew : Below _ (wr.alloc (.cells #[.int .i64 3, .int .u64 (sa : Int), .int .u64 (sb : Int), .int .u64 (sc : Int), .int .u64 (sd : Int)] 67)) (wr.alloc (.cells #[.int .i64 3, .int .u64 (sa : Int), .int .u64 (sb : Int), .int .u64 (sc : Int), .int .u64 (sd : Int)] 67)).drew))
        have hB1 := hid (bstep hbl (bl_step (al' wr (.cells #[.int .i64 3, .int .u64 (sa : Int), .int .u64 (sb : Int), .int .u64 (sc : Int), .int .u64 (sd : Int)] 67)) ((Below.refl _ _).drew : Below _ (wr.alloc (.cells #[.int .i64 3, .int .u64 (sa : Int), .int .u64 (sb : Int), .int .u64 (sc : Int), .int .u64 (sd : Int)] 67)) (wr.alloc (.cells #[.int .i64 3, .int .u64 (sa : Int), .int .u64 (sb : Int), .int .u64 (sc : Int), .int .u64 (sd : Int)] 67)).drew)) hpw.out)
        have hk1 : Hid (Below wr.heap.size wr (wr.alloc (.cells #[.int .i64 3, .int .u64 (sa : Int), .int .u64 (sb : Int), .int .u64 (sc : Int), .int .u64 (sd : Int)] 67)).drew) := hid (bl_step (al' wr (.cells #[.int .i64 3, .int .u64 (sa : Int), .int .u64 (sb : Int), .int .u64 (sc : Int), .int .u64 (sd : Int)] 67)) ((Below.refl _ _).drew : Below _ (wr.alloc (.cells #[.int .i64 3, .int .u64 (sa : Int), .int .u64 (sb : Int), .int .u64 (sc : Int), .int .u64 (sd : Int)] 67)) (wr.alloc (.cells #[.int .i64 3, .int .u64 (sa : Int), .int .u64 (sb : Int), .int .u64 (sc : Int), .int .u64 (sd : Int)] 67)).drew))
        have pA := hid (hpa.keep hk1.out)
        have pB := hid (hpb'.keep hk1.out)
        have hprk := hid (hpr.kept (Kept.of_below (F := F) hk1.out))
        obtain ⟨fa1, fa2, rfl⟩ : ∃ x y, fa = .slice x (firstL a (nS r)).length y := by obtain ⟨x, y, e, _⟩ := hpa.first; exact ⟨x, y, e⟩
        obtain ⟨la1, la2, rfl⟩ : ∃ x y, la = .slice x (lastL a (nS r)).length y := by obtain ⟨x, y, e, _⟩ := hpa.last; exact ⟨x, y, e⟩
        obtain ⟨fb1, fb2, rfl⟩ : ∃ x y, fb = .slice x (firstL b (nS (a :: r))).length y := by obtain ⟨x, y, e, _⟩ := hpb'.first; exact ⟨x, y, e⟩
        obtain ⟨lb1, lb2, rfl⟩ : ∃ x y, lb = .slice x (lastL b (nS (a :: r))).length y := by obtain ⟨x, y, e, _⟩ := hpb'.last; exact ⟨x, y, e⟩
        have l1 : (lastL a (nS r)).length ≤ 60 := Nat.le_trans (lastL_len a _) (by omega)
        have l2 : (firstL b (nS (a :: r))).length ≤ 60 := Nat.le_trans (firstL_len b _) (by omega)
        have l3 : (firstL a (nS r)).length ≤ 60 := Nat.le_trans (firstL_len a _) (by omega)
        have l4 : (lastL b (nS (a :: r))).length ≤ 60 := Nat.le_trans (lastL_len b _) (by omega)
        have hla : InN (lastL a (nS r)) (nS (b :: a :: r)) := lastL_in a _ _ (by omega)
        have hfb : InN (firstL b (nS (a :: r))) (nS (b :: a :: r)) := firstL_in b _ _ (Nat.le_of_eq rfl)
        have GJ := hid (joinedCat F pb pb (nS (b :: a :: r)) gv _ _ _ _ a.null b.null _ _ _ _ gs fl _ M1.out.lk pA.out pB.out hla l1 hfb l2 l3 l4)
        have hFol2 : Hid (FolOK (FolS ((.cat a b) :: r)) (nS (b :: a :: r)) (linkL fl (firstL b (nS (a :: r))) (lastL a (nS r)))) := hid ((hFol.out.link (lastL_mem a (nS r)) (fun k hk => by have := lst_in a _ k hk; omega) (firstL_mem b (nS (a :: r)))).congr fun j k _ => (folS_cat a b r j k).symm)
        obtain ⟨rf, hrf⟩ : ∃ rf, Hid (rf = firstL (.cat a b) (nS r)) := ⟨_, hid rfl⟩
        obtain ⟨rl, hrl⟩ : ∃ rl, Hid (rl = lastL (.cat a b) (nS r)) := ⟨_, hid rfl⟩
        obtain ⟨rn, hrn⟩ : ∃ rn : Bool, Hid (rn = Rx.null (.cat a b)) := ⟨_, hid rfl⟩
        rw [show (if a.null = true then unionL (firstL a (nS r)) (firstL b (nS (a :: r))) else firstL a (nS r)) = rf from hrf.out.symm, show (if b.null = true then unionL (lastL a (nS r)) (lastL b (nS (a :: r))) else lastL b (nS (a :: r))) = rl from (lastL_cat a b (nS r)).symm.trans hrl.out.symm, show (a.null && b.null) = rn from (Bool.and_comm _ _).trans hrn.out.symm] at GJ
        have hcells : Hid (∀ (u : World) (v : Value) (j : Nat), u.ownsRow pb 109 3 (.slice (some ⟨g, 0, none⟩) (r.length + 2) cap) (r.length + 2) (zs ++ [.bool a.null, .slice fa1 (firstL a (nS r)).length fa2, .slice la1 (lastL a (nS r)).length la2] ++ [.bool b.null, .slice fb1 (firstL b (nS (a :: r))).length fb2, .slice lb1 (lastL b (nS (a :: r))).length lb2]) → j < 6 → ([.bool a.null, .slice fa1 (firstL a (nS r)).length fa2, .slice la1 (lastL a (nS r)).length la2, .bool b.null, .slice fb1 (firstL b (nS (a :: r))).length fb2, .slice lb1 (lastL b (nS (a :: r))).length lb2] : List Value)[j]? = some v → u.cell? ⟨g, r.length * 3 + j, none⟩ = some v) := hid (fun u v j h hj hv => by
          rw [h.cellAt _ (by omega), List.append_assoc, List.getElem?_append_right (by omega), hzl, Nat.add_sub_cancel_left]
          exact hv)
        have k0 : (wr.alloc (.cells #[.int .i64 3, .int .u64 (sa : Int), .int .u64 (sb : Int), .int .u64 (sc : Int), .int .u64 (sd : Int)] 67)).drew.cell? ⟨g, r.length * 3, none⟩ = some (.bool a.null) := hcells.out _ _ 0 M1.out.own (by omega) rfl
        have k1 : (wr.alloc (.cells #[.int .i64 3, .int .u64 (sa : Int), .int .u64 (sb : Int), .int .u64 (sc : Int), .int .u64 (sd : Int)] 67)).drew.cell? ⟨g, r.length * 3 + 1, none⟩ = some (.slice fa1 (firstL a (nS r)).length fa2) := hcells.out _ _ 1 M1.out.own (by omega) rfl
        have k2 : (wr.alloc (.cells #[.int .i64 3, .int .u64 (sa : Int), .int .u64 (sb : Int), .int .u64 (sc : Int), .int .u64 (sd : Int)] 67)).drew.cell? ⟨g, r.length * 3 + 2, none⟩ = some (.slice la1 (lastL a (nS r)).length la2) := hcells.out _ _ 2 M1.out.own (by omega) rfl
        have k3 : (wr.alloc (.cells #[.int .i64 3, .int .u64 (sa : Int), .int .u64 (sb : Int), .int .u64 (sc : Int), .int .u64 (sd : Int)] 67)).drew.cell? ⟨g, (r.length + 1) * 3, none⟩ = some (.bool b.null) := by rw [show (r.length + 1) * 3 = r.length * 3 + 3 by omega]; exact hcells.out _ _ 3 M1.out.own (by omega) rfl
        have k4 : (wr.alloc (.cells #[.int .i64 3, .int .u64 (sa : Int), .int .u64 (sb : Int), .int .u64 (sc : Int), .int .u64 (sd : Int)] 67)).drew.cell? ⟨g, (r.length + 1) * 3 + 1, none⟩ = some (.slice fb1 (firstL b (nS (a :: r))).length fb2) := by rw [show (r.length + 1) * 3 + 1 = r.length * 3 + 4 by omega]; exact hcells.out _ _ 4 M1.out.own (by omega) rfl
        have k5 : (wr.alloc (.cells #[.int .i64 3, .int .u64 (sa : Int), .int .u64 (sb : Int), .int .u64 (sc : Int), .int .u64 (sd : Int)] 67)).drew.cell? ⟨g, (r.length + 1) * 3 + 2, none⟩ = some (.slice lb1 (lastL b (nS (a :: r))).length lb2) := by rw [show (r.length + 1) * 3 + 2 = r.length * 3 + 5 by omega]; exact hcells.out _ _ 5 M1.out.own (by omega) rfl
        have he2 : (r.length : Int) + 1 + 1 - 2 = (r.length : Int) := by omega
        have hcz : (r.length : Int) ≤ (cap : Int) := by omega
        have s2 := cutP_hi g (r.length + 2) cap r.length (by omega)
        have hwr : IntKind.i64.wrap ((r.length : Int) + 1) = (r.length : Int) + 1 := by rw [IntKind.wrap_i64]; omega
        have hi1 : (r.length : Int) < (r.length : Int) + 1 + 1 := by omega
        have hi2 : (r.length : Int) + 1 < (r.length : Int) + 1 + 1 := by omega
        have hi3 : (0 : Int) ≤ (r.length : Int) + 1 := by omega
        clear hpa hpb' hpr
        go_wp2_with fail
        go_region_law ((first
          | (refine step_append_lies _ (by rfl) (.tmp 73) (.tmp 87) 107 (by rfl) pb 109 iP (.agg #[.bool false, .slice none 0 0, .slice none 0 0]) 3 56 Tryz.underlying107 hiP zP0 zP1 zP2 rfl (by decide) (.slice (some ⟨g, 0, none⟩) r.length cap) r.length zs (by rfl) M4.out.own ⟨w1.heap.size, 0, none⟩ 1 1 [.bool rn, .slice xa rf.length xc, .slice ya rl.length yc] (by rfl) (by rfl) (World.news_of_block (heap_new w1 (.cells #[.bool rn, .slice xa rf.length xc, .slice ya rl.length yc] 109))) (by simp [Value.oneCell']) (by omega) (by (unfold maxLen); omega) (by omega) M4.out.lk.base (World.heap (w1.alloc (.cells #[.bool rn, .slice xa rf.length xc, .slice ya rl.length yc] 109))).size rfl ?_; intro g2 cap2 w2 hown2 hgrow2 hat2 hlt2; have M5 := hid (M4.out.push' (t := (.cat a b)) hrn.out hrf.out hrl.out hpv4.out hown2 hgrow2 hat2); have hB5 := hid (bgrow hB4.out hgrow2 M4.out.lk.base (fun k e => (M4.out.own.lt k e).1)); clear hgrow2 hown2)
          | (refine step_call (by rfl) 53 #[.int .i64 3, .agg #[.bool a.null, .slice fa1 (firstL a (nS r)).length fa2, .slice la1 (lastL a (nS r)).length la2], .agg #[.bool b.null, .slice fb1 (firstL b (nS (a :: r))).length fb2, .slice lb1 (lastL b (nS (a :: r))).length lb2], (.func (.func 50) #[] #[.pointer (some ⟨pb, 0, none⟩)])] (by (go_simp; done)) GJ.out ?_; rintro e w1 ⟨fv, lv, rfl, hpv, ⟨gs1, hS1⟩, K1⟩; have M2 := hid (M1.out.linked K1 hS1); have hpr2 := hid (hprk.out.kept (K1.mono fun k _ e => (M1.out.lk.row k e).1)); have hB3 := hid (hB1.out.trans (K1.below (fun k e => (M1.out.lk.own.lt k e).1) M1.out.lk.base)); obtain ⟨xa, xc, rfl, hx1⟩ := id hpv.first; obtain ⟨ya, yc, rfl, hx2⟩ := id hpv.last; clear hx1 hx2; have M3 := hid (M2.out.cut (r := r) (ys := zs) rfl (by simp; omega) (by rw [← hzl, List.append_assoc]; exact List.take_left) hpr2.out); have M4 := hid (M3.out.keep (al' w1 (.cells #[.bool rn, .slice xa rf.length xc, .slice ya rl.length yc] 109))); have hpv4 := hid (hpv.keep (al' w1 (.cells #[.bool rn, .slice xa rf.length xc, .slice ya rl.length yc] 109))); have hB4 := hid (bstep hB3.out (al' w1 (.cells #[.bool rn, .slice xa rf.length xc, .slice ya rl.length yc] 109)) M2.out.lk.base); refine ⟨_, rfl, ?_⟩)
          | fail))
        all_goals
          go_wp2
          go_roundw
          case rel => exact ⟨k + 1, _, _, _, _, _, _, by omega, by go_num, hid (by rw [hst.out, nS_cat, setsS_cat]; exact M5.out), hid (by rw [hst.out, nS_cat]; exact hFol2.out), hid (hX.out.up fun _ h => Or.inl h), hB5.out⟩
          case measure => simp [intOf]; omega
      · obtain ⟨b, a, r, rfl⟩ := two_top (by rw [hwo] at hw; exact hw.2)
        have hst : Hid (stK l (k + 1) = (.or a b) :: r) := hid (by rw [hsu.out]; simp [stepS])
        obtain ⟨ys, fb, lb, hxs, ⟨zs, fa, la, hys, hpr, hpa⟩, hpb'⟩ := hM.out.pts
        subst hys
        subst hxs
        have hzl := hpr.len
        obtain ⟨g, cap, hov, hcap⟩ := own_form3 hM.out.own (by simp)
        subst hov
        have hr60 : r.length + 2 ≤ 60 := by have := hnk.2; simp at this; omega
        have hM : Hid (OfM pb pb F (nS (b :: a :: r)) wr sv gv (.slice (some ⟨g, 0, none⟩) (r.length + 2) cap) (setsS (b :: a :: r)) gs fl (b :: a :: r) (zs ++ [.bool a.null, fa, la] ++ [.bool b.null, fb, lb])) := hM
        have hcap2 : r.length + 2 ≤ cap := by simpa using hcap
        have hnn : nS (b :: a :: r) ≤ 60 := by have := hnk.1; omega
        have hnab : nS r + nSets a + nSets b = nS (b :: a :: r) := rfl
        have M1 := hid ((hM.out.keep (al' wr (.cells #[.int .i64 4, .int .u64 (sa : Int), .int .u64 (sb : Int), .int .u64 (sc : Int), .int .u64 (sd : Int)] 67))).keep ((Below.refl _ _).drew : Below _ (wr.alloc (.cells #[.int .i64 4, .int .u64 (sa : Int), .int .u64 (sb : Int), .int .u64 (sc : Int), .int .u64 (sd : Int)] 67)) (wr.alloc (.cells #[.int .i64 4, .int .u64 (sa : Int), .int .u64 (sb : Int), .int .u64 (sc : Int), .int .u64 (sd : Int)] 67)).drew))
        have hB1 := hid (bstep hbl (bl_step (al' wr (.cells #[.int .i64 4, .int .u64 (sa : Int), .int .u64 (sb : Int), .int .u64 (sc : Int), .int .u64 (sd : Int)] 67)) ((Below.refl _ _).drew : Below _ (wr.alloc (.cells #[.int .i64 4, .int .u64 (sa : Int), .int .u64 (sb : Int), .int .u64 (sc : Int), .int .u64 (sd : Int)] 67)) (wr.alloc (.cells #[.int .i64 4, .int .u64 (sa : Int), .int .u64 (sb : Int), .int .u64 (sc : Int), .int .u64 (sd : Int)] 67)).drew)) hpw.out)
        have hk1 : Hid (Below wr.heap.size wr (wr.alloc (.cells #[.int .i64 4, .int .u64 (sa : Int), .int .u64 (sb : Int), .int .u64 (sc : Int), .int .u64 (sd : Int)] 67)).drew) := hid (bl_step (al' wr (.cells #[.int .i64 4, .int .u64 (sa : Int), .int .u64 (sb : Int), .int .u64 (sc : Int), .int .u64 (sd : Int)] 67)) ((Below.refl _ _).drew : Below _ (wr.alloc (.cells #[.int .i64 4, .int .u64 (sa : Int), .int .u64 (sb : Int), .int .u64 (sc : Int), .int .u64 (sd : Int)] 67)) (wr.alloc (.cells #[.int .i64 4, .int .u64 (sa : Int), .int .u64 (sb : Int), .int .u64 (sc : Int), .int .u64 (sd : Int)] 67)).drew))
        have pA := hid (hpa.keep hk1.out)
        have pB := hid (hpb'.keep hk1.out)
        have hprk := hid (hpr.kept (Kept.of_below (F := F) hk1.out))
        obtain ⟨fa1, fa2, rfl⟩ : ∃ x y, fa = .slice x (firstL a (nS r)).length y := by obtain ⟨x, y, e, _⟩ := hpa.first; exact ⟨x, y, e⟩
        obtain ⟨la1, la2, rfl⟩ : ∃ x y, la = .slice x (lastL a (nS r)).length y := by obtain ⟨x, y, e, _⟩ := hpa.last; exact ⟨x, y, e⟩
        obtain ⟨fb1, fb2, rfl⟩ : ∃ x y, fb = .slice x (firstL b (nS (a :: r))).length y := by obtain ⟨x, y, e, _⟩ := hpb'.first; exact ⟨x, y, e⟩
        obtain ⟨lb1, lb2, rfl⟩ : ∃ x y, lb = .slice x (lastL b (nS (a :: r))).length y := by obtain ⟨x, y, e, _⟩ := hpb'.last; exact ⟨x, y, e⟩
        have l1 : (lastL a (nS r)).length ≤ 60 := Nat.le_trans (lastL_len a _) (by omega)
        have l2 : (firstL b (nS (a :: r))).length ≤ 60 := Nat.le_trans (firstL_len b _) (by omega)
        have l3 : (firstL a (nS r)).length ≤ 60 := Nat.le_trans (firstL_len a _) (by omega)
        have l4 : (lastL b (nS (a :: r))).length ≤ 60 := Nat.le_trans (lastL_len b _) (by omega)
        have GJ := hid (joinedOr F _ _ _ _ (.func (.func 50) #[] #[.pointer (some ⟨pb, 0, none⟩)]) a.null b.null _ _ _ _ _ M1.out.lk.lt pA.out pB.out l1 l2 l3 l4)
        have hFol2 : Hid (FolOK (FolS ((.or a b) :: r)) (nS (b :: a :: r)) fl) := hid (hFol.out.congr fun j k _ => (folS_or a b r j k).symm)
        obtain ⟨rf, hrf⟩ : ∃ rf, Hid (rf = firstL (.or a b) (nS r)) := ⟨_, hid rfl⟩
        obtain ⟨rl, hrl⟩ : ∃ rl, Hid (rl = lastL (.or a b) (nS r)) := ⟨_, hid rfl⟩
        obtain ⟨rn, hrn⟩ : ∃ rn : Bool, Hid (rn = Rx.null (.or a b)) := ⟨_, hid rfl⟩
        rw [show unionL (firstL a (nS r)) (firstL b (nS (a :: r))) = rf from hrf.out.symm, show unionL (lastL a (nS r)) (lastL b (nS (a :: r))) = rl from hrl.out.symm, show (a.null || b.null) = rn from (Bool.or_comm _ _).trans hrn.out.symm] at GJ
        have hcells : Hid (∀ (u : World) (v : Value) (j : Nat), u.ownsRow pb 109 3 (.slice (some ⟨g, 0, none⟩) (r.length + 2) cap) (r.length + 2) (zs ++ [.bool a.null, .slice fa1 (firstL a (nS r)).length fa2, .slice la1 (lastL a (nS r)).length la2] ++ [.bool b.null, .slice fb1 (firstL b (nS (a :: r))).length fb2, .slice lb1 (lastL b (nS (a :: r))).length lb2]) → j < 6 → ([.bool a.null, .slice fa1 (firstL a (nS r)).length fa2, .slice la1 (lastL a (nS r)).length la2, .bool b.null, .slice fb1 (firstL b (nS (a :: r))).length fb2, .slice lb1 (lastL b (nS (a :: r))).length lb2] : List Value)[j]? = some v → u.cell? ⟨g, r.length * 3 + j, none⟩ = some v) := hid (fun u v j h hj hv => by
          rw [h.cellAt _ (by omega), List.append_assoc, List.getElem?_append_right (by omega), hzl, Nat.add_sub_cancel_left]
          exact hv)
        have k0 : (wr.alloc (.cells #[.int .i64 4, .int .u64 (sa : Int), .int .u64 (sb : Int), .int .u64 (sc : Int), .int .u64 (sd : Int)] 67)).drew.cell? ⟨g, r.length * 3, none⟩ = some (.bool a.null) := hcells.out _ _ 0 M1.out.own (by omega) rfl
        have k1 : (wr.alloc (.cells #[.int .i64 4, .int .u64 (sa : Int), .int .u64 (sb : Int), .int .u64 (sc : Int), .int .u64 (sd : Int)] 67)).drew.cell? ⟨g, r.length * 3 + 1, none⟩ = some (.slice fa1 (firstL a (nS r)).length fa2) := hcells.out _ _ 1 M1.out.own (by omega) rfl
        have k2 : (wr.alloc (.cells #[.int .i64 4, .int .u64 (sa : Int), .int .u64 (sb : Int), .int .u64 (sc : Int), .int .u64 (sd : Int)] 67)).drew.cell? ⟨g, r.length * 3 + 2, none⟩ = some (.slice la1 (lastL a (nS r)).length la2) := hcells.out _ _ 2 M1.out.own (by omega) rfl
        have k3 : (wr.alloc (.cells #[.int .i64 4, .int .u64 (sa : Int), .int .u64 (sb : Int), .int .u64 (sc : Int), .int .u64 (sd : Int)] 67)).drew.cell? ⟨g, (r.length + 1) * 3, none⟩ = some (.bool b.null) := by rw [show (r.length + 1) * 3 = r.length * 3 + 3 by omega]; exact hcells.out _ _ 3 M1.out.own (by omega) rfl
        have k4 : (wr.alloc (.cells #[.int .i64 4, .int .u64 (sa : Int), .int .u64 (sb : Int), .int .u64 (sc : Int), .int .u64 (sd : Int)] 67)).drew.cell? ⟨g, (r.length + 1) * 3 + 1, none⟩ = some (.slice fb1 (firstL b (nS (a :: r))).length fb2) := by rw [show (r.length + 1) * 3 + 1 = r.length * 3 + 4 by omega]; exact hcells.out _ _ 4 M1.out.own (by omega) rfl
        have k5 : (wr.alloc (.cells #[.int .i64 4, .int .u64 (sa : Int), .int .u64 (sb : Int), .int .u64 (sc : Int), .int .u64 (sd : Int)] 67)).drew.cell? ⟨g, (r.length + 1) * 3 + 2, none⟩ = some (.slice lb1 (lastL b (nS (a :: r))).length lb2) := by rw [show (r.length + 1) * 3 + 2 = r.length * 3 + 5 by omega]; exact hcells.out _ _ 5 M1.out.own (by omega) rfl
        have he2 : (r.length : Int) + 1 + 1 - 2 = (r.length : Int) := by omega
        have hcz : (r.length : Int) ≤ (cap : Int) := by omega
        have s2 := cutP_hi g (r.length + 2) cap r.length (by omega)
        have hwr : IntKind.i64.wrap ((r.length : Int) + 1) = (r.length : Int) + 1 := by rw [IntKind.wrap_i64]; omega
        have hi1 : (r.length : Int) < (r.length : Int) + 1 + 1 := by omega
        have hi2 : (r.length : Int) + 1 < (r.length : Int) + 1 + 1 := by omega
        have hi3 : (0 : Int) ≤ (r.length : Int) + 1 := by omega
        clear hpa hpb' hpr
        go_wp2_with fail
        go_region_law ((first
          | (refine step_append_lies _ (by rfl) (.tmp 73) (.tmp 87) 107 (by rfl) pb 109 iP (.agg #[.bool false, .slice none 0 0, .slice none 0 0]) 3 56 Tryz.underlying107 hiP zP0 zP1 zP2 rfl (by decide) (.slice (some ⟨g, 0, none⟩) r.length cap) r.length zs (by rfl) M4.out.own ⟨w1.heap.size, 0, none⟩ 1 1 [.bool rn, .slice xa rf.length xc, .slice ya rl.length yc] (by rfl) (by rfl) (World.news_of_block (heap_new w1 (.cells #[.bool rn, .slice xa rf.length xc, .slice ya rl.length yc] 109))) (by simp [Value.oneCell']) (by omega) (by (unfold maxLen); omega) (by omega) M4.out.lk.base (World.heap (w1.alloc (.cells #[.bool rn, .slice xa rf.length xc, .slice ya rl.length yc] 109))).size rfl ?_; intro g2 cap2 w2 hown2 hgrow2 hat2 hlt2; have M5 := hid (M4.out.push' (t := (.or a b)) hrn.out hrf.out hrl.out hpv4.out hown2 hgrow2 hat2); have hB5 := hid (bgrow hB4.out hgrow2 M4.out.lk.base (fun k e => (M4.out.own.lt k e).1)); clear hgrow2 hown2)
          | (refine step_call (by rfl) 53 #[.int .i64 4, .agg #[.bool a.null, .slice fa1 (firstL a (nS r)).length fa2, .slice la1 (lastL a (nS r)).length la2], .agg #[.bool b.null, .slice fb1 (firstL b (nS (a :: r))).length fb2, .slice lb1 (lastL b (nS (a :: r))).length lb2], (.func (.func 50) #[] #[.pointer (some ⟨pb, 0, none⟩)])] (by (go_simp; done)) GJ.out ?_; rintro e w1 ⟨fv, lv, rfl, hpv, K1⟩; have M2 := hid (M1.out.keep K1); have hpr2 := hid (hprk.out.kept (Kept.of_below K1)); have hB3 := hid (bstep hB1.out K1 M1.out.lk.base); obtain ⟨xa, xc, rfl, hx1⟩ := id hpv.first; obtain ⟨ya, yc, rfl, hx2⟩ := id hpv.last; clear hx1 hx2; have M3 := hid (M2.out.cut (r := r) (ys := zs) rfl (by simp; omega) (by rw [← hzl, List.append_assoc]; exact List.take_left) hpr2.out); have M4 := hid (M3.out.keep (al' w1 (.cells #[.bool rn, .slice xa rf.length xc, .slice ya rl.length yc] 109))); have hpv4 := hid (hpv.keep (al' w1 (.cells #[.bool rn, .slice xa rf.length xc, .slice ya rl.length yc] 109))); have hB4 := hid (bstep hB3.out (al' w1 (.cells #[.bool rn, .slice xa rf.length xc, .slice ya rl.length yc] 109)) M2.out.lk.base); refine ⟨_, rfl, ?_⟩)
          | fail))
        all_goals
          go_wp2
          go_roundw
          case rel => exact ⟨k + 1, _, _, _, _, _, _, by omega, by go_num, hid (by rw [hst.out, nS_or, setsS_or]; exact M5.out), hid (by rw [hst.out, nS_or]; exact hFol2.out), hid (hX.out.up fun _ h => Or.inl h), hB5.out⟩
          case measure => simp [intOf]; omega
      · obtain ⟨a, r, rfl⟩ := one_top (by rw [hwo] at hw; exact hw.2)
        have hst : Hid (stK l (k + 1) = (.star a) :: r) := hid (by rw [hsu.out]; simp [stepS])
        obtain ⟨zs, fa, la, hxs, hpr, hpa⟩ := hM.out.pts
        subst hxs
        have hzl := hpr.len
        obtain ⟨g, cap, hov, hcap⟩ := own_form3 hM.out.own (by simp)
        subst hov
        have hr60 : r.length + 1 ≤ 60 := by have := hnk.2; simp at this; omega
        have hM : Hid (OfM pb pb F (nS (a :: r)) wr sv gv (.slice (some ⟨g, 0, none⟩) (r.length + 1) cap) (setsS (a :: r)) gs fl (a :: r) (zs ++ [.bool a.null, fa, la])) := hM
        have hnn : nS (a :: r) ≤ 60 := by have := hnk.1; omega
        have hnab : nS r + nSets a = nS (a :: r) := rfl
        have M1 := hid ((hM.out.keep (al' wr (.cells #[.int .i64 5, .int .u64 (sa : Int), .int .u64 (sb : Int), .int .u64 (sc : Int), .int .u64 (sd : Int)] 67))).keep ((Below.refl _ _).drew : Below _ (wr.alloc (.cells #[.int .i64 5, .int .u64 (sa : Int), .int .u64 (sb : Int), .int .u64 (sc : Int), .int .u64 (sd : Int)] 67)) (wr.alloc (.cells #[.int .i64 5, .int .u64 (sa : Int), .int .u64 (sb : Int), .int .u64 (sc : Int), .int .u64 (sd : Int)] 67)).drew))
        have hk1 : Hid (Below wr.heap.size wr (wr.alloc (.cells #[.int .i64 5, .int .u64 (sa : Int), .int .u64 (sb : Int), .int .u64 (sc : Int), .int .u64 (sd : Int)] 67)).drew) := hid (bl_step (al' wr (.cells #[.int .i64 5, .int .u64 (sa : Int), .int .u64 (sb : Int), .int .u64 (sc : Int), .int .u64 (sd : Int)] 67)) ((Below.refl _ _).drew : Below _ (wr.alloc (.cells #[.int .i64 5, .int .u64 (sa : Int), .int .u64 (sb : Int), .int .u64 (sc : Int), .int .u64 (sd : Int)] 67)) (wr.alloc (.cells #[.int .i64 5, .int .u64 (sa : Int), .int .u64 (sb : Int), .int .u64 (sc : Int), .int .u64 (sd : Int)] 67)).drew))
        have hB1 := hid (bstep hbl hk1.out hpw.out)
        have pA := hid (hpa.keep hk1.out)
        have hprk := hid (hpr.kept (Kept.of_below (F := F) hk1.out))
        obtain ⟨fa1, fa2, rfl⟩ : ∃ x y, fa = .slice x (firstL a (nS r)).length y := by obtain ⟨x, y, e, _⟩ := hpa.first; exact ⟨x, y, e⟩
        obtain ⟨la1, la2, rfl⟩ : ∃ x y, la = .slice x (lastL a (nS r)).length y := by obtain ⟨x, y, e, _⟩ := hpa.last; exact ⟨x, y, e⟩
        have l1 : (lastL a (nS r)).length ≤ 60 := Nat.le_trans (lastL_len a _) (by omega)
        have l3 : (firstL a (nS r)).length ≤ 60 := Nat.le_trans (firstL_len a _) (by omega)
        have hla : InN (lastL a (nS r)) (nS (a :: r)) := lastL_in a _ _ (Nat.le_of_eq rfl)
        have hfa : InN (firstL a (nS r)) (nS (a :: r)) := firstL_in a _ _ (Nat.le_of_eq rfl)
        have GJ := hid (repeatedC F pb pb (nS (a :: r)) gv _ _ 5 a.null _ _ gs fl _ (by omega) M1.out.lk pA.out hla l1 hfa l3)
        have hFol2 : Hid (FolOK (FolS ((.star a) :: r)) (nS ((.star a) :: r)) (linkL fl (firstL a (nS r)) (lastL a (nS r)))) := hid ((hFol.out.link (lastL_mem a (nS r)) (fun k hk => by have := lst_in a _ k hk; omega) (firstL_mem a (nS r))).congr fun j k _ => (folS_star a r j k).symm)
        obtain ⟨rn, hrn⟩ : ∃ rn : Bool, Hid (rn = Rx.null (.star a)) := ⟨_, hid rfl⟩
        rw [show (a.null || decide ((5 : Int) = 5)) = rn from (show (a.null || true) = true from Bool.or_true _).trans hrn.out.symm] at GJ
        have hcells : Hid (∀ (u : World) (v : Value) (j : Nat), u.ownsRow pb 109 3 (.slice (some ⟨g, 0, none⟩) (r.length + 1) cap) (r.length + 1) (zs ++ [.bool a.null, .slice fa1 (firstL a (nS r)).length fa2, .slice la1 (lastL a (nS r)).length la2]) → j < 3 → ([.bool a.null, .slice fa1 (firstL a (nS r)).length fa2, .slice la1 (lastL a (nS r)).length la2] : List Value)[j]? = some v → u.cell? ⟨g, r.length * 3 + j, none⟩ = some v ∧ u.frozen? ⟨g, r.length * 3 + j, none⟩ = false) := hid (fun u v j h hj hv => ⟨by
          rw [h.cellAt _ (by omega), List.getElem?_append_right (by omega), hzl, Nat.add_sub_cancel_left]
          exact hv, h.frozenAt _⟩)
        have k0 : (wr.alloc (.cells #[.int .i64 5, .int .u64 (sa : Int), .int .u64 (sb : Int), .int .u64 (sc : Int), .int .u64 (sd : Int)] 67)).drew.cell? ⟨g, r.length * 3, none⟩ = some (.bool a.null) := (hcells.out _ _ 0 M1.out.own (by omega) rfl).1
        have k1 : (wr.alloc (.cells #[.int .i64 5, .int .u64 (sa : Int), .int .u64 (sb : Int), .int .u64 (sc : Int), .int .u64 (sd : Int)] 67)).drew.cell? ⟨g, r.length * 3 + 1, none⟩ = some (.slice fa1 (firstL a (nS r)).length fa2) := (hcells.out _ _ 1 M1.out.own (by omega) rfl).1
        have k2 : (wr.alloc (.cells #[.int .i64 5, .int .u64 (sa : Int), .int .u64 (sb : Int), .int .u64 (sc : Int), .int .u64 (sd : Int)] 67)).drew.cell? ⟨g, r.length * 3 + 2, none⟩ = some (.slice la1 (lastL a (nS r)).length la2) := (hcells.out _ _ 2 M1.out.own (by omega) rfl).1
        have hi1 : (r.length : Int) < (r.length : Int) + 1 := by omega
        clear hpa hpr
        go_wp2_with fail
        go_region_law ((first
          | (refine step_call (by rfl) 54 #[.int .i64 5, .agg #[.bool a.null, .slice fa1 (firstL a (nS r)).length fa2, .slice la1 (lastL a (nS r)).length la2], (.func (.func 50) #[] #[.pointer (some ⟨pb, 0, none⟩)])] (by (go_simp; done)) GJ.out ?_; rintro e w1 ⟨fv, lv, rfl, hpv, ⟨gs1, hS1⟩, K1⟩; have M2 := hid (M1.out.linked K1 hS1); have hpr2 := hid (hprk.out.kept (K1.mono fun k _ e => (M1.out.lk.row k e).1)); have hB2 := hid (hB1.out.trans (K1.below (fun k e => (M1.out.lk.own.lt k e).1) M1.out.lk.base)); obtain ⟨xa, xc, rfl, hx1⟩ := id hpv.first; obtain ⟨ya, yc, rfl, hx2⟩ := id hpv.last; clear hx1 hx2; have m0 : w1.cell? ⟨g, r.length * 3, none⟩ = some (.bool a.null) := (hcells.out _ _ 0 M2.out.own (by omega) rfl).1; have f0 : w1.frozen? ⟨g, r.length * 3, none⟩ = false := (hcells.out _ _ 0 M2.out.own (by omega) rfl).2; have m1 : w1.cell? ⟨g, r.length * 3 + 1, none⟩ = some (.slice fa1 (firstL a (nS r)).length fa2) := (hcells.out _ _ 1 M2.out.own (by omega) rfl).1; have f1 : w1.frozen? ⟨g, r.length * 3 + 1, none⟩ = false := (hcells.out _ _ 1 M2.out.own (by omega) rfl).2; have m2 : w1.cell? ⟨g, r.length * 3 + 2, none⟩ = some (.slice la1 (lastL a (nS r)).length la2) := (hcells.out _ _ 2 M2.out.own (by omega) rfl).1; have f2 : w1.frozen? ⟨g, r.length * 3 + 2, none⟩ = false := (hcells.out _ _ 2 M2.out.own (by omega) rfl).2; have M3 := hid (M2.out.put' (t := (.star a)) hrn.out hzl hpr2.out hpv); have hB3 := hid (bl_set (bl_set (bl_set hB2.out g (r.length * 3) (.bool rn) (M2.out.own.lt g rfl).1) g (r.length * 3 + 1) (.slice xa (firstL a (nS r)).length xc) (M2.out.own.lt g rfl).1) g (r.length * 3 + 2) (.slice ya (lastL a (nS r)).length yc) (M2.out.own.lt g rfl).1); refine ⟨_, rfl, ?_⟩)
          | fail))
        all_goals
          go_wp2
          go_roundw
          case rel => exact ⟨k + 1, _, _, _, _, _, _, by omega, by go_num, hid (by rw [hst.out]; exact M3.out), hid (by rw [hst.out]; exact hFol2.out), hX, hB3.out⟩
          case measure => simp [intOf]; omega
      · obtain ⟨a, r, rfl⟩ := one_top (by rw [hwo] at hw; exact hw.2)
        have hst : Hid (stK l (k + 1) = (.plus a) :: r) := hid (by rw [hsu.out]; simp [stepS])
        obtain ⟨zs, fa, la, hxs, hpr, hpa⟩ := hM.out.pts
        subst hxs
        have hzl := hpr.len
        obtain ⟨g, cap, hov, hcap⟩ := own_form3 hM.out.own (by simp)
        subst hov
        have hr60 : r.length + 1 ≤ 60 := by have := hnk.2; simp at this; omega
        have hM : Hid (OfM pb pb F (nS (a :: r)) wr sv gv (.slice (some ⟨g, 0, none⟩) (r.length + 1) cap) (setsS (a :: r)) gs fl (a :: r) (zs ++ [.bool a.null, fa, la])) := hM
        have hnn : nS (a :: r) ≤ 60 := by have := hnk.1; omega
        have hnab : nS r + nSets a = nS (a :: r) := rfl
        have M1 := hid ((hM.out.keep (al' wr (.cells #[.int .i64 6, .int .u64 (sa : Int), .int .u64 (sb : Int), .int .u64 (sc : Int), .int .u64 (sd : Int)] 67))).keep ((Below.refl _ _).drew : Below _ (wr.alloc (.cells #[.int .i64 6, .int .u64 (sa : Int), .int .u64 (sb : Int), .int .u64 (sc : Int), .int .u64 (sd : Int)] 67)) (wr.alloc (.cells #[.int .i64 6, .int .u64 (sa : Int), .int .u64 (sb : Int), .int .u64 (sc : Int), .int .u64 (sd : Int)] 67)).drew))
        have hk1 : Hid (Below wr.heap.size wr (wr.alloc (.cells #[.int .i64 6, .int .u64 (sa : Int), .int .u64 (sb : Int), .int .u64 (sc : Int), .int .u64 (sd : Int)] 67)).drew) := hid (bl_step (al' wr (.cells #[.int .i64 6, .int .u64 (sa : Int), .int .u64 (sb : Int), .int .u64 (sc : Int), .int .u64 (sd : Int)] 67)) ((Below.refl _ _).drew : Below _ (wr.alloc (.cells #[.int .i64 6, .int .u64 (sa : Int), .int .u64 (sb : Int), .int .u64 (sc : Int), .int .u64 (sd : Int)] 67)) (wr.alloc (.cells #[.int .i64 6, .int .u64 (sa : Int), .int .u64 (sb : Int), .int .u64 (sc : Int), .int .u64 (sd : Int)] 67)).drew))
        have hB1 := hid (bstep hbl hk1.out hpw.out)
        have pA := hid (hpa.keep hk1.out)
        have hprk := hid (hpr.kept (Kept.of_below (F := F) hk1.out))
        obtain ⟨fa1, fa2, rfl⟩ : ∃ x y, fa = .slice x (firstL a (nS r)).length y := by obtain ⟨x, y, e, _⟩ := hpa.first; exact ⟨x, y, e⟩
        obtain ⟨la1, la2, rfl⟩ : ∃ x y, la = .slice x (lastL a (nS r)).length y := by obtain ⟨x, y, e, _⟩ := hpa.last; exact ⟨x, y, e⟩
        have l1 : (lastL a (nS r)).length ≤ 60 := Nat.le_trans (lastL_len a _) (by omega)
        have l3 : (firstL a (nS r)).length ≤ 60 := Nat.le_trans (firstL_len a _) (by omega)
        have hla : InN (lastL a (nS r)) (nS (a :: r)) := lastL_in a _ _ (Nat.le_of_eq rfl)
        have hfa : InN (firstL a (nS r)) (nS (a :: r)) := firstL_in a _ _ (Nat.le_of_eq rfl)
        have GJ := hid (repeatedC F pb pb (nS (a :: r)) gv _ _ 6 a.null _ _ gs fl _ (by omega) M1.out.lk pA.out hla l1 hfa l3)
        have hFol2 : Hid (FolOK (FolS ((.plus a) :: r)) (nS ((.plus a) :: r)) (linkL fl (firstL a (nS r)) (lastL a (nS r)))) := hid ((hFol.out.link (lastL_mem a (nS r)) (fun k hk => by have := lst_in a _ k hk; omega) (firstL_mem a (nS r))).congr fun j k _ => (folS_plus a r j k).symm)
        obtain ⟨rn, hrn⟩ : ∃ rn : Bool, Hid (rn = Rx.null (.plus a)) := ⟨_, hid rfl⟩
        rw [show (a.null || decide ((6 : Int) = 5)) = rn from (show (a.null || false) = a.null from Bool.or_false _).trans hrn.out.symm] at GJ
        have hcells : Hid (∀ (u : World) (v : Value) (j : Nat), u.ownsRow pb 109 3 (.slice (some ⟨g, 0, none⟩) (r.length + 1) cap) (r.length + 1) (zs ++ [.bool a.null, .slice fa1 (firstL a (nS r)).length fa2, .slice la1 (lastL a (nS r)).length la2]) → j < 3 → ([.bool a.null, .slice fa1 (firstL a (nS r)).length fa2, .slice la1 (lastL a (nS r)).length la2] : List Value)[j]? = some v → u.cell? ⟨g, r.length * 3 + j, none⟩ = some v ∧ u.frozen? ⟨g, r.length * 3 + j, none⟩ = false) := hid (fun u v j h hj hv => ⟨by
          rw [h.cellAt _ (by omega), List.getElem?_append_right (by omega), hzl, Nat.add_sub_cancel_left]
          exact hv, h.frozenAt _⟩)
        have k0 : (wr.alloc (.cells #[.int .i64 6, .int .u64 (sa : Int), .int .u64 (sb : Int), .int .u64 (sc : Int), .int .u64 (sd : Int)] 67)).drew.cell? ⟨g, r.length * 3, none⟩ = some (.bool a.null) := (hcells.out _ _ 0 M1.out.own (by omega) rfl).1
        have k1 : (wr.alloc (.cells #[.int .i64 6, .int .u64 (sa : Int), .int .u64 (sb : Int), .int .u64 (sc : Int), .int .u64 (sd : Int)] 67)).drew.cell? ⟨g, r.length * 3 + 1, none⟩ = some (.slice fa1 (firstL a (nS r)).length fa2) := (hcells.out _ _ 1 M1.out.own (by omega) rfl).1
        have k2 : (wr.alloc (.cells #[.int .i64 6, .int .u64 (sa : Int), .int .u64 (sb : Int), .int .u64 (sc : Int), .int .u64 (sd : Int)] 67)).drew.cell? ⟨g, r.length * 3 + 2, none⟩ = some (.slice la1 (lastL a (nS r)).length la2) := (hcells.out _ _ 2 M1.out.own (by omega) rfl).1
        have hi1 : (r.length : Int) < (r.length : Int) + 1 := by omega
        clear hpa hpr
        go_wp2_with fail
        go_region_law ((first
          | (refine step_call (by rfl) 54 #[.int .i64 6, .agg #[.bool a.null, .slice fa1 (firstL a (nS r)).length fa2, .slice la1 (lastL a (nS r)).length la2], (.func (.func 50) #[] #[.pointer (some ⟨pb, 0, none⟩)])] (by (go_simp; done)) GJ.out ?_; rintro e w1 ⟨fv, lv, rfl, hpv, ⟨gs1, hS1⟩, K1⟩; have M2 := hid (M1.out.linked K1 hS1); have hpr2 := hid (hprk.out.kept (K1.mono fun k _ e => (M1.out.lk.row k e).1)); have hB2 := hid (hB1.out.trans (K1.below (fun k e => (M1.out.lk.own.lt k e).1) M1.out.lk.base)); obtain ⟨xa, xc, rfl, hx1⟩ := id hpv.first; obtain ⟨ya, yc, rfl, hx2⟩ := id hpv.last; clear hx1 hx2; have m0 : w1.cell? ⟨g, r.length * 3, none⟩ = some (.bool a.null) := (hcells.out _ _ 0 M2.out.own (by omega) rfl).1; have f0 : w1.frozen? ⟨g, r.length * 3, none⟩ = false := (hcells.out _ _ 0 M2.out.own (by omega) rfl).2; have m1 : w1.cell? ⟨g, r.length * 3 + 1, none⟩ = some (.slice fa1 (firstL a (nS r)).length fa2) := (hcells.out _ _ 1 M2.out.own (by omega) rfl).1; have f1 : w1.frozen? ⟨g, r.length * 3 + 1, none⟩ = false := (hcells.out _ _ 1 M2.out.own (by omega) rfl).2; have m2 : w1.cell? ⟨g, r.length * 3 + 2, none⟩ = some (.slice la1 (lastL a (nS r)).length la2) := (hcells.out _ _ 2 M2.out.own (by omega) rfl).1; have f2 : w1.frozen? ⟨g, r.length * 3 + 2, none⟩ = false := (hcells.out _ _ 2 M2.out.own (by omega) rfl).2; have M3 := hid (M2.out.put' (t := (.plus a)) hrn.out hzl hpr2.out hpv); have hB3 := hid (bl_set (bl_set (bl_set hB2.out g (r.length * 3) (.bool rn) (M2.out.own.lt g rfl).1) g (r.length * 3 + 1) (.slice xa (firstL a (nS r)).length xc) (M2.out.own.lt g rfl).1) g (r.length * 3 + 2) (.slice ya (lastL a (nS r)).length yc) (M2.out.own.lt g rfl).1); refine ⟨_, rfl, ?_⟩)
          | fail))
        all_goals
          go_wp2
          go_roundw
          case rel => exact ⟨k + 1, _, _, _, _, _, _, by omega, by go_num, hid (by rw [hst.out]; exact M3.out), hid (by rw [hst.out]; exact hFol2.out), hX, hB3.out⟩
          case measure => simp [intOf]; omega
      · obtain ⟨a, r, rfl⟩ := one_top (by rw [hwo] at hw; exact hw.2)
        have hst : Hid (stK l (k + 1) = (.opt a) :: r) := hid (by rw [hsu.out]; simp [stepS])
        obtain ⟨zs, fa, la, hxs, hpr, hpa⟩ := hM.out.pts
        subst hxs
        have hzl := hpr.len
        obtain ⟨g, cap, hov, hcap⟩ := own_form3 hM.out.own (by simp)
        subst hov
        have hr60 : r.length + 1 ≤ 60 := by have := hnk.2; simp at this; omega
        have hM : Hid (OfM pb pb F (nS (a :: r)) wr sv gv (.slice (some ⟨g, 0, none⟩) (r.length + 1) cap) (setsS (a :: r)) gs fl (a :: r) (zs ++ [.bool a.null, fa, la])) := hM
        have hnn : nS (a :: r) ≤ 60 := by have := hnk.1; omega
        have hnab : nS r + nSets a = nS (a :: r) := rfl
        have M1 := hid ((hM.out.keep (al' wr (.cells #[.int .i64 7, .int .u64 (sa : Int), .int .u64 (sb : Int), .int .u64 (sc : Int), .int .u64 (sd : Int)] 67))).keep ((Below.refl _ _).drew : Below _ (wr.alloc (.cells #[.int .i64 7, .int .u64 (sa : Int), .int .u64 (sb : Int), .int .u64 (sc : Int), .int .u64 (sd : Int)] 67)) (wr.alloc (.cells #[.int .i64 7, .int .u64 (sa : Int), .int .u64 (sb : Int), .int .u64 (sc : Int), .int .u64 (sd : Int)] 67)).drew))
        have hk1 : Hid (Below wr.heap.size wr (wr.alloc (.cells #[.int .i64 7, .int .u64 (sa : Int), .int .u64 (sb : Int), .int .u64 (sc : Int), .int .u64 (sd : Int)] 67)).drew) := hid (bl_step (al' wr (.cells #[.int .i64 7, .int .u64 (sa : Int), .int .u64 (sb : Int), .int .u64 (sc : Int), .int .u64 (sd : Int)] 67)) ((Below.refl _ _).drew : Below _ (wr.alloc (.cells #[.int .i64 7, .int .u64 (sa : Int), .int .u64 (sb : Int), .int .u64 (sc : Int), .int .u64 (sd : Int)] 67)) (wr.alloc (.cells #[.int .i64 7, .int .u64 (sa : Int), .int .u64 (sb : Int), .int .u64 (sc : Int), .int .u64 (sd : Int)] 67)).drew))
        have hB1 := hid (bstep hbl hk1.out hpw.out)
        have pA := hid (hpa.keep hk1.out)
        have hprk := hid (hpr.kept (Kept.of_below (F := F) hk1.out))
        obtain ⟨fa1, fa2, rfl⟩ : ∃ x y, fa = .slice x (firstL a (nS r)).length y := by obtain ⟨x, y, e, _⟩ := hpa.first; exact ⟨x, y, e⟩
        obtain ⟨la1, la2, rfl⟩ : ∃ x y, la = .slice x (lastL a (nS r)).length y := by obtain ⟨x, y, e, _⟩ := hpa.last; exact ⟨x, y, e⟩
        have l1 : (lastL a (nS r)).length ≤ 60 := Nat.le_trans (lastL_len a _) (by omega)
        have l3 : (firstL a (nS r)).length ≤ 60 := Nat.le_trans (firstL_len a _) (by omega)
        have GJ := hid (repeatedOpt F _ _ (.func (.func 50) #[] #[.pointer (some ⟨pb, 0, none⟩)]) a.null _ _ _ pA.out)
        have hFol2 : Hid (FolOK (FolS ((.opt a) :: r)) (nS ((.opt a) :: r)) fl) := hid (hFol.out.congr fun j k _ => (folS_opt a r j k).symm)
        obtain ⟨rn, hrn⟩ : ∃ rn : Bool, Hid (rn = Rx.null (.opt a)) := ⟨_, hid rfl⟩
        rw [show true = rn from hrn.out.symm] at GJ
        have hcells : Hid (∀ (u : World) (v : Value) (j : Nat), u.ownsRow pb 109 3 (.slice (some ⟨g, 0, none⟩) (r.length + 1) cap) (r.length + 1) (zs ++ [.bool a.null, .slice fa1 (firstL a (nS r)).length fa2, .slice la1 (lastL a (nS r)).length la2]) → j < 3 → ([.bool a.null, .slice fa1 (firstL a (nS r)).length fa2, .slice la1 (lastL a (nS r)).length la2] : List Value)[j]? = some v → u.cell? ⟨g, r.length * 3 + j, none⟩ = some v ∧ u.frozen? ⟨g, r.length * 3 + j, none⟩ = false) := hid (fun u v j h hj hv => ⟨by
          rw [h.cellAt _ (by omega), List.getElem?_append_right (by omega), hzl, Nat.add_sub_cancel_left]
          exact hv, h.frozenAt _⟩)
        have k0 : (wr.alloc (.cells #[.int .i64 7, .int .u64 (sa : Int), .int .u64 (sb : Int), .int .u64 (sc : Int), .int .u64 (sd : Int)] 67)).drew.cell? ⟨g, r.length * 3, none⟩ = some (.bool a.null) := (hcells.out _ _ 0 M1.out.own (by omega) rfl).1
        have k1 : (wr.alloc (.cells #[.int .i64 7, .int .u64 (sa : Int), .int .u64 (sb : Int), .int .u64 (sc : Int), .int .u64 (sd : Int)] 67)).drew.cell? ⟨g, r.length * 3 + 1, none⟩ = some (.slice fa1 (firstL a (nS r)).length fa2) := (hcells.out _ _ 1 M1.out.own (by omega) rfl).1
        have k2 : (wr.alloc (.cells #[.int .i64 7, .int .u64 (sa : Int), .int .u64 (sb : Int), .int .u64 (sc : Int), .int .u64 (sd : Int)] 67)).drew.cell? ⟨g, r.length * 3 + 2, none⟩ = some (.slice la1 (lastL a (nS r)).length la2) := (hcells.out _ _ 2 M1.out.own (by omega) rfl).1
        have hi1 : (r.length : Int) < (r.length : Int) + 1 := by omega
        clear hpa hpr
        go_wp2_with fail
        go_region_law ((first
          | (refine step_call (by rfl) 54 #[.int .i64 7, .agg #[.bool a.null, .slice fa1 (firstL a (nS r)).length fa2, .slice la1 (lastL a (nS r)).length la2], (.func (.func 50) #[] #[.pointer (some ⟨pb, 0, none⟩)])] (by (go_simp; done)) GJ.out ?_; rintro e w1 ⟨fv, lv, rfl, hpv, K1⟩; have M2 := hid (M1.out.keep K1); have hpr2 := hid (hprk.out.kept (Kept.of_below K1)); have hB2 := hid (bstep hB1.out K1 M1.out.lk.base); obtain ⟨xa, xc, rfl, hx1⟩ := id hpv.first; obtain ⟨ya, yc, rfl, hx2⟩ := id hpv.last; clear hx1 hx2; have m0 : w1.cell? ⟨g, r.length * 3, none⟩ = some (.bool a.null) := (hcells.out _ _ 0 M2.out.own (by omega) rfl).1; have f0 : w1.frozen? ⟨g, r.length * 3, none⟩ = false := (hcells.out _ _ 0 M2.out.own (by omega) rfl).2; have m1 : w1.cell? ⟨g, r.length * 3 + 1, none⟩ = some (.slice fa1 (firstL a (nS r)).length fa2) := (hcells.out _ _ 1 M2.out.own (by omega) rfl).1; have f1 : w1.frozen? ⟨g, r.length * 3 + 1, none⟩ = false := (hcells.out _ _ 1 M2.out.own (by omega) rfl).2; have m2 : w1.cell? ⟨g, r.length * 3 + 2, none⟩ = some (.slice la1 (lastL a (nS r)).length la2) := (hcells.out _ _ 2 M2.out.own (by omega) rfl).1; have f2 : w1.frozen? ⟨g, r.length * 3 + 2, none⟩ = false := (hcells.out _ _ 2 M2.out.own (by omega) rfl).2; have M3 := hid (M2.out.put' (t := (.opt a)) hrn.out hzl hpr2.out hpv); have hB3 := hid (bl_set (bl_set (bl_set hB2.out g (r.length * 3) (.bool rn) (M2.out.own.lt g rfl).1) g (r.length * 3 + 1) (.slice xa (firstL a (nS r)).length xc) (M2.out.own.lt g rfl).1) g (r.length * 3 + 2) (.slice ya (lastL a (nS r)).length yc) (M2.out.own.lt g rfl).1); refine ⟨_, rfl, ?_⟩)
          | fail))
        all_goals
          go_wp2
          go_roundw
          case rel => exact ⟨k + 1, _, _, _, _, _, _, by omega, by go_num, hid (by rw [hst.out]; exact M3.out), hid (by rw [hst.out]; exact hFol2.out), hX, hB3.out⟩
          case measure => simp [intOf]; omega
    · have hltz : ¬ (k : Int) < (l.length : Int) := by omega
      obtain rfl : k = l.length := by omega
      rw [hend.out] at hM hFol
      obtain ⟨ys, fv, lv, hxs, hys, hpt⟩ := hM.out.pts
      have hys' : ys = [] := hys
      subst hys'
      subst hxs
      obtain ⟨g, cap, hov, hcap⟩ := own_form3 hM.out.own (by simp)
      subst hov
      have hM : Hid (OfM pb pb F (nS [t]) wr sv gv (.slice (some ⟨g, 0, none⟩) 1 cap) (setsS [t]) gs fl [t] [.bool t.null, fv, lv]) := hM
      obtain ⟨fa1, fa2, rfl⟩ : ∃ x y, fv = .slice x (firstL t 0).length y := by obtain ⟨x, y, e, _⟩ := hpt.first; exact ⟨x, y, e⟩
      obtain ⟨la1, la2, rfl⟩ : ∃ x y, lv = .slice x (lastL t 0).length y := by obtain ⟨x, y, e, _⟩ := hpt.last; exact ⟨x, y, e⟩
      obtain ⟨sa, sc, rfl⟩ := own_shape hM.out.sets
      obtain ⟨ga, gc, rfl⟩ := own_shape hM.out.lk.own
      have k0 : wr.drew.cell? ⟨g, 0, none⟩ = some (.bool t.null) := hM.out.own.cellAt 0 (by omega)
      have k1 : wr.drew.cell? ⟨g, 1, none⟩ = some (.slice fa1 (firstL t 0).length fa2) := hM.out.own.cellAt 1 (by omega)
      have k2 : wr.drew.cell? ⟨g, 2, none⟩ = some (.slice la1 (lastL t 0).length la2) := hM.out.own.cellAt 2 (by omega)
      have hgp := (hM.out.oF g rfl).2.1
      obtain ⟨c0, c1, c2, c3, c4, f0, f1, f2, f3, f4⟩ := cells5s (show wr.drew.heap[pb]? = _ from hM.out.blk)
      have hq1 : wr.heap[w.heap.size]? = _ := (hbl.block _ hpb).trans hqr.out
      have hWp : (((wr.setCell ⟨pb, 1, none⟩ (.bool t.null)).setCell ⟨pb, 2, none⟩ (.slice fa1 (firstL t 0).length fa2)).setCell ⟨pb, 3, none⟩ (.slice la1 (lastL t 0).length la2)).drew.heap[pb]? = some (.cells #[.slice sa (setsS [t]).length sc, .bool t.null, .slice fa1 (firstL t 0).length fa2, .slice la1 (lastL t 0).length la2, .slice ga gs.length gc] 88 (0, 0)) := (show (((wr.setCell ⟨pb, 1, none⟩ (.bool t.null)).setCell ⟨pb, 2, none⟩ (.slice fa1 (firstL t 0).length fa2)).setCell ⟨pb, 3, none⟩ (.slice la1 (lastL t 0).length la2)).heap[pb]? = _ from heap_setCell (heap_setCell (heap_setCell hM.out.blk)))
      have hWx : (((wr.setCell ⟨pb, 1, none⟩ (.bool t.null)).setCell ⟨pb, 2, none⟩ (.slice fa1 (firstL t 0).length fa2)).setCell ⟨pb, 3, none⟩ (.slice la1 (lastL t 0).length la2)).drew.heap[w.heap.size]? = some (.cells #[nilV, .bool false, nilV, nilV, nilV] 88 (0, 0)) := (show (((wr.setCell ⟨pb, 1, none⟩ (.bool t.null)).setCell ⟨pb, 2, none⟩ (.slice fa1 (firstL t 0).length fa2)).setCell ⟨pb, 3, none⟩ (.slice la1 (lastL t 0).length la2)).heap[w.heap.size]? = _ from hs_set (hs_set (hs_set hq1 (by omega)) (by omega)) (by omega))
      have hKp : Kept (fun k => k = pb ∨ k = w.heap.size) wr ((((wr.setCell ⟨pb, 1, none⟩ (.bool t.null)).setCell ⟨pb, 2, none⟩ (.slice fa1 (firstL t 0).length fa2)).setCell ⟨pb, 3, none⟩ (.slice la1 (lastL t 0).length la2)).drew) := ((((Kept.refl (fun k => k = pb ∨ k = w.heap.size) wr).setCell (a := ⟨pb, 1, none⟩) (v := .bool t.null) fun _ => Or.inl rfl).setCell (a := ⟨pb, 2, none⟩) (v := .slice fa1 (firstL t 0).length fa2) fun _ => Or.inl rfl).setCell (a := ⟨pb, 3, none⟩) (v := .slice la1 (lastL t 0).length la2) (fun _ => Or.inl rfl)).step (Kept.of_below ((Below.refl _ _).drew)) (fun _ _ h => h)
      have hKp := hid hKp
      have hfin : Hid (∀ u, Kept (fun k => k = pb ∨ k = w.heap.size) wr u → SpVF (fun k => k < w.heap.size) u (.slice sa (setsS [t]).length sc) (.slice fa1 (firstL t 0).length fa2) (.slice la1 (lastL t 0).length la2) (.slice ga gs.length gc) ⟨setsS [t], t.null, firstL t 0, lastL t 0, fl⟩ ∧ Below w.heap.size w u) := hid (fun u hu => by
        have hFs : ∀ k, (k = pb ∨ k = w.heap.size) → F k := fun k e => by
          rcases e with rfl | rfl
          · exact hM.out.lk.inF
          · exact hX.out _ (Nat.le_refl _)
        have huF : Kept F wr u := hu.mono fun k _ e => hFs k e
        refine ⟨spvf_mk (F := F) (pb := pb) (own_kept hM.out.sets hu (fun k e e' => ?_)) hfit.out (hpt.first.kept huF hpt.offF) hpt.offF (hpt.last.kept huF hpt.offL) hpt.offL (own_kept hM.out.lk.own hu (fun k e e' => ?_)) (hM.out.lk.nums.kept huF) hX.out (by omega), hblw.out.trans (hu.below (fun k e => ?_) hblw.out.size)⟩
        · have h1 := (hM.out.sets.lt k e).1
          rcases e' with e' | e'
          · exact (hM.out.sF k e).2.1 e'
          · omega
        · have h1 := (hM.out.lk.own.lt k e).1
          rcases e' with e' | e'
          · exact (hM.out.lk.row k e).2 e'
          · omega
        · rcases e with e | e <;> omega)
      obtain ⟨C0, C1, C2, C3, C4, -, -, -, -, -⟩ := cells5s hWp
      obtain ⟨X0, X1, X2, X3, X4, Y0, Y1, Y2, Y3, Y4⟩ := cells5s hWx
      have hfb := put5_blk (y0 := .slice sa (setsS [t]).length sc) (y1 := .bool t.null) (y2 := .slice fa1 (firstL t 0).length fa2) (y3 := .slice la1 (lastL t 0).length la2) (y4 := .slice ga gs.length gc) hWx
      obtain ⟨R0, R1, R2, R3, R4, -, -, -, -, -⟩ := cells5s hfb
      unfold put5 at R0 R1 R2 R3 R4
      have hKf := hid (put5_kept (b := w.heap.size) (y0 := .slice sa (setsS [t]).length sc) (y1 := .bool t.null) (y2 := .slice fa1 (firstL t 0).length fa2) (y3 := .slice la1 (lastL t 0).length la2) (y4 := .slice ga gs.length gc) hKp.out (Or.inr rfl))
      have s10 : (wr.setCell ⟨pb, 1, none⟩ (.bool t.null)).drew.cell? ⟨g, 0, none⟩ = some (.bool t.null) := set_keep (v := .bool t.null) 1 k0 hgp
      have s11 : (wr.setCell ⟨pb, 1, none⟩ (.bool t.null)).drew.cell? ⟨g, 1, none⟩ = some (.slice fa1 (firstL t 0).length fa2) := set_keep (v := .bool t.null) 1 k1 hgp
      have s12 : (wr.setCell ⟨pb, 1, none⟩ (.bool t.null)).drew.cell? ⟨g, 2, none⟩ = some (.slice la1 (lastL t 0).length la2) := set_keep (v := .bool t.null) 1 k2 hgp
      have s20 : ((wr.setCell ⟨pb, 1, none⟩ (.bool t.null)).setCell ⟨pb, 2, none⟩ (.slice fa1 (firstL t 0).length fa2)).drew.cell? ⟨g, 0, none⟩ = some (.bool t.null) := set_keep (v := .slice fa1 (firstL t 0).length fa2) 2 s10 hgp
      have s21 : ((wr.setCell ⟨pb, 1, none⟩ (.bool t.null)).setCell ⟨pb, 2, none⟩ (.slice fa1 (firstL t 0).length fa2)).drew.cell? ⟨g, 1, none⟩ = some (.slice fa1 (firstL t 0).length fa2) := set_keep (v := .slice fa1 (firstL t 0).length fa2) 2 s11 hgp
      have s22 : ((wr.setCell ⟨pb, 1, none⟩ (.bool t.null)).setCell ⟨pb, 2, none⟩ (.slice fa1 (firstL t 0).length fa2)).drew.cell? ⟨g, 2, none⟩ = some (.slice la1 (lastL t 0).length la2) := set_keep (v := .slice fa1 (firstL t 0).length fa2) 2 s12 hgp
      have s30 : (((wr.setCell ⟨pb, 1, none⟩ (.bool t.null)).setCell ⟨pb, 2, none⟩ (.slice fa1 (firstL t 0).length fa2)).setCell ⟨pb, 3, none⟩ (.slice la1 (lastL t 0).length la2)).drew.cell? ⟨g, 0, none⟩ = some (.bool t.null) := set_keep (v := .slice la1 (lastL t 0).length la2) 3 s20 hgp
      have s31 : (((wr.setCell ⟨pb, 1, none⟩ (.bool t.null)).setCell ⟨pb, 2, none⟩ (.slice fa1 (firstL t 0).length fa2)).setCell ⟨pb, 3, none⟩ (.slice la1 (lastL t 0).length la2)).drew.cell? ⟨g, 1, none⟩ = some (.slice fa1 (firstL t 0).length fa2) := set_keep (v := .slice la1 (lastL t 0).length la2) 3 s21 hgp
      have s32 : (((wr.setCell ⟨pb, 1, none⟩ (.bool t.null)).setCell ⟨pb, 2, none⟩ (.slice fa1 (firstL t 0).length fa2)).setCell ⟨pb, 3, none⟩ (.slice la1 (lastL t 0).length la2)).drew.cell? ⟨g, 2, none⟩ = some (.slice la1 (lastL t 0).length la2) := set_keep (v := .slice la1 (lastL t 0).length la2) 3 s22 hgp
      have hb1 : (wr.setCell ⟨pb, 1, none⟩ (.bool t.null)).drew.heap[pb]? = some (.cells #[.slice sa (setsS [t]).length sc, .bool t.null, nilV, nilV, .slice ga gs.length gc] 88 (0, 0)) := (show (wr.setCell ⟨pb, 1, none⟩ (.bool t.null)).heap[pb]? = _ from heap_setCell hM.out.blk)
      have hb2 : ((wr.setCell ⟨pb, 1, none⟩ (.bool t.null)).setCell ⟨pb, 2, none⟩ (.slice fa1 (firstL t 0).length fa2)).drew.heap[pb]? = some (.cells #[.slice sa (setsS [t]).length sc, .bool t.null, .slice fa1 (firstL t 0).length fa2, nilV, .slice ga gs.length gc] 88 (0, 0)) := (show ((wr.setCell ⟨pb, 1, none⟩ (.bool t.null)).setCell ⟨pb, 2, none⟩ (.slice fa1 (firstL t 0).length fa2)).heap[pb]? = _ from heap_setCell (heap_setCell hM.out.blk))
      obtain ⟨-, -, D2, -, -, -, -, D7, -, -⟩ := cells5s hb1
      obtain ⟨-, -, -, E3, -, -, -, -, E8, -⟩ := cells5s hb2
      have hF2 := hid hFol.out
      clear hWp hWx hfb hq1 hpt hb1 hb2 hM hFol hKp hX hfit hend hns hwan hsuc hAt hFl hblw hbl hqr hbw hM0 hnk hstart
      generalize (firstL t 0).length = nf at *
      generalize (lastL t 0).length = nl at *
      generalize (setsS [t]).length = ns at *
      generalize gs.length = ng at *
      go_wp2_with fail
      go_region_held3 (fun w' => w'.cell? ⟨g, 0, none⟩ = some (.bool t.null) ∧ w'.cell? ⟨g, 1, none⟩ = some (.slice fa1 nf fa2) ∧ w'.cell? ⟨g, 2, none⟩ = some (.slice la1 nl la2))
        (go_keep)
        (fail)
      clear s10 s11 s12 s20 s21 s22 s30 s31 s32 k0 k1 k2 c0 c1 c2 c3 c4 f0 f1 f2 f3 f4 D2 D7 E3 E8
      generalize (((wr.setCell ⟨pb, 1, none⟩ (.bool t.null)).setCell ⟨pb, 2, none⟩ (.slice fa1 nf fa2)).setCell ⟨pb, 3, none⟩ (.slice la1 nl la2)).drew = U at *
      go_wp2
      obtain ⟨E1, E2⟩ := hfin.out _ hKf.out
      exact bodyPost_ret (v := .tuple #[.agg #[.slice sa ns sc, .bool t.null, .slice fa1 nf fa2, .slice la1 nl la2, .slice ga ng gc], .int .i64 0]) (by simp [results, Tryz.results35, go_sem, R0, R1, R2, R3, R4]) rfl ⟨_, _, _, _, fl, rfl, E1, hF2.out, E2⟩

end Go.Proofs.YtonlcnmlklaicaaGreatDoor
namespace Go.Proofs.YtonlcnmlklaicaaGreatDoor

abbrev St := List Int
def noSp : Sp := ⟨[], false, [], [], []⟩
def enc (r k : Nat) : Int := (r : Int) * 1000 + (k : Int)
theorem enc_div {r k : Nat} (h : k < 1000) : (enc r k / 1000).toNat = r := by unfold enc; omega
theorem enc_mod {r k : Nat} (h : k < 1000) : enc r k % 1000 = (k : Int) := by unfold enc; omega
theorem enc_inj {r k r' k' : Nat} (h : k < 1000) (h' : k' < 1000) (e : enc r k = enc r' k') : r = r' ∧ k = k' := by unfold enc at e; omega
def wideL (r : Nat) (l : List Int) : List Int := l.map fun x => (r : Int) * 1000 + x
theorem wideL_mem (r : Nat) (l : List Int) (y : Int) : y ∈ wideL r l ↔ ∃ x ∈ l, y = (r : Int) * 1000 + x := by
  unfold wideL
  rw [List.mem_map]
  exact ⟨fun ⟨x, h, e⟩ => ⟨x, h, e.symm⟩, fun ⟨x, h, e⟩ => ⟨x, h, e.symm⟩⟩
def oneS (r : Nat) (p : Sp) : List Int := wideL r p.first ++ (if p.null then [(r : Int) * 1000 + 999] else [])
/-- the first state, of the first m rules -/
def firstS (all : List Sp) : Nat → St
  | 0 => []
  | m + 1 => firstS all m ++ oneS m (all.getD m noSp)
/-- where a state's number leads by a byte -/
def byOne (all : List Sp) (b : Nat) (x : Int) : List Int :=
  if x % 1000 = 999 ∨ hasB ((all.getD (x / 1000).toNat noSp).sets.getD (x % 1000).toNat noneB) b = false then []
  else wideL (x / 1000).toNat ((all.getD (x / 1000).toNat noSp).follow.getD (x % 1000).toNat []) ++ (if (all.getD (x / 1000).toNat noSp).last.contains (x % 1000) then [x / 1000 * 1000 + 999] else [])
def byS (all : List Sp) (st : St) (b : Nat) : St := ofL (st.flatMap (byOne all b))
def accS : St → Int
  | [] => -1
  | x :: l => if x % 1000 = 999 then x / 1000 else accS l
theorem byS_nil (all : List Sp) (b : Nat) : byS all [] b = [] := rfl
theorem byS_up (all : List Sp) (st : St) (b : Nat) : Up (byS all st b) := ofL_up _
theorem byS_mem (all : List Sp) (st : St) (b : Nat) (y : Int) : y ∈ byS all st b ↔ ∃ x ∈ st, y ∈ byOne all b x := by
  unfold byS
  rw [ofL_mem, List.mem_flatMap]
/-- these are the rules' spots -/
structure RuS (ts : List Rx) (all : List Sp) : Prop where
  len : all.length = ts.length
  is : ∀ r (h : r < ts.length), IsSp ts[r] (all.getD r noSp)
  few : ∀ r (h : r < ts.length), nSets ts[r] ≤ 60
  up : ∀ r, r < ts.length → Up (all.getD r noSp).first
/-- what a state's number may be -/
def FrmS (ts : List Rx) (x : Int) : Prop := ∃ r, ∃ h : r < ts.length, ∃ k, x = enc r k ∧ (k = 999 ∨ k < nSets ts[r])
theorem FrmS.pos {ts : List Rx} {x : Int} (h : FrmS ts x) : 0 ≤ x := by
  obtain ⟨r, _, k, rfl, _⟩ := h
  unfold enc
  omega
theorem oneS_mem {ts : List Rx} {all : List Sp} (R : RuS ts all) {r : Nat} (h : r < ts.length) (x : Int) :
    x ∈ oneS r (all.getD r noSp) ↔ (∃ k, Fst ts[r] 0 k ∧ x = enc r k) ∨ (ts[r].null = true ∧ x = enc r 999) := by
  unfold oneS
  rw [List.mem_append, wideL_mem]
  have H := R.is r h
  constructor
  · rintro (⟨y, h1, h2⟩ | h1)
    · obtain ⟨k, rfl, hk⟩ := (H.first y).1 h1
      exact Or.inl ⟨k, hk, h2⟩
    · rw [H.null] at h1
      split at h1
      · rename_i hn
        exact Or.inr ⟨hn, by simpa [enc] using h1⟩
      · cases h1
  · rintro (⟨k, hk, rfl⟩ | ⟨hn, rfl⟩)
    · exact Or.inl ⟨(k : Int), (H.first _).2 ⟨k, rfl, hk⟩, rfl⟩
    · refine Or.inr ?_
      rw [H.null, if_pos hn]
      simp [enc]
theorem firstS_mem (all : List Sp) (x : Int) : ∀ m, x ∈ firstS all m ↔ ∃ r, r < m ∧ x ∈ oneS r (all.getD r noSp)
  | 0 => by simp [firstS]
  | m + 1 => by
    rw [firstS, List.mem_append, firstS_mem all x m]
    constructor
    · rintro (⟨r, h, hx⟩ | hx)
      · exact ⟨r, by omega, hx⟩
      · exact ⟨m, by omega, hx⟩
    · rintro ⟨r, h, hx⟩
      by_cases e : r = m
      · subst e; exact Or.inr hx
      · exact Or.inl ⟨r, by omega, hx⟩
theorem oneS_in {ts : List Rx} {all : List Sp} (R : RuS ts all) {r : Nat} (h : r < ts.length) {x : Int} (hx : x ∈ oneS r (all.getD r noSp)) : ∃ k, x = enc r k ∧ k < 1000 ∧ (k = 999 ∨ k < nSets ts[r]) := by
  rcases (oneS_mem R h x).1 hx with ⟨k, hk, rfl⟩ | ⟨_, rfl⟩
  · have := fst_in ts[r] 0 k hk
    have := R.few r h
    exact ⟨k, rfl, by omega, Or.inr (by omega)⟩
  · exact ⟨999, rfl, by omega, Or.inl rfl⟩
theorem up_app {a b : List Int} (ha : Up a) (hb : Up b) (h : ∀ x ∈ a, ∀ y ∈ b, x < y) : Up (a ++ b) := List.pairwise_append.2 ⟨ha, hb, h⟩
theorem wideL_up (r : Nat) {l : List Int} (h : Up l) : Up (wideL r l) := by
  unfold wideL
  rw [Up, List.pairwise_map]
  exact List.Pairwise.imp (fun h => by omega) h
theorem oneS_up {ts : List Rx} {all : List Sp} (R : RuS ts all) {r : Nat} (h : r < ts.length) : Up (oneS r (all.getD r noSp)) := by
  unfold oneS
  refine up_app (wideL_up r (R.up r h)) (by split <;> simp [Up]) ?_
  intro x hx y hy
  rw [wideL_mem] at hx
  obtain ⟨z, hz, rfl⟩ := hx
  obtain ⟨k, rfl, hk⟩ := ((R.is r h).first z).1 hz
  have := fst_in ts[r] 0 k hk
  have := R.few r h
  split at hy
  · have : y = (r : Int) * 1000 + 999 := by simpa using hy
    omega
  · cases hy
theorem firstS_up {ts : List Rx} {all : List Sp} (R : RuS ts all) : ∀ m, m ≤ ts.length → Up (firstS all m)
  | 0, _ => List.Pairwise.nil
  | m + 1, hm => by
    refine up_app (firstS_up R m (by omega)) (oneS_up R (by omega)) ?_
    intro x hx y hy
    obtain ⟨r, hr, hx⟩ := (firstS_mem all x m).1 hx
    obtain ⟨k, rfl, _, _⟩ := oneS_in R (by omega) hx
    obtain ⟨k', rfl, _, _⟩ := oneS_in R (by omega) hy
    unfold enc
    omega
theorem byOne_end (all : List Sp) (b r : Nat) : byOne all b (enc r 999) = [] := by
  have e : enc r 999 % 1000 = 999 := enc_mod (by omega)
  unfold byOne
  rw [if_pos (Or.inl e)]
theorem byOne_mem {ts : List Rx} {all : List Sp} (R : RuS ts all) {r j : Nat} (h : r < ts.length) (hj : j < nSets ts[r]) (b : Nat) (y : Int) :
    y ∈ byOne all b (enc r j) ↔ hasB (gOf ts[r] j) b = true ∧ ((∃ k, Fol ts[r] 0 j k ∧ y = enc r k) ∨ (Lst ts[r] 0 j ∧ y = enc r 999)) := by
  have hf := R.few r h
  have H := R.is r h
  have e1 : (enc r j / 1000).toNat = r := enc_div (by omega)
  have e2 : enc r j % 1000 = (j : Int) := enc_mod (by omega)
  have e3 : enc r j / 1000 * 1000 + 999 = enc r 999 := by unfold enc; omega
  have e4 : ((all.getD r noSp).sets.getD j noneB) = gOf ts[r] j := by rw [H.sets]; rfl
  unfold byOne
  rw [e1, e2, e3, Int.toNat_natCast, e4]
  by_cases hb : hasB (gOf ts[r] j) b = true
  · rw [if_neg (by rw [hb]; simp; omega)]
    simp only [hb, true_and]
    rw [List.mem_append, wideL_mem]
    refine or_congr ?_ ?_
    · constructor
      · rintro ⟨x, h1, rfl⟩
        obtain ⟨k, rfl, hk⟩ := (H.follow j x hj).1 h1
        exact ⟨k, hk, rfl⟩
      · rintro ⟨k, hk, rfl⟩
        exact ⟨(k : Int), (H.follow j _ hj).2 ⟨k, rfl, hk⟩, rfl⟩
    · by_cases hl : (all.getD r noSp).last.contains (j : Int) = true
      · rw [if_pos hl]
        have := (H.last_has j).1 hl
        simp [this]
      · rw [if_neg hl]
        have : ¬ Lst ts[r] 0 j := fun h => hl ((H.last_has j).2 h)
        simp [this]
  · rw [if_pos (Or.inr (by simpa using hb))]
    simp [hb]
/-- a state's numbers lead to numbers of states -/
theorem by_frm {ts : List Rx} {all : List Sp} (R : RuS ts all) {st : St} (h : ∀ x ∈ st, FrmS ts x) (b : Nat) : ∀ y ∈ byS all st b, FrmS ts y := by
  intro y hy
  obtain ⟨x, hx, hy⟩ := (byS_mem all st b y).1 hy
  obtain ⟨r, hr, k, rfl, rfl | hk⟩ := h x hx
  · rw [byOne_end] at hy; cases hy
  · rcases ((byOne_mem R hr hk b y).1 hy).2 with ⟨k', hf, rfl⟩ | ⟨_, rfl⟩
    · have := fol_in ts[r] 0 k k' hf
      exact ⟨r, hr, k', rfl, Or.inr (by omega)⟩
    · exact ⟨r, hr, 999, rfl, Or.inl rfl⟩
theorem first_frm {ts : List Rx} {all : List Sp} (R : RuS ts all) : ∀ x ∈ firstS all all.length, FrmS ts x := by
  intro x hx
  obtain ⟨r, hr, hx⟩ := (firstS_mem all x _).1 hx
  have hr' : r < ts.length := by rw [← R.len]; exact hr
  obtain ⟨k, rfl, _, h⟩ := oneS_in R hr' hx
  exact ⟨r, hr', k, rfl, h⟩
/-- the state behind i bytes of a text -/
def runK (all : List Sp) (s : Txt) : Nat → St
  | 0 => firstS all all.length
  | i + 1 => byS all (runK all s i) (s.getD i 0).toNat
theorem runK_frm {ts : List Rx} {all : List Sp} (R : RuS ts all) (s : Txt) : ∀ i, ∀ x ∈ runK all s i, FrmS ts x
  | 0 => first_frm R
  | i + 1 => by_frm R (runK_frm R s i) _
theorem runK_up {ts : List Rx} {all : List Sp} (R : RuS ts all) (s : Txt) : ∀ i, Up (runK all s i)
  | 0 => firstS_up R _ (by rw [R.len]; exact Nat.le_refl _)
  | _ + 1 => byS_up _ _ _
/-- who is in the state behind i bytes -/
theorem runK_is {ts : List Rx} {all : List Sp} (R : RuS ts all) (s : Txt) : ∀ i, i ≤ s.length → ∀ r (h : r < ts.length),
    (∀ k, k < nSets ts[r] → (enc r k ∈ runK all s i ↔ InT ts[r] (s.take i) k)) ∧ (enc r 999 ∈ runK all s i ↔ Mat ts[r] (s.take i))
  | 0, _, r, h => by
    have key : ∀ k, k < 1000 → (enc r k ∈ runK all s 0 ↔ enc r k ∈ oneS r (all.getD r noSp)) := by
      intro k hk
      rw [runK, firstS_mem]
      constructor
      · rintro ⟨r', h', hx⟩
        have hr' : r' < ts.length := by rw [← R.len]; exact h'
        obtain ⟨k', e, hk', _⟩ := oneS_in R hr' hx
        obtain ⟨rfl, rfl⟩ := enc_inj hk hk' e
        exact hx
      · exact fun hx => ⟨r, by rw [R.len]; exact h, hx⟩
    have hf := R.few r h
    refine ⟨fun k hk => ?_, ?_⟩
    · rw [key k (by omega), oneS_mem R h, List.take_zero, inT_nil]
      constructor
      · rintro (⟨k', h1, e⟩ | ⟨_, e⟩)
        · have := fst_in ts[r] 0 k' h1
          obtain ⟨_, rfl⟩ := enc_inj (by omega) (by omega) e
          exact h1
        · have := (enc_inj (by omega) (by omega) e).2
          omega
      · exact fun h1 => Or.inl ⟨k, h1, rfl⟩
    · rw [key 999 (by omega), oneS_mem R h, List.take_zero, mat_nil]
      constructor
      · rintro (⟨k', h1, e⟩ | ⟨h1, _⟩)
        · have := fst_in ts[r] 0 k' h1
          have := (enc_inj (by omega) (by omega) e).2
          omega
        · exact h1
      · exact fun h1 => Or.inr ⟨h1, rfl⟩
  | i + 1, hi, r, h => by
    have ih := runK_is R s i (by omega)
    have hf := R.few r h
    rw [take_more s i (by omega)]
    have key : ∀ y, y ∈ runK all s (i + 1) ↔ ∃ r', ∃ h' : r' < ts.length, ∃ j, InT ts[r'] (s.take i) j ∧ hasB (gOf ts[r'] j) (s.getD i 0).toNat = true ∧ ((∃ k, Fol ts[r'] 0 j k ∧ y = enc r' k) ∨ (Lst ts[r'] 0 j ∧ y = enc r' 999)) := by
      intro y
      rw [runK, byS_mem]
      constructor
      · rintro ⟨x, hx, hy⟩
        obtain ⟨r', h', j, rfl, rfl | hj⟩ := runK_frm R s i x hx
        · rw [byOne_end] at hy; cases hy
        · obtain ⟨hb, hy⟩ := (byOne_mem R h' hj _ y).1 hy
          exact ⟨r', h', j, ((ih r' h').1 j hj).1 hx, hb, hy⟩
      · rintro ⟨r', h', j, h1, h2, h3⟩
        exact ⟨enc r' j, ((ih r' h').1 j h1.lt).2 h1, (byOne_mem R h' h1.lt _ y).2 ⟨h2, h3⟩⟩
    refine ⟨fun k hk => ?_, ?_⟩
    · rw [key, inT_snoc]
      constructor
      · rintro ⟨r', h', j, h1, h2, ⟨k', h3, e⟩ | ⟨_, e⟩⟩
        · have := fol_in ts[r'] 0 j k' h3
          have := R.few r' h'
          obtain ⟨rfl, rfl⟩ := enc_inj (by omega) (by omega) e
          exact ⟨j, ⟨h1, h2⟩, h3⟩
        · have := (enc_inj (by omega) (by omega) e).2
          omega
      · rintro ⟨j, ⟨h1, h2⟩, h3⟩
        exact ⟨r, h, j, h1, h2, Or.inl ⟨k, h3, rfl⟩⟩
    · rw [key, mat_snoc]
      constructor
      · rintro ⟨r', h', j, h1, h2, ⟨k', h3, e⟩ | ⟨h3, e⟩⟩
        · have := fol_in ts[r'] 0 j k' h3
          have := R.few r' h'
          have := (enc_inj (by omega) (by omega) e).2
          omega
        · obtain ⟨rfl, _⟩ := enc_inj (by omega) (by omega) e
          exact ⟨j, ⟨h1, h2⟩, h3⟩
      · rintro ⟨j, ⟨h1, h2⟩, h3⟩
        exact ⟨r, h, j, h1, h2, Or.inr ⟨h3, rfl⟩⟩
/-- the first rule whose end is in a state -/
theorem acc_none {ts : List Rx} : ∀ {st : St}, (∀ x ∈ st, FrmS ts x) → (∀ r, r < ts.length → ¬ enc r 999 ∈ st) → (∀ r (h : r < ts.length), nSets ts[r] ≤ 60) → accS st = -1
  | [], _, _, _ => rfl
  | x :: l, hf, hn, h60 => by
    have hx : ¬ x % 1000 = 999 := by
      intro hx
      obtain ⟨r, h, k, rfl, rfl | hk⟩ := hf x (by simp)
      · exact hn r h (by simp)
      · have := h60 r h
        rw [enc_mod (by omega)] at hx
        omega
    rw [accS, if_neg hx]
    exact acc_none (fun y hy => hf y (by simp [hy])) (fun r h hm => hn r h (by simp [hm])) h60
theorem acc_some {ts : List Rx} {r : Nat} : ∀ {st : St}, Up st → (∀ x ∈ st, FrmS ts x) → enc r 999 ∈ st → (∀ r', r' < r → ¬ enc r' 999 ∈ st) → (∀ r (h : r < ts.length), nSets ts[r] ≤ 60) → accS st = (r : Int)
  | [], _, _, h, _, _ => by cases h
  | x :: l, hu, hf, hm, hn, h60 => by
    rw [Up, List.pairwise_cons] at hu
    by_cases hx : x % 1000 = 999
    · rw [accS, if_pos hx]
      obtain ⟨r0, h, k, rfl, hk⟩ := hf x (by simp)
      have hk9 : k = 999 := by
        rcases hk with rfl | hk
        · rfl
        · have := h60 r0 h
          rw [enc_mod (by omega)] at hx
          omega
      subst hk9
      have hle : enc r0 999 ≤ enc r 999 := by
        rcases List.mem_cons.1 hm with e | hm
        · omega
        · have := hu.1 _ hm; omega
      have hge : ¬ r0 < r := fun hlt => hn r0 hlt (by simp)
      have hr : r0 = r := by unfold enc at hle; omega
      subst hr
      unfold enc
      omega
    · rw [accS, if_neg hx]
      have hm' : enc r 999 ∈ l := by
        rcases List.mem_cons.1 hm with e | hm
        · rw [← e, enc_mod (by omega)] at hx
          exact absurd rfl hx
        · exact hm
      exact acc_some hu.2 (fun y hy => hf y (by simp [hy])) hm' (fun r' h' h => hn r' h' (by simp [h])) h60
theorem acc_ge {ts : List Rx} : ∀ {st : St}, (∀ x ∈ st, FrmS ts x) → -1 ≤ accS st
  | [], _ => by simp [accS]
  | x :: l, hf => by
    rw [accS]
    split
    · have := (hf x (by simp)).pos; omega
    · exact acc_ge fun y hy => hf y (by simp [hy])

end Go.Proofs.YtonlcnmlklaicaaGreatDoor
namespace Go.Proofs.YtonlcnmlklaicaaGreatDoor

/-- behind b bytes of a state: the states that are met by then, and its row -/
def rowK (all : List Sp) (st : St) (S : List St) : Nat → List St × List Int
  | 0 => (S, [])
  | b + 1 =>
    if byS all st b = [] then ((rowK all st S b).1, (rowK all st S b).2 ++ [-1])
    else if byS all st b ∈ (rowK all st S b).1 then ((rowK all st S b).1, (rowK all st S b).2 ++ [((rowK all st S b).1.idxOf (byS all st b) : Int)])
    else ((rowK all st S b).1 ++ [byS all st b], (rowK all st S b).2 ++ [((rowK all st S b).1.length : Int)])
theorem rowK_none {all : List Sp} {st : St} {S : List St} {b : Nat} (h : byS all st b = []) : rowK all st S (b + 1) = ((rowK all st S b).1, (rowK all st S b).2 ++ [-1]) := by rw [rowK, if_pos h]
theorem rowK_old {all : List Sp} {st : St} {S : List St} {b : Nat} (h : ¬ byS all st b = []) (hm : byS all st b ∈ (rowK all st S b).1) : rowK all st S (b + 1) = ((rowK all st S b).1, (rowK all st S b).2 ++ [((rowK all st S b).1.idxOf (byS all st b) : Int)]) := by rw [rowK, if_neg h, if_pos hm]
theorem rowK_new {all : List Sp} {st : St} {S : List St} {b : Nat} (h : ¬ byS all st b = []) (hm : ¬ byS all st b ∈ (rowK all st S b).1) : rowK all st S (b + 1) = ((rowK all st S b).1 ++ [byS all st b], (rowK all st S b).2 ++ [((rowK all st S b).1.length : Int)]) := by rw [rowK, if_neg h, if_neg hm]
theorem rowK_cases (all : List Sp) (st : St) (S : List St) (b : Nat) :
    (byS all st b = [] ∧ rowK all st S (b + 1) = ((rowK all st S b).1, (rowK all st S b).2 ++ [-1])) ∨
    (byS all st b ≠ [] ∧ byS all st b ∈ (rowK all st S b).1 ∧ rowK all st S (b + 1) = ((rowK all st S b).1, (rowK all st S b).2 ++ [((rowK all st S b).1.idxOf (byS all st b) : Int)])) ∨
    (byS all st b ≠ [] ∧ ¬ byS all st b ∈ (rowK all st S b).1 ∧ rowK all st S (b + 1) = ((rowK all st S b).1 ++ [byS all st b], (rowK all st S b).2 ++ [((rowK all st S b).1.length : Int)])) := by
  by_cases h : byS all st b = []
  · exact Or.inl ⟨h, rowK_none h⟩
  · by_cases hm : byS all st b ∈ (rowK all st S b).1
    · exact Or.inr (Or.inl ⟨h, hm, rowK_old h hm⟩)
    · exact Or.inr (Or.inr ⟨h, hm, rowK_new h hm⟩)
/-- a row's number is right -/
def RowOK (T : List St) (to : St) (n : Int) : Prop := (to = [] ∧ n = -1) ∨ (to ≠ [] ∧ ∃ m : Nat, n = (m : Int) ∧ T[m]? = some to)
theorem RowOK.more {T : List St} {to : St} {n : Int} (h : RowOK T to n) (U : List St) : RowOK (T ++ U) to n := by
  rcases h with h | ⟨h, m, e, hm⟩
  · exact Or.inl h
  · refine Or.inr ⟨h, m, e, ?_⟩
    have hlt : m < T.length := by
      rcases Nat.lt_or_ge m T.length with h | h
      · exact h
      · rw [List.getElem?_eq_none h] at hm; cases hm
    rw [List.getElem?_append_left hlt]
    exact hm
theorem RowOK.range {T : List St} {to : St} {n : Int} (h : RowOK T to n) : -1 ≤ n ∧ n < (T.length : Int) ∨ (n = -1) := by
  rcases h with ⟨_, h⟩ | ⟨_, m, e, hm⟩
  · exact Or.inr h
  · have hlt : m < T.length := by
      rcases Nat.lt_or_ge m T.length with h | h
      · exact h
      · rw [List.getElem?_eq_none h] at hm; cases hm
    exact Or.inl ⟨by omega, by omega⟩
theorem idx_at {T : List St} {to : St} (h : to ∈ T) : T[T.idxOf to]? = some to := by
  have hl : T.idxOf to < T.length := List.idxOf_lt_length_of_mem h
  rw [List.getElem?_eq_getElem hl, List.getElem_idxOf hl]
theorem getD_snoc_left {α : Type} {l : List α} {x d : α} {c : Nat} (h : c < l.length) : (l ++ [x]).getD c d = l.getD c d := by
  simp [List.getD_eq_getElem?_getD, List.getElem?_append_left h]
theorem getD_snoc_at {α : Type} {l : List α} {x d : α} {c : Nat} (h : c = l.length) : (l ++ [x]).getD c d = x := by
  subst h
  simp [List.getD_eq_getElem?_getD]
/-- what a row is, when b of its bytes are gone through -/
structure RowIs (all : List Sp) (st : St) (S : List St) (b : Nat) (q : List St × List Int) : Prop where
  pre : ∃ U, q.1 = S ++ U ∧ (∀ x ∈ U, ∃ c, c < b ∧ x = byS all st c ∧ x ≠ [])
  nd : q.1.Nodup
  len : q.2.length = b
  row : ∀ c, c < b → RowOK q.1 (byS all st c) (q.2.getD c 0)
theorem rowK_is (all : List Sp) (st : St) (S : List St) (hS : S.Nodup) : ∀ b, RowIs all st S b (rowK all st S b)
  | 0 => ⟨⟨[], by simp [rowK], by simp⟩, hS, rfl, fun c hc => by omega⟩
  | b + 1 => by
    have ih := rowK_is all st S hS b
    obtain ⟨U, hU, hU'⟩ := ih.pre
    rcases rowK_cases all st S b with ⟨h, e⟩ | ⟨h, hm, e⟩ | ⟨h, hm, e⟩
    · rw [e]
      refine ⟨⟨U, hU, fun x hx => ?_⟩, ih.nd, by simp [ih.len], fun c hc => ?_⟩
      · obtain ⟨c, hc, hx⟩ := hU' x hx
        exact ⟨c, by omega, hx⟩
      · rcases Nat.lt_or_ge c b with hlt | hge
        · rw [getD_snoc_left (by rw [ih.len]; exact hlt)]
          exact ih.row c hlt
        · obtain rfl : c = b := by omega
          rw [getD_snoc_at ih.len.symm]
          exact Or.inl ⟨h, rfl⟩
    · rw [e]
      refine ⟨⟨U, hU, fun x hx => ?_⟩, ih.nd, by simp [ih.len], fun c hc => ?_⟩
      · obtain ⟨c, hc, hx⟩ := hU' x hx
        exact ⟨c, by omega, hx⟩
      · rcases Nat.lt_or_ge c b with hlt | hge
        · rw [getD_snoc_left (by rw [ih.len]; exact hlt)]
          exact ih.row c hlt
        · obtain rfl : c = b := by omega
          rw [getD_snoc_at ih.len.symm]
          exact Or.inr ⟨h, _, rfl, idx_at hm⟩
    · rw [e]
      refine ⟨⟨U ++ [byS all st b], by rw [hU, List.append_assoc], fun x hx => ?_⟩, ?_, by simp [ih.len], fun c hc => ?_⟩
      · rcases List.mem_append.1 hx with hx | hx
        · obtain ⟨c, hc, hx⟩ := hU' x hx
          exact ⟨c, by omega, hx⟩
        · have : x = byS all st b := by simpa using hx
          exact ⟨b, by omega, this, by rw [this]; exact h⟩
      · rw [List.nodup_append]
        refine ⟨ih.nd, by simp, fun a ha b' hb => ?_⟩
        have : b' = byS all st b := by simpa using hb
        subst this
        exact fun e => hm (e ▸ ha)
      · rcases Nat.lt_or_ge c b with hlt | hge
        · rw [getD_snoc_left (by rw [ih.len]; exact hlt)]
          exact (ih.row c hlt).more _
        · obtain rfl : c = b := by omega
          rw [getD_snoc_at ih.len.symm]
          exact Or.inr ⟨h, _, rfl, by simp⟩
/-- the states, the rows and what they accept, when i states are gone through -/
def stsK (all : List Sp) : Nat → List St
  | 0 => [firstS all all.length]
  | i + 1 => (rowK all ((stsK all i).getD i []) (stsK all i) 256).1
def nxtK (all : List Sp) : Nat → List (List Int)
  | 0 => []
  | i + 1 => nxtK all i ++ [(rowK all ((stsK all i).getD i []) (stsK all i) 256).2]
def accK (all : List Sp) : Nat → List Int
  | 0 => []
  | i + 1 => accK all i ++ [accS ((stsK all i).getD i [])]
theorem nxtK_len (all : List Sp) : ∀ i, (nxtK all i).length = i
  | 0 => rfl
  | i + 1 => by simp [nxtK, nxtK_len all i]
theorem accK_len (all : List Sp) : ∀ i, (accK all i).length = i
  | 0 => rfl
  | i + 1 => by simp [accK, accK_len all i]
theorem stsK_nd (all : List Sp) : ∀ i, (stsK all i).Nodup
  | 0 => by simp [stsK]
  | i + 1 => (rowK_is all _ _ (stsK_nd all i) 256).nd
theorem stsK_more (all : List Sp) (i : Nat) : ∃ U, stsK all (i + 1) = stsK all i ++ U ∧ (∀ x ∈ U, ∃ c, c < 256 ∧ x = byS all ((stsK all i).getD i []) c ∧ x ≠ []) := (rowK_is all _ _ (stsK_nd all i) 256).pre
theorem stsK_mono (all : List Sp) (i : Nat) : ∀ d, ∃ U, stsK all (i + d) = stsK all i ++ U
  | 0 => ⟨[], by simp⟩
  | d + 1 => by
    obtain ⟨U, hU⟩ := stsK_mono all i d
    obtain ⟨V, hV, _⟩ := stsK_more all (i + d)
    exact ⟨U ++ V, by rw [← Nat.add_assoc, hV, hU, List.append_assoc]⟩
theorem stsK_first (all : List Sp) (i : Nat) : (stsK all i)[0]? = some (firstS all all.length) := by
  obtain ⟨U, hU⟩ := stsK_mono all 0 i
  rw [Nat.zero_add] at hU
  rw [hU]
  simp [stsK]
theorem stsK_keep (all : List Sp) {i j : Nat} (h : i ≤ j) {m : Nat} (hm : m < (stsK all i).length) : (stsK all j).getD m [] = (stsK all i).getD m [] := by
  obtain ⟨U, hU⟩ := stsK_mono all i (j - i)
  rw [show i + (j - i) = j by omega] at hU
  rw [hU]
  simp [List.getD_eq_getElem?_getD, List.getElem?_append_left hm]
/-- a row is right at every later time -/
theorem nxtK_row (all : List Sp) {i j : Nat} (hij : j < i) : ((nxtK all i).getD j []).length = 256 ∧ ∀ c, c < 256 → RowOK (stsK all i) (byS all ((stsK all j).getD j []) c) (((nxtK all i).getD j []).getD c 0) := by
  induction i with
  | zero => omega
  | succ i ih =>
    rw [nxtK]
    rcases Nat.lt_or_ge j i with hlt | hge
    · rw [getD_snoc_left (by rw [nxtK_len]; exact hlt)]
      obtain ⟨h1, h2⟩ := ih hlt
      refine ⟨h1, fun c hc => ?_⟩
      obtain ⟨U, hU, _⟩ := stsK_more all i
      rw [hU]
      exact (h2 c hc).more U
    · obtain rfl : j = i := by omega
      rw [getD_snoc_at (nxtK_len all j).symm]
      have H := rowK_is all ((stsK all j).getD j []) (stsK all j) (stsK_nd all j) 256
      exact ⟨H.len, H.row⟩
theorem accK_at (all : List Sp) {i j : Nat} (hij : j < i) : (accK all i).getD j 0 = accS ((stsK all j).getD j []) := by
  induction i with
  | zero => omega
  | succ i ih =>
    rw [accK]
    rcases Nat.lt_or_ge j i with hlt | hge
    · rw [getD_snoc_left (by rw [accK_len]; exact hlt)]
      exact ih hlt
    · obtain rfl : j = i := by omega
      rw [getD_snoc_at (accK_len all j).symm]
theorem stsK_frm {ts : List Rx} {all : List Sp} (R : RuS ts all) : ∀ i, ∀ st ∈ stsK all i, ∀ x ∈ st, FrmS ts x
  | 0 => by
    intro st hst
    have : st = firstS all all.length := by simpa [stsK] using hst
    subst this
    exact first_frm R
  | i + 1 => by
    have ih := stsK_frm R i
    intro st hst
    obtain ⟨U, hU, hU'⟩ := stsK_more all i
    rw [hU] at hst
    rcases List.mem_append.1 hst with h | h
    · exact ih st h
    · obtain ⟨c, _, rfl, _⟩ := hU' st h
      refine by_frm R (fun x hx => ?_) c
      rcases Nat.lt_or_ge i (stsK all i).length with hl | hl
      · have hm : (stsK all i).getD i [] ∈ stsK all i := by
          rw [List.getD_eq_getElem?_getD, List.getElem?_eq_getElem hl]
          exact List.getElem_mem hl
        exact ih _ hm x hx
      · rw [List.getD_eq_getElem?_getD, List.getElem?_eq_none hl] at hx
        cases hx
/-- where the rows lead behind i bytes -/
def goK (N : List (List Int)) (s : Txt) : Nat → Int
  | 0 => 0
  | i + 1 => if goK N s i < 0 then -1 else (N.getD (goK N s i).toNat []).getD (s.getD i 0).toNat 0
/-- where the finished automaton leads is the state of rules behind the text -/
theorem go_run (all : List Sp) {n : Nat} (hn : (stsK all n).length = n) (hj : ∀ j, j < n → j < (stsK all j).length) (s : Txt) : ∀ i,
    (goK (nxtK all n) s i = -1 ∧ runK all s i = []) ∨ (∃ m : Nat, goK (nxtK all n) s i = (m : Int) ∧ (stsK all n)[m]? = some (runK all s i))
  | 0 => Or.inr ⟨0, rfl, stsK_first all n⟩
  | i + 1 => by
    rcases go_run all hn hj s i with ⟨h1, h2⟩ | ⟨m, h1, h2⟩
    · left
      rw [goK, h1, runK, h2]
      exact ⟨rfl, byS_nil _ _⟩
    · have hm : m < n := by
        rcases Nat.lt_or_ge m (stsK all n).length with h | h
        · omega
        · rw [List.getElem?_eq_none h] at h2; cases h2
      have hb : (s.getD i 0).toNat < 256 := (s.getD i 0).toNat_lt
      have hrow := (nxtK_row all hm).2 _ hb
      have hge : (stsK all n).getD m [] = runK all s i := by rw [List.getD_eq_getElem?_getD, h2]; rfl
      rw [goK, h1, if_neg (by omega), Int.toNat_natCast, runK]
      rw [stsK_keep all (by omega) (hj m hm)] at hge
      rw [hge] at hrow
      rcases hrow with ⟨e1, e2⟩ | ⟨_, k, e2, e3⟩
      · exact Or.inl ⟨e2, e1⟩
      · exact Or.inr ⟨k, e2, e3⟩
/-- what the finished automaton accepts a text by -/
def accG (all : List Sp) (n : Nat) (s : Txt) : Int := if goK (nxtK all n) s s.length < 0 then -1 else (accK all n).getD (goK (nxtK all n) s s.length).toNat 0
theorem accG_run (all : List Sp) {n : Nat} (hn : (stsK all n).length = n) (hj : ∀ j, j < n → j < (stsK all j).length) (s : Txt) : accG all n s = accS (runK all s s.length) := by
  unfold accG
  rcases go_run all hn hj s s.length with ⟨h1, h2⟩ | ⟨m, h1, h2⟩
  · rw [h1, h2]; rfl
  · have hm : m < n := by
      rcases Nat.lt_or_ge m (stsK all n).length with h | h
      · omega
      · rw [List.getElem?_eq_none h] at h2; cases h2
    have hge : (stsK all n).getD m [] = runK all s s.length := by rw [List.getD_eq_getElem?_getD, h2]; rfl
    rw [h1, if_neg (by omega), Int.toNat_natCast, accK_at all hm, ← stsK_keep all (Nat.le_of_lt hm) (hj m hm), hge]
/-- the first rule that fits -/
theorem accG_some {ts : List Rx} {all : List Sp} (R : RuS ts all) {n : Nat} (hn : (stsK all n).length = n) (hj : ∀ j, j < n → j < (stsK all j).length) (s : Txt) {r : Nat} (h : r < ts.length) (hm : Mat ts[r] s) (hf : ∀ r' (h' : r' < ts.length), r' < r → ¬ Mat ts[r'] s) : accG all n s = (r : Int) := by
  rw [accG_run all hn hj s]
  have key : ∀ r (h : r < ts.length), enc r 999 ∈ runK all s s.length ↔ Mat ts[r] s := fun r h => by
    have := (runK_is R s s.length (Nat.le_refl _) r h).2
    rw [List.take_length] at this
    exact this
  exact acc_some (runK_up R s _) (runK_frm R s _) ((key r h).2 hm) (fun r' hr' hc => hf r' (by omega) hr' ((key r' (by omega)).1 hc)) R.few
theorem accG_none {ts : List Rx} {all : List Sp} (R : RuS ts all) {n : Nat} (hn : (stsK all n).length = n) (hj : ∀ j, j < n → j < (stsK all j).length) (s : Txt) (hf : ∀ r (h : r < ts.length), ¬ Mat ts[r] s) : accG all n s = -1 := by
  rw [accG_run all hn hj s]
  exact acc_none (runK_frm R s _) (fun r h hc => hf r h (by
    have := (runK_is R s s.length (Nat.le_refl _) r h).2
    rw [List.take_length] at this
    exact this.1 hc)) R.few
/-- the automaton is right -/
theorem nxtK_right {ts : List Rx} {all : List Sp} (R : RuS ts all) {n : Nat} (hn : (stsK all n).length = n) (hj : ∀ j, j < n → j < (stsK all j).length) (h0 : 0 < n) : (∀ j, j < n → ((nxtK all n).getD j []).length = 256 ∧ -1 ≤ (accK all n).getD j 0 ∧ ∀ c, c < 256 → -1 ≤ ((nxtK all n).getD j []).getD c 0 ∧ ((nxtK all n).getD j []).getD c 0 < (n : Int)) := by
  intro j hlt
  obtain ⟨h1, h2⟩ := nxtK_row all hlt
  refine ⟨h1, ?_, fun c hc => ?_⟩
  · rw [accK_at all hlt]
    have hl := hj j hlt
    refine acc_ge (ts := ts) (stsK_frm R j _ ?_)
    rw [List.getD_eq_getElem?_getD, List.getElem?_eq_getElem hl]
    exact List.getElem_mem hl
  · rcases (h2 c hc).range with h | h
    · rw [hn] at h; exact h
    · rw [h]; omega

end Go.Proofs.YtonlcnmlklaicaaGreatDoor
