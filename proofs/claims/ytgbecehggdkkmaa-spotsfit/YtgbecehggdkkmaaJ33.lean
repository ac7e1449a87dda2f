/- spots.whole. Sets of bytes word by word: or, and, not, one; how many bits a word has. -/
import Derived.Test.YtgbecehggdkkmaaJ32
import Derived.Test.YtgbecehggdkkmaaJ23
import Derived.Test.YtgbecehggdkkmaaJ1
namespace Go.Proofs.Ytgbecehggdkkmaa
open Go.RowKit

/-- rows of numbers -/
def RowsN (w : World) (xs : List Value) (ls : List (List Int)) : Prop := xs.length = ls.length ∧ ∀ j, Nums w (xs.getD j nilV) (ls.getD j [])
theorem RowsN.keep {w w' : World} {xs : List Value} {ls : List (List Int)} (h : RowsN w xs ls) (hb : Below w.heap.size w w') : RowsN w' xs ls := ⟨h.1, fun j => (h.2 j).keep hb⟩
theorem numss_rows {w : World} {v : Value} {ls : List (List Int)} (h : Numss w v ls) : ∃ gs, Rws w v gs ∧ RowsN w gs ls := by
  obtain ⟨a, cap, rfl, hc, hn, hat⟩ := h
  by_cases h0 : ls.length = 0
  · have : ls = [] := List.length_eq_zero_iff.1 h0
    subst this
    exact ⟨[], ⟨a, cap, rfl, hc, hn, fun j hj => absurd hj (Nat.not_lt_zero _)⟩, rfl, fun j => Nums.nil w⟩
  · obtain ⟨b, o, x, rfl, hb, _, _⟩ := hat 0 (by omega)
    have hx : ∀ j, j < ls.length → ∃ x, w.cell? ⟨b, o + j, none⟩ = some x ∧ Nums w x (ls.getD j []) := fun j hj => by
      obtain ⟨b', o', x, e, _, h1, h2⟩ := hat j hj
      cases e
      refine ⟨x, h1, ?_⟩
      rw [List.getD_eq_getElem?_getD, List.getElem?_eq_getElem hj]
      exact h2
    have hl : ((List.range ls.length).map fun j => (w.cell? ⟨b, o + j, none⟩).getD nilV).length = ls.length := by simp
    refine ⟨(List.range ls.length).map fun j => (w.cell? ⟨b, o + j, none⟩).getD nilV, ⟨some ⟨b, o, none⟩, cap, by rw [hl], by rw [hl]; exact hc, (fun h => by cases h), fun j hj => ⟨b, o, rfl, hb, ?_⟩⟩, hl, fun j => ?_⟩
    · rw [hl] at hj
      obtain ⟨x, h1, _⟩ := hx j hj
      simp [h1]
    · by_cases hj : j < ls.length
      · obtain ⟨x, h1, h2⟩ := hx j hj
        rw [List.getD_eq_getElem?_getD, List.getElem?_map, List.getElem?_range hj]
        simpa [h1] using h2
      · rw [List.getD_eq_getElem?_getD, List.getElem?_eq_none (by rw [hl]; omega), List.getD_eq_getElem?_getD, List.getElem?_eq_none (by omega)]
        exact Nums.nil w
theorem RowsN.one {w : World} {xs : List Value} {ls : List (List Int)} (h : RowsN w xs ls) : ∀ u ∈ xs, u.oneCell' = true := fun u hu => by
  obtain ⟨j, hj, rfl⟩ := List.getElem_of_mem hu
  have := h.2 j
  rw [List.getD_eq_getElem?_getD, List.getElem?_eq_getElem hj] at this
  obtain ⟨a, c, e, _⟩ := this
  simp only [Option.getD_some] at e
  rw [e]
  rfl
theorem RowsN.app {w : World} {xs ys : List Value} {ls ms : List (List Int)} (h : RowsN w xs ls) (h' : RowsN w ys ms) : RowsN w (xs ++ ys) (ls ++ ms) := by
  refine ⟨by rw [List.length_append, List.length_append, h.1, h'.1], fun j => ?_⟩
  by_cases hj : j < xs.length
  · have := h.2 j
    rw [List.getD_eq_getElem?_getD, List.getD_eq_getElem?_getD] at this ⊢
    rw [List.getElem?_append_left hj, List.getElem?_append_left (by rw [← h.1]; exact hj)]
    exact this
  · have := h'.2 (j - xs.length)
    rw [List.getD_eq_getElem?_getD, List.getD_eq_getElem?_getD] at this ⊢
    rw [List.getElem?_append_right (by omega), List.getElem?_append_right (by rw [← h.1]; omega), ← h.1]
    exact this
theorem RowsN.two {w : World} {a b : Value} {l m : List Int} (ha : Nums w a l) (hb : Nums w b m) : RowsN w [a, b] [l, m] := ⟨rfl, fun j => by
  match j with
  | 0 => exact ha
  | 1 => exact hb
  | j + 2 => exact Nums.nil w⟩
def allR (ls : List (List Int)) (n k : Nat) : Bool := (ls.take k).all fun l => insB l n
theorem allR_succ {ls : List (List Int)} {n k : Nat} (h : k < ls.length) : allR ls n (k + 1) = (allR ls n k && insB ls[k] n) := by
  unfold allR
  rw [List.take_succ_eq_append_getElem h, List.all_append]
  simp
theorem allR_no {ls : List (List Int)} {n k : Nat} (h : k < ls.length) (hn : insB ls[k] n = false) : (ls.all fun l => insB l n) = false := by
  rw [List.all_eq_false]
  exact ⟨ls[k], List.getElem_mem h, by rw [hn]; simp⟩
theorem good_rows (p : Sp) (h : p.follow.length = p.sets.length) : goodB p = (([p.first, p.last] ++ p.follow).all fun l => insB l p.sets.length) := by
  unfold goodB
  simp [h, Bool.and_assoc]
theorem Rws.lit2 (u : World) (a b : Value) : Rws (u.alloc (.cells #[a, b] 24)) (.slice (some ⟨u.heap.size, 0, none⟩) 2 2) [a, b] :=
  Rws.of_row (B := u.heap.size) (World.ownsRow_lit u #[a, b] 2 (Nat.le_refl _) (by unfold maxLen; omega) rfl)

set_option maxRecDepth 20000 in
set_option maxHeartbeats 4000000 in
theorem wholeC (sv fv lv gv : Value) (p : Sp) (w : World) (h : SpV w sv fv lv gv p) (h1 : p.sets.length ≤ 60) (_h2 : p.follow.length ≤ 60) (h3 : p.first.length ≤ 100) (h4 : p.last.length ≤ 100) (h5 : ∀ l ∈ p.follow, l.length ≤ 100) :
    Calls Try.prog 31 #[.agg #[sv, .bool p.null, fv, lv, gv]] w fun e w' => e = .returned (.bool (goodB p)) ∧ Below w.heap.size w w' := by
  obtain ⟨sa, sc, rfl⟩ : ∃ a c, sv = .slice a p.sets.length c := by obtain ⟨a, c, e, _⟩ := h.sets; exact ⟨a, c, e⟩
  obtain ⟨ga, gc, rfl⟩ : ∃ a c, gv = .slice a p.follow.length c := by obtain ⟨a, c, e, _⟩ := h.follow; exact ⟨a, c, e⟩
  obtain ⟨fa, fc, rfl⟩ : ∃ a c, fv = .slice a p.first.length c := by obtain ⟨a, c, e, _⟩ := h.first; exact ⟨a, c, e⟩
  obtain ⟨la, lc, rfl⟩ : ∃ a c, lv = .slice a p.last.length c := by obtain ⟨a, c, e, _⟩ := h.last; exact ⟨a, c, e⟩
  by_cases hg : p.follow.length = p.sets.length
  · obtain ⟨gs, hgs, hrn⟩ := numss_rows h.follow
    have hrows := RowsN.app (RowsN.two h.first h.last) hrn
    have hlen : ([p.first, p.last] ++ p.follow).length = p.sets.length + 2 := by simp [hg]
    have hb5 : ∀ j, ((([p.first, p.last] ++ p.follow).getD j []) : List Int).length ≤ 100 := fun j => by
      have key : ∀ x ∈ [p.first, p.last] ++ p.follow, x.length ≤ 100 := fun x hx => by
        simp only [List.cons_append, List.nil_append, List.mem_cons] at hx
        rcases hx with rfl | rfl | e
        · exact h3
        · exact h4
        · exact h5 _ e
      rw [List.getD_eq_getElem?_getD]
      by_cases hj : j < ([p.first, p.last] ++ p.follow).length
      · rw [List.getElem?_eq_getElem hj]
        exact key _ (List.getElem_mem hj)
      · rw [List.getElem?_eq_none (by omega)]; simp
    rw [good_rows p hg, hg]
    have hgl : gs.length = p.sets.length := hrn.1.trans hg
    have hFol := h.follow
    have hrows0 := hid hrows
    rw [hg] at hgs
    have hone := hid hrn.one
    obtain ⟨R0, hR0⟩ : ∃ R0 : Obj, R0 = .cells #[.slice sa p.sets.length sc, .bool p.null, .slice fa p.first.length fc, .slice la p.last.length lc, .slice ga p.sets.length gc] 27 := ⟨_, rfl⟩
    obtain ⟨R1, hR1⟩ : ∃ R1 : Obj, R1 = .cells #[.slice fa p.first.length fc, .slice la p.last.length lc] 24 := ⟨_, rfl⟩
    obtain ⟨R2, hR2⟩ : ∃ R2 : Obj, R2 = .cells #[.slice (some ⟨w.heap.size + 1, 0, none⟩) 2 2, .slice ga p.sets.length gc] 25 := ⟨_, rfl⟩
    have hb3 : Below w.heap.size w (((w.alloc R0).alloc R1).alloc R2) := bl_step (bl_step (al' w _) (al' _ _)) (al' _ _)
    have hbk := three_blocks w R0 R1 R2
    have hA1 : Rws (((w.alloc R0).alloc R1).alloc R2) (.slice (some ⟨w.heap.size + 1, 0, none⟩) 2 2) [.slice fa p.first.length fc, .slice la p.last.length lc] := by
      have h0 := (Rws.lit2 (w.alloc R0) (.slice fa p.first.length fc) (.slice la p.last.length lc)).keep (al' _ R2)
      rw [size_al] at h0
      rw [hR1]
      exact h0
    have hq2 := hbk.2.2
    rw [hR2] at hq2
    have k0 : (((w.alloc R0).alloc R1).alloc R2).cell? ⟨w.heap.size + 2, 0, none⟩ = some (.slice (some ⟨w.heap.size + 1, 0, none⟩) 2 2) := blk_cell (fr := (0, 0)) (T := 25) (by rw [hR2]; exact hq2) (by rfl)
    have k1 : (((w.alloc R0).alloc R1).alloc R2).cell? ⟨w.heap.size + 2, 1, none⟩ = some (.slice ga p.sets.length gc) := blk_cell (fr := (0, 0)) (T := 25) (by rw [hR2]; exact hq2) (by rfl)
    have hgl60 : gs.length ≤ 1000000 := by omega
    have GC := hid (concatR (.slice (some ⟨w.heap.size + 1, 0, none⟩) 2 2) (.slice ga p.sets.length gc) [.slice fa p.first.length fc, .slice la p.last.length lc] gs (w.heap.size + 2) (((w.alloc R0).alloc R1).alloc R2) (by simp) hgl60 (by simp) k0 k1 hA1 (hgs.keep hb3) (by simp [Value.oneCell']) hone.out)
    have hRN := hid (fun u (hu : Below (((w.alloc R0).alloc R1).alloc R2).heap.size (((w.alloc R0).alloc R1).alloc R2) u) => hrows0.out.keep (bl_step hb3 hu))
    have hC0 := hid (fun u (hu : Below (((w.alloc R0).alloc R1).alloc R2).heap.size (((w.alloc R0).alloc R1).alloc R2) u) => hs_keep hbk.1 hu)
    have hB3 := hid hb3
    have hxl : ([Value.slice fa p.first.length fc, Value.slice la p.last.length lc] ++ gs).length = p.sets.length + 2 := by simp [hgl]
    have hAs := hid (fun k hk => @allR_succ ([p.first, p.last] ++ p.follow) p.sets.length k hk)
    have hAn := hid (fun k hk => @allR_no ([p.first, p.last] ++ p.follow) p.sets.length k hk)
    have hAz : Hid (allR ([p.first, p.last] ++ p.follow) p.sets.length 0 = true) := hid (by simp [allR])
    have hAe : Hid (allR ([p.first, p.last] ++ p.follow) p.sets.length ([p.first, p.last] ++ p.follow).length = (([p.first, p.last] ++ p.follow).all fun l => insB l p.sets.length)) := hid (by unfold allR; rw [List.take_length])
    clear h hrows hrn hFol k0 k1 hA1 hgs hq2 hb3 hbk hgl60
    subst hR0
    subst hR1
    subst hR2
    have hFn : p.first.length ≤ 100 := h3
    generalize hL : [p.first, p.last] ++ p.follow = LS at hRN hlen hb5 hAs hAn hAz hAe hrows0 ⊢
    generalize p.first.length = nf at *
    generalize p.last.length = nl at *
    generalize hXS : [Value.slice fa nf fc, Value.slice la nl lc] ++ gs = XS at GC hRN hxl hrows0
    have hb5 := hid hb5
    clear hL hXS hg hgl h3 h4 h5 hrows0 hone
    generalize p.sets.length = N at *
    obtain ⟨r, hr⟩ : ∃ r, Hid (r = LS.all fun l => insB l N) := ⟨_, hid rfl⟩
    rw [← hr.out] at hAe ⊢
    have hAn : Hid (∀ k (hk : k < LS.length), insB LS[k] N = false → r = false) := hid (fun k hk e => hr.out.trans (hAn.out k hk e))
    have hTk := hid (fun (q : List Int) k h => @ins_take q N k h)
    have hNo := hid (fun (q : List Int) k h => @ins_no q N k h)
    go_enter Try.func31, Try.ntmps31
    go_wp2_with (go_at_call 47; refine GC.out.mono ?_; rintro e w2 ⟨v2, rfl, hO2, hb2⟩; obtain ⟨xa, xc, rfl, hx2⟩ := id (Rws.of_row hO2); clear hx2)
    have hRw := hid (Rws.of_row hO2)
    have hRN2 := hid (hRN.out w2 hb2)
    obtain ⟨p0, -, -, -, -, -⟩ := cells5s (hC0.out w2 hb2)
    have hB2 := hid (bl_step hB3.out hb2)
    clear GC hO2 hb2 hRN hC0 hB3
    have hxl0 := hid hxl
    rw [hxl] at hRw
    clear hxl
    go_loopw [24] (fun i wr => ∃ k : Nat, k ≤ N + 2 ∧ i = .int .i64 k ∧ Hid (allR LS N k = true) ∧ Hid (wr = w2)) (fun i _ => N + 2 - (intOf i).toNat)
    case atStart => exact ⟨0, Nat.zero_le _, rfl, hAz, hid rfl⟩
    case round =>
      obtain ⟨k, hk, rfl, hak, hwr⟩ := hrel
      have hwr' := hwr.out
      subst hwr'
      by_cases hlt : k < N + 2
      · have hltz : (k : Int) < (N : Int) + 2 := by omega
        have hkl : k < LS.length := by rw [hlen]; exact hlt
        have hkx : k < XS.length := by rw [hxl0.out]; exact hlt
        obtain ⟨a0, c0, e0, _, _, hat⟩ := hRw.out
        injection e0 with e1 e2 e3
        subst e1
        subst e3
        clear e2
        obtain ⟨b1, o1, rfl, hb1, c1⟩ := hat k hkx
        have hNk := hRN2.out.2 k
        have hb5k := hb5.out k
        have hxe : XS.getD k nilV = XS[k] := by rw [List.getD_eq_getElem?_getD, List.getElem?_eq_getElem hkx]; rfl
        have hle : LS.getD k [] = LS[k] := by rw [List.getD_eq_getElem?_getD, List.getElem?_eq_getElem hkl]; rfl
        rw [hxe, hle] at hNk
        rw [hle] at hb5k
        have hs1 := hid (hAs.out k hkl)
        have hn1 := hid (hAn.out k hkl)
        rw [hak.out, Bool.true_and] at hs1
        clear hat hxe hle
        generalize XS[k] = x at c1 hNk
        generalize LS[k] = L at hNk hs1 hn1 hb5k
        obtain ⟨xb, xd, rfl, _, _, hax⟩ := hNk
        have hax := hid hax
        have hL0 : Hid (insB (L.take 0) N = true) := hid (by simp [insB])
        have hLe : Hid (insB (L.take L.length) N = insB L N) := hid (by rw [List.take_length])
        obtain ⟨wo, hwo⟩ : ∃ y, y = wr := ⟨_, rfl⟩
        subst hwo
        go_wp2
        go_loopw [30] (fun i wr => ∃ q : Nat, q ≤ L.length ∧ i = .int .i64 q ∧ Hid (insB (L.take q) N = true) ∧ Hid (wr = wo)) (fun i _ => L.length - (intOf i).toNat)
        case atStart => exact ⟨0, Nat.zero_le _, rfl, hL0, hid rfl⟩
        case round =>
          obtain ⟨q, hq, rfl, haq, hwq⟩ := hrel
          have hwq' := hwq.out
          subst hwq'
          by_cases hql : q < L.length
          · have hqz : (q : Int) < (L.length : Int) := by omega
            obtain ⟨b2, o2, rfl, hb2, c2⟩ := hax.out q hql
            have hT1 := hid (hTk.out L q hql)
            have hN1 := hid (hNo.out L q hql)
            rw [haq.out, Bool.true_and] at hT1
            generalize L[q] = y at c2 hT1 hN1
            by_cases h0 : y < 0
            · have hres : r = false := hn1.out (hN1.out (by simp; omega))
              have hd : decide (y < 0) = true := by simpa using h0
              subst hres
              go_wp2
              go_ret
              exact ⟨rfl, hB2.out⟩
            · have hd : decide (y < 0) = false := by simpa using h0
              by_cases hy : y < (N : Int)
              · have hd1 : decide ((N : Int) ≤ y) = false := by simpa using hy
                have hnle : ¬ (N : Int) ≤ y := by omega
                have hnx : Hid (insB (L.take (q + 1)) N = true) := hid (by rw [hT1.out]; simp; omega)
                go_wp2
                go_roundw
                case rel => exact ⟨q + 1, by omega, by go_num, hnx, by first | exact hid rfl | exact hid trivial⟩
                case measure => simp [intOf]; omega
              · have hd1 : decide ((N : Int) ≤ y) = true := by simp; omega
                have hle : (N : Int) ≤ y := by omega
                have hres : r = false := hn1.out (hN1.out (by simp; omega))
                subst hres
                go_wp2
                go_ret
                exact ⟨rfl, hB2.out⟩
          · have hqz : ¬ (q : Int) < (L.length : Int) := by omega
            obtain rfl : q = L.length := by omega
            rw [hLe.out] at haq
            go_wp2
            go_roundw
            case rel => exact ⟨k + 1, by omega, by go_num, hid (by rw [hs1.out]; exact haq.out), by first | exact hid rfl | exact hid trivial⟩
            case measure => simp [intOf]; omega
      · have hltz : ¬ (k : Int) < (N : Int) + 2 := by omega
        obtain rfl : k = N + 2 := by omega
        rw [← hlen, hAe.out] at hak
        have hres : r = true := hak.out
        subst hres
        go_wp2
        go_ret
        exact ⟨rfl, hB2.out⟩
  · have hgb : goodB p = false := by simp [goodB, hg]
    have hne : ((p.follow.length : Int) == (p.sets.length : Int)) = false := by rw [beq_eq_false_iff_ne]; omega
    rw [hgb]
    clear h
    generalize p.follow.length = Gn at *
    generalize p.sets.length = N at *
    go_enter Try.func31, Try.ntmps31
    go_wp2
    go_ret
    exact ⟨rfl, al' w _⟩

end Go.Proofs.Ytgbecehggdkkmaa
namespace Go.Proofs.Ytgbecehggdkkmaa

theorem or_words (S T : W4) (hS : Fit4 S) (hT : Fit4 T) : orB S T = ⟨S.a ||| T.a, S.b ||| T.b, S.c ||| T.c, S.d ||| T.d⟩ := by
  have lt : ∀ m n : Nat, m < 18446744073709551616 → n < 18446744073709551616 → m ||| n < 18446744073709551616 := fun m n hm hn => Nat.or_lt_two_pow (n := 64) hm hn
  refine (mkB_eq ⟨lt _ _ hS.a hT.a, lt _ _ hS.b hT.b, lt _ _ hS.c hT.c, lt _ _ hS.d hT.d⟩ fun x hx => ?_).symm
  unfold hasB
  have h4 : x / 64 = 0 ∨ x / 64 = 1 ∨ x / 64 = 2 ∨ x / 64 = 3 := by omega
  rcases h4 with h | h | h | h <;> rw [h] <;> exact Nat.testBit_or _ _ _
theorem and_words (S T : W4) (hS : Fit4 S) : andB S T = ⟨S.a &&& T.a, S.b &&& T.b, S.c &&& T.c, S.d &&& T.d⟩ := by
  have lt : ∀ m n : Nat, m < 18446744073709551616 → m &&& n < 18446744073709551616 := fun m n hm => Nat.lt_of_le_of_lt Nat.and_le_left hm
  refine (mkB_eq ⟨lt _ _ hS.a, lt _ _ hS.b, lt _ _ hS.c, lt _ _ hS.d⟩ fun x hx => ?_).symm
  unfold hasB
  have h4 : x / 64 = 0 ∨ x / 64 = 1 ∨ x / 64 = 2 ∨ x / 64 = 3 := by omega
  rcases h4 with h | h | h | h <;> rw [h] <;> exact Nat.testBit_and _ _ _
theorem not_bit (n j : Nat) (hn : n < 18446744073709551616) (hj : j < 64) : (18446744073709551615 - n).testBit j = !n.testBit j := by
  have := Nat.testBit_two_pow_sub_succ (n := 64) (x := n) hn j
  rw [show (2 : Nat) ^ 64 - (n + 1) = 18446744073709551615 - n by omega] at this
  rw [this]
  simp [hj]
theorem not_words (S : W4) (hS : Fit4 S) : notB S = ⟨18446744073709551615 - S.a, 18446744073709551615 - S.b, 18446744073709551615 - S.c, 18446744073709551615 - S.d⟩ := by
  have lt : ∀ n : Nat, 18446744073709551615 - n < 18446744073709551616 := fun n => by omega
  refine (mkB_eq ⟨lt _, lt _, lt _, lt _⟩ fun x hx => ?_).symm
  unfold hasB
  have h4 : x / 64 = 0 ∨ x / 64 = 1 ∨ x / 64 = 2 ∨ x / 64 = 3 := by omega
  rcases h4 with h | h | h | h <;> rw [h]
  · exact not_bit _ _ hS.a (by omega)
  · exact not_bit _ _ hS.b (by omega)
  · exact not_bit _ _ hS.c (by omega)
  · exact not_bit _ _ hS.d (by omega)
theorem xor_all (n : Nat) (hn : n < 18446744073709551616) : n ^^^ 18446744073709551615 = 18446744073709551615 - n := by
  refine word_ext (Nat.xor_lt_two_pow (n := 64) hn (by decide)) (by omega) fun j hj => ?_
  rw [Nat.testBit_xor, not_bit n j hn hj]
  have : (18446744073709551615 : Nat).testBit j = true := by
    have h := not_bit 0 j (by omega) hj
    rw [Nat.zero_testBit] at h
    exact h
  rw [this]
  cases n.testBit j <;> rfl
theorem one_word (x : Nat) (hx : x < 256) : spanB x x = noneB.set (x / 64) (2 ^ (x % 64)) := by
  have h0 : noneB.w (x / 64) = 0 := by
    have h4 : x / 64 = 0 ∨ x / 64 = 1 ∨ x / 64 = 2 ∨ x / 64 = 3 := by omega
    rcases h4 with h | h | h | h <;> rw [h] <;> rfl
  have h1 : putB noneB x = noneB.set (x / 64) (2 ^ (x % 64)) := by
    unfold putB
    rw [noneB_has, h0]
    simp
  rw [← h1]
  refine (mkB_eq (putB_fit noneB_fit x) fun y hy => ?_).symm
  rw [putB_has _ x y hx hy, noneB_has, Bool.false_or, Bool.eq_iff_iff]
  simp only [Bool.and_eq_true, decide_eq_true_eq]
  omega

/-! ### how many bits -/
/-- the bits of the first k bytes of a number, byte by byte -/
def mapB (f : Nat → Nat) : Nat → Nat → Nat
  | 0, _ => 0
  | k + 1, n => f (n % 256) + 256 * mapB f k (n / 256)
theorem mapB_succ (f : Nat → Nat) (k n : Nat) : mapB f (k + 1) n = f (n % 256) + 256 * mapB f k (n / 256) := rfl
def maskB (c : Nat) : Nat → Nat
  | 0 => 0
  | k + 1 => c + 256 * maskB c k
theorem and_split (a c d m : Nat) (hc : c < 2 ^ m) : a &&& (c + 2 ^ m * d) = (a % 2 ^ m &&& c) + 2 ^ m * (a / 2 ^ m &&& d) := by
  have h1 : (a % 2 ^ m &&& c) < 2 ^ m := Nat.lt_of_le_of_lt Nat.and_le_right hc
  apply Nat.eq_of_testBit_eq
  intro j
  rw [Nat.testBit_and, Nat.add_comm c, Nat.testBit_two_pow_mul_add _ hc, Nat.add_comm (a % 2 ^ m &&& c), Nat.testBit_two_pow_mul_add _ h1]
  by_cases hj : j < m
  · rw [if_pos hj, if_pos hj, Nat.testBit_and, Nat.testBit_mod_two_pow]
    simp [hj]
  · rw [if_neg hj, if_neg hj, Nat.testBit_and, Nat.testBit_div_two_pow]
    rw [show j - m + m = j by omega]
theorem and_split8 (a c d : Nat) (hc : c < 256) : a &&& (c + 256 * d) = (a % 256 &&& c) + 256 * (a / 256 &&& d) := and_split a c d 8 hc
theorem and_low (a c m : Nat) (hc : c < 2 ^ m) : a &&& c = a % 2 ^ m &&& c := by
  have := and_split a c 0 m hc
  rw [Nat.mul_zero, Nat.add_zero] at this
  rw [this, Nat.and_zero]; omega
/-- a shift by s bits, masked so that nothing comes from the next byte -/
theorem shift_mask (s c : Nat) (hs : s ≤ 8) (hc : c < 2 ^ (8 - s)) : ∀ k n, (n / 2 ^ s &&& maskB c k) = mapB (fun b => b / 2 ^ s &&& c) k n
  | 0, n => by rw [maskB, mapB, Nat.and_zero]
  | k + 1, n => by
    have hc8 : c < 256 := Nat.lt_of_lt_of_le hc (by have : (2 : Nat) ^ (8 - s) ≤ 2 ^ 8 := Nat.pow_le_pow_right (by omega) (by omega); omega)
    rw [maskB, mapB, and_split8 _ _ _ hc8]
    have h1 : n / 2 ^ s / 256 = n / 256 / 2 ^ s := by rw [Nat.div_div_eq_div_mul, Nat.div_div_eq_div_mul, Nat.mul_comm]
    rw [h1, shift_mask s c hs hc k (n / 256)]
    congr 1
    rw [and_low _ c (8 - s) hc, and_low (n % 256 / 2 ^ s) c (8 - s) hc]
    congr 1
    have h2 : (2 : Nat) ^ s * 2 ^ (8 - s) = 256 := by rw [← Nat.pow_add, show s + (8 - s) = 8 by omega]
    have h3 : n % 256 / 2 ^ s = n / 2 ^ s % 2 ^ (8 - s) := by
      rw [← h2, Nat.mod_mul_right_div_self]
    rw [h3]
    rw [Nat.mod_mod_of_dvd _ (Nat.pow_dvd_pow 2 (by omega : 8 - s ≤ 8) |> fun h => by simpa using h), Nat.mod_mod]
theorem mapB_add (f g : Nat → Nat) : ∀ k n, mapB f k n + mapB g k n = mapB (fun b => f b + g b) k n
  | 0, _ => rfl
  | k + 1, n => by rw [mapB, mapB, mapB, ← mapB_add f g k]; omega
theorem mapB_comp (f g : Nat → Nat) (hf : ∀ b, b < 256 → f b < 256) : ∀ k n, mapB g k (mapB f k n) = mapB (fun b => g (f b)) k n
  | 0, _ => rfl
  | k + 1, n => by
    have hb := hf (n % 256) (by omega)
    rw [mapB, mapB_succ f, mapB_succ (fun b => g (f b)), show (f (n % 256) + 256 * mapB f k (n / 256)) % 256 = f (n % 256) by omega, show (f (n % 256) + 256 * mapB f k (n / 256)) / 256 = mapB f k (n / 256) by omega, mapB_comp f g hf k]
theorem mapB_low {f : Nat → Nat} (hf : ∀ b, b < 256 → f b < 256 ∧ f b % 16 ≤ 4) (k n : Nat) : mapB f k n % 16 ≤ 4 := by
  cases k with
  | zero => simp [mapB]
  | succ k => have := hf (n % 256) (by omega); rw [mapB]; omega
/-- the third step: nothing is carried -/
theorem step3 {f : Nat → Nat} (hf : ∀ b, b < 256 → f b < 256 ∧ f b % 16 ≤ 4) (hf2 : ∀ b, b < 256 → f b ≤ 68) : ∀ k n, (mapB f k n / 16 + mapB f k n) &&& maskB 15 k = mapB (fun b => (f b / 16 + f b) % 16) k n
  | 0, n => by rw [maskB, mapB, Nat.and_zero, mapB]
  | k + 1, n => by
    have h1 := hf (n % 256) (by omega)
    have h2 := hf2 (n % 256) (by omega)
    have h3 := mapB_low hf k (n / 256)
    have ih := step3 hf hf2 k (n / 256)
    rw [maskB, mapB_succ, mapB_succ (fun b => (f b / 16 + f b) % 16), ← ih, and_split8 _ _ _ (by omega)]
    generalize mapB f k (n / 256) = y at h3
    generalize f (n % 256) = c at h1 h2
    have e1 : ((c + 256 * y) / 16 + (c + 256 * y)) / 256 = y / 16 + y := by omega
    have e2 : ((c + 256 * y) / 16 + (c + 256 * y)) % 256 &&& 15 = (c / 16 + c) % 16 := by
      rw [show (15 : Nat) = 2 ^ 4 - 1 from rfl, Nat.and_two_pow_sub_one_eq_mod]
      omega
    rw [e1, e2]

def pf1 (b : Nat) : Nat := (b / 2 &&& 85) + (b &&& 85)
def pf2 (b : Nat) : Nat := (b / 4 &&& 51) + (b &&& 51)
def pop8 (b : Nat) : Nat := (pf2 (pf1 b) / 16 + pf2 (pf1 b)) % 16
/-- the bits of a number below a place -/
def bitsN (n : Nat) : Nat → Nat
  | 0 => 0
  | k + 1 => bitsN n k + (if n.testBit k then 1 else 0)
theorem bytes_all : ∀ b : Fin 256, pf1 b < 256 ∧ pf2 (pf1 b) < 256 ∧ pf2 (pf1 b) % 16 ≤ 4 ∧ pf2 (pf1 b) ≤ 68 ∧ pop8 b = bitsN b 8 ∧ pop8 b ≤ 8 := by decide +kernel
theorem bytes_at (b : Nat) (h : b < 256) : pf1 b < 256 ∧ pf2 (pf1 b) < 256 ∧ pf2 (pf1 b) % 16 ≤ 4 ∧ pf2 (pf1 b) ≤ 68 ∧ pop8 b = bitsN b 8 ∧ pop8 b ≤ 8 := bytes_all ⟨b, h⟩
theorem mask85 : maskB 85 8 = 6148914691236517205 := by decide +kernel
theorem mask51 : maskB 51 8 = 3689348814741910323 := by decide +kernel
theorem mask15 : maskB 15 8 = 1085102592571150095 := by decide +kernel
theorem ones1 (n : Nat) : (n / 2 &&& 6148914691236517205) + (n &&& 6148914691236517205) = mapB pf1 8 n := by
  have h1 := shift_mask 1 85 (by omega) (by decide) 8 n
  have h2 := shift_mask 0 85 (by omega) (by decide) 8 n
  rw [mask85] at h1 h2
  rw [Nat.pow_zero, Nat.div_one] at h2
  rw [show n / 2 = n / 2 ^ 1 by rw [Nat.pow_one], h1, h2, mapB_add]
  unfold pf1
  simp only [Nat.pow_one, Nat.div_one]
theorem ones2 (n : Nat) : (mapB pf1 8 n / 4 &&& 3689348814741910323) + (mapB pf1 8 n &&& 3689348814741910323) = mapB (fun b => pf2 (pf1 b)) 8 n := by
  have h1 := shift_mask 2 51 (by omega) (by decide) 8 (mapB pf1 8 n)
  have h2 := shift_mask 0 51 (by omega) (by decide) 8 (mapB pf1 8 n)
  rw [mask51] at h1 h2
  rw [Nat.pow_zero, Nat.div_one] at h2
  rw [show mapB pf1 8 n / 4 = mapB pf1 8 n / 2 ^ 2 by rfl, h1, h2, mapB_add]
  rw [← mapB_comp pf1 pf2 (fun b hb => (bytes_at b hb).1)]
  unfold pf2
  simp only [Nat.div_one, show (2 : Nat) ^ 2 = 4 from rfl]
theorem ones3 (n : Nat) : (mapB (fun b => pf2 (pf1 b)) 8 n / 16 + mapB (fun b => pf2 (pf1 b)) 8 n) &&& 1085102592571150095 = mapB pop8 8 n := by
  rw [← mask15]
  exact step3 (f := fun b => pf2 (pf1 b)) (fun b hb => ⟨(bytes_at b hb).2.1, (bytes_at b hb).2.2.1⟩) (fun b hb => (bytes_at b hb).2.2.2.1) 8 n
def sumB : Nat → Nat → Nat
  | 0, _ => 0
  | k + 1, n => pop8 (n % 256) + sumB k (n / 256)
theorem dv (a t : Nat) (h : a < 256) : (a + 256 * t) / 256 = t := by omega
theorem add_dig {a b s t x y : Nat} (hx : x = a + 256 * s) (hy : y = b + 256 * t) : x + y = (a + b) + 256 * (s + t) := by omega
theorem dig_le {h t x m : Nat} (hx : x = h + 256 * t) (hh : h ≤ 8) (ht : t ≤ m) : x ≤ 8 + 256 * m := by omega
theorem ones_sum {h0 h1 h2 h3 h4 h5 h6 h7 t0 t1 t2 t3 t4 t5 t6 t7 : Nat} (b0 : h0 ≤ 8) (b1 : h1 ≤ 8) (b2 : h2 ≤ 8) (b3 : h3 ≤ 8) (b4 : h4 ≤ 8) (b5 : h5 ≤ 8) (b6 : h6 ≤ 8) (b7 : h7 ≤ 8)
    (g7 : t7 = h7 + 256 * 0) (g6 : t6 = h6 + 256 * t7) (g5 : t5 = h5 + 256 * t6) (g4 : t4 = h4 + 256 * t5) (g3 : t3 = h3 + 256 * t4) (g2 : t2 = h2 + 256 * t3) (g1 : t1 = h1 + 256 * t2) (g0 : t0 = h0 + 256 * t1) :
    (t0 + t0 / 256 + (t0 + t0 / 256) / 65536 + (t0 + t0 / 256 + (t0 + t0 / 256) / 65536) / 4294967296) % 128 = h0 + (h1 + (h2 + (h3 + (h4 + (h5 + (h6 + (h7 + 0))))))) ∧
    t0 + t0 / 256 + (t0 + t0 / 256) / 65536 + (t0 + t0 / 256 + (t0 + t0 / 256) / 65536) / 4294967296 < 9223372036854775808 ∧ t0 < 9223372036854775808 ∧ t0 + t0 / 256 < 9223372036854775808 ∧ t0 + t0 / 256 + (t0 + t0 / 256) / 65536 < 9223372036854775808 := by
  have q0 : t0 / 256 = t1 := by rw [g0]; exact dv _ _ (by omega)
  have u0 := add_dig g0 g1
  have u1 := add_dig g1 g2
  have u2 := add_dig g2 g3
  have u3 := add_dig g3 g4
  have u4 := add_dig g4 g5
  have u5 := add_dig g5 g6
  have u6 := add_dig g6 g7
  have u7 : t7 + 0 = (h7 + 0) + 256 * (0 + 0) := by rw [g7]
  have z7 : t7 ≤ 8 := by omega
  have z6 := dig_le g6 b6 z7
  have z5 := dig_le g5 b5 z6
  have z4 := dig_le g4 b4 z5
  have z3 := dig_le g3 b3 z4
  have z2 := dig_le g2 b2 z3
  have z1 := dig_le g1 b1 z2
  have z0 := dig_le g0 b0 z1
  clear g0 g1 g2 g3 g4 g5 g6 g7
  have r0 : (t0 + t1) / 65536 = t2 + t3 := by
    rw [show (65536 : Nat) = 256 * 256 from rfl, ← Nat.div_div_eq_div_mul, u0, dv _ _ (by omega), u1, dv _ _ (by omega)]
  have v0 := add_dig u0 u2
  have v1 := add_dig u1 u3
  have v2 := add_dig u2 u4
  have v3 := add_dig u3 u5
  have v4 := add_dig u4 u6
  clear u0 u1 u2 u3 u4 u5 u6 u7
  have s0 : (t0 + t1 + (t2 + t3)) / 4294967296 = t4 + t5 + (t6 + t7) := by
    rw [show (4294967296 : Nat) = 256 * (256 * (256 * 256)) from rfl, ← Nat.div_div_eq_div_mul, v0, dv _ _ (by omega), ← Nat.div_div_eq_div_mul, v1, dv _ _ (by omega), ← Nat.div_div_eq_div_mul, v2, dv _ _ (by omega), v3, dv _ _ (by omega)]
  have x0 := add_dig v0 v4
  clear v0 v1 v2 v3 v4
  rw [q0, r0, s0]
  refine ⟨?_, ?_, ?_, ?_, ?_⟩
  · rw [x0]; clear x0 s0 r0 q0 z0 z1 z2 z3 z4 z5 z6 z7; omega
  all_goals (clear x0 s0 r0 q0; omega)
theorem ones4 (n : Nat) : ∃ x4 x5 x6, x4 = mapB pop8 8 n + mapB pop8 8 n / 256 ∧ x5 = x4 + x4 / 65536 ∧ x6 = x5 + x5 / 4294967296 ∧ x6 % 128 = sumB 8 n ∧ x6 < 9223372036854775808 ∧ mapB pop8 8 n < 9223372036854775808 ∧ x4 < 9223372036854775808 ∧ x5 < 9223372036854775808 := by
  refine ⟨_, _, _, rfl, rfl, rfl, ?_⟩
  have b0 := (bytes_at (n % 256) (by omega)).2.2.2.2.2
  have b1 := (bytes_at (n / 256 % 256) (by omega)).2.2.2.2.2
  have b2 := (bytes_at (n / 256 / 256 % 256) (by omega)).2.2.2.2.2
  have b3 := (bytes_at (n / 256 / 256 / 256 % 256) (by omega)).2.2.2.2.2
  have b4 := (bytes_at (n / 256 / 256 / 256 / 256 % 256) (by omega)).2.2.2.2.2
  have b5 := (bytes_at (n / 256 / 256 / 256 / 256 / 256 % 256) (by omega)).2.2.2.2.2
  have b6 := (bytes_at (n / 256 / 256 / 256 / 256 / 256 / 256 % 256) (by omega)).2.2.2.2.2
  have b7 := (bytes_at (n / 256 / 256 / 256 / 256 / 256 / 256 / 256 % 256) (by omega)).2.2.2.2.2
  simp only [mapB, sumB]
  generalize pop8 (n % 256) = h0 at b0
  generalize pop8 (n / 256 % 256) = h1 at b1
  generalize pop8 (n / 256 / 256 % 256) = h2 at b2
  generalize pop8 (n / 256 / 256 / 256 % 256) = h3 at b3
  generalize pop8 (n / 256 / 256 / 256 / 256 % 256) = h4 at b4
  generalize pop8 (n / 256 / 256 / 256 / 256 / 256 % 256) = h5 at b5
  generalize pop8 (n / 256 / 256 / 256 / 256 / 256 / 256 % 256) = h6 at b6
  generalize pop8 (n / 256 / 256 / 256 / 256 / 256 / 256 / 256 % 256) = h7 at b7
  clear n
  exact ones_sum b0 b1 b2 b3 b4 b5 b6 b7 rfl rfl rfl rfl rfl rfl rfl rfl

theorem bitsN_split (n : Nat) : ∀ m, bitsN n (8 + m) = bitsN (n % 256) 8 + bitsN (n / 256) m
  | 0 => by
    have low : ∀ k, k ≤ 8 → bitsN n k = bitsN (n % 256) k := by
      intro k
      induction k with
      | zero => intro _; rfl
      | succ k ih =>
        intro hk
        rw [bitsN, bitsN, ih (by omega)]
        have := Nat.testBit_mod_two_pow n 8 k
        rw [show (2 : Nat) ^ 8 = 256 from rfl] at this
        rw [this]
        simp [show k < 8 by omega]
    exact low 8 (Nat.le_refl _)
  | m + 1 => by
    have ih := bitsN_split n m
    have h1 : bitsN n (8 + (m + 1)) = bitsN n (8 + m) + (if n.testBit (8 + m) then 1 else 0) := rfl
    have h2 : bitsN (n / 256) (m + 1) = bitsN (n / 256) m + (if (n / 256).testBit m then 1 else 0) := rfl
    have h3 : (n / 256).testBit m = n.testBit (8 + m) := by
      have := Nat.testBit_div_two_pow (n := 8) n m
      rw [show (2 : Nat) ^ 8 = 256 from rfl] at this
      rw [this, Nat.add_comm m 8]
    rw [h1, h2, h3, ih]
    omega
theorem sumB_bits : ∀ k n, sumB k n = bitsN n (8 * k)
  | 0, _ => rfl
  | k + 1, n => by
    rw [sumB, sumB_bits k, show 8 * (k + 1) = 8 + 8 * k by omega, bitsN_split, (bytes_at (n % 256) (by omega)).2.2.2.2.1]
theorem count_word (S : W4) (i : Nat) (hi : i < 4) : ∀ j, j ≤ 64 → countN S (64 * i + j) = countN S (64 * i) + bitsN (S.w i) j
  | 0, _ => rfl
  | j + 1, hj => by
    have ih := count_word S i hi j (by omega)
    rw [← Nat.add_assoc, countN_succ, ih, bitsN]
    unfold hasB
    rw [show (64 * i + j) / 64 = i by omega, show (64 * i + j) % 64 = j by omega]
    omega
/-- how many bytes a set has, word by word -/
theorem count_words (S : W4) : countB S = sumB 8 S.a + sumB 8 S.b + sumB 8 S.c + sumB 8 S.d := by
  have h0 := count_word S 0 (by omega) 64 (Nat.le_refl _)
  have h1 := count_word S 1 (by omega) 64 (Nat.le_refl _)
  have h2 := count_word S 2 (by omega) 64 (Nat.le_refl _)
  have h3 := count_word S 3 (by omega) 64 (Nat.le_refl _)
  rw [sumB_bits, sumB_bits, sumB_bits, sumB_bits, countB_eq]
  simp only [Nat.mul_zero, Nat.zero_add, countN_zero, Nat.mul_one, Nat.reduceMul, Nat.reduceAdd] at h0 h1 h2 h3 ⊢
  rw [h3, h2, h1, h0]
  rfl

end Go.Proofs.Ytgbecehggdkkmaa
