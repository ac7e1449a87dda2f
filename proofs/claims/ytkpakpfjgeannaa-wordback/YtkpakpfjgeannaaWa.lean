/- topiaryref11.All: the words of a text. -/
import Derived.Test.YtkpakpfjgeannaaWe
namespace Go.Proofs.Ytkpakpfjgeannaa
open Go.RowKit Go.Maps

def wdV (x : Wd) : List Value := [.int .i64 (x.1 : Int), .int .i64 (x.2.1 : Int), .string (strT x.2.2)]
abbrev OwnW (w : World) (B : Nat) (v : Value) (l : List Wd) : Prop := w.ownsRow B 32 3 v l.length (l.flatMap wdV)
set_option maxRecDepth 20000 in
theorem Try.infoWd : (Try.prog.info? 32).map (fun i => (i.zero, i.size, i.bytes)) = some (some (.agg #[.int .i64 0, .int .i64 0, .string ⟨#[]⟩]), 3, 32) := by kernel_rfl
/-- words of the call's own -/
structure WdM (W0 w : World) (v : Value) (l : List Wd) : Prop where
  own : OwnW w W0.heap.size v l
  low : Below W0.heap.size W0 w
theorem WdM.keep {W0 w u : World} {v : Value} {l : List Wd} (h : WdM W0 w v l) (hu : Below w.heap.size w u) : WdM W0 u v l := ⟨own_below h.own hu, bl_step h.low hu⟩
theorem WdM.push {W0 w w' : World} {v : Value} {l : List Wd} (h : WdM W0 w v l) {x : Wd} {g cap : Nat}
    (ho : w'.ownsRow W0.heap.size 32 3 (.slice (some ⟨g, 0, none⟩) (l.length + 1) cap) (l.length + 1) (l.flatMap wdV ++ wdV x)) (hg : w.grownBy w' v.ownBlock) :
    WdM W0 w' (.slice (some ⟨g, 0, none⟩) (l.length + 1) cap) (l ++ [x]) := by
  have hk := Kept.of_grown hg
  refine ⟨?_, h.low.trans (hk.below (fun k e => (h.own.lt k e).1) h.low.size)⟩
  unfold OwnW
  rw [List.length_append, List.flatMap_append, List.flatMap_singleton]
  exact ho
theorem WdM.set {W0 w : World} {v : Value} {l : List Wd} (h : WdM W0 w v l) {b : Nat} (hb : W0.heap.size ≤ b) (hn : v.ownBlock ≠ some b) (o : Nat) (x : Value) : WdM W0 (w.setCell ⟨b, o, none⟩ x) v l := ⟨own_set h.own hn, bl_set h.low _ _ _ hb⟩
theorem wdOf_sign {T : Txt} {a n : Nat} {c : Nat} (hc : ((T.drop a).headD 0).toNat = c) (h1 : letB c = false) (h2 : c ≠ 47) : wdOf T a n = (3, a, (T.drop a).take n) := by
  unfold wdOf kndW
  rw [hc, h1, if_neg (by decide), if_neg h2, if_neg h2]
theorem wdOf_name {T : Txt} {a n : Nat} {c : Nat} (hc : ((T.drop a).headD 0).toNat = c) (h1 : letB c = true) : wdOf T a n = (1, a, (T.drop a).take n) := by
  have h2 : c ≠ 47 := fun h => by subst h; cases h1
  unfold wdOf kndW
  rw [hc, h1, if_pos rfl, if_neg h2]
theorem wdOf_rule {T : Txt} {a n : Nat} {c : Nat} (hc : ((T.drop a).headD 0).toNat = c) (h2 : c = 47) : wdOf T a n = (2, a, (T.drop (a + 1)).take (n - 2)) := by
  subst h2
  unfold wdOf kndW
  rw [hc, if_neg (by decide), if_pos rfl, if_pos rfl]

set_option maxRecDepth 20000 in
set_option maxHeartbeats 16000000 in
theorem refWordsC (s : Txt) (w : World) (hs : s.length ≤ 1000000) :
    Calls Try.prog 11 #[.string (strT s)] w fun e w' => ∃ v, e = .returned (.tuple #[v, .int .i64 ((wrdA s).2.1 : Int), .int .i64 (wrdA s).2.2]) ∧ WdM w w' v (wrdA s).1 := by
  have hsz := strT_size s
  obtain ⟨RR, hRR⟩ : ∃ R, Hid (wrdA s = R) := ⟨_, hid rfl⟩
  rw [hRR.out]
  by_cases h4 : 4000 < s.length
  · have h4z : (4000 : Int) < (s.length : Int) := by omega
    have e9 : RR = ([], 0, 3) := by rw [← hRR.out]; exact if_pos h4
    subst e9
    go_enter Try.func11, Try.ntmps11
    go_wp2
    refine bodyPost_ret (results_tmp3 rfl _ _ _) rfl ?_
    exact ⟨_, rfl, World.ownsRow_nil _ _ _ _, Below.refl _ _⟩
  have h4z : ¬ (4000 : Int) < (s.length : Int) := by omega
  have hRW : Hid (wrdR s s.length (skL false s) [] = RR) := hid (by rw [← hRR.out]; exact (if_neg h4).symm)
  clear hRR
  have GS := hid (fun (a : Nat) (ha : a ≤ s.length) (u : World) => skipC s a u ha hs)
  have GS0 := hid (GS.out 0 (Nat.zero_le _) w)
  rw [Nat.zero_add, List.drop_zero] at GS0
  have GE := hid (fun (a : Nat) (ha : a < s.length) (u : World) => endC s a u ha hs)
  have GL := hid (fun (c : Nat) (hc : c < 256) (u : World) => letterC c u hc)
  obtain ⟨iP, hiP, zP0, zP1, zP2⟩ := info_parts Try.infoWd
  go_enter Try.func11, Try.ntmps11
  go_wp2_with (go_at_call 16; refine GS0.out.mono ?_; clear GS0; rintro e w2 ⟨rfl, hc2⟩; subst w2)
  go_loopw [5, 6] (fun v x wr => ∃ (a : Nat) (l : List Wd), a ≤ s.length ∧ x = .int .i64 (a : Int) ∧ Hid (WdM w wr v l) ∧ Hid (WrdI s a l) ∧ l.length ≤ a) (fun _ x _ => s.length - (intOf x).toNat)
  case atStart => exact ⟨skL false s, [], skL_le _ _, rfl, hid ⟨World.ownsRow_nil _ _ _ _, Below.refl _ _⟩, hid (WrdI.start s), Nat.zero_le _⟩
  case round =>
    obtain ⟨a, l, ha, rfl, hM, hI, hla⟩ := hrel
    obtain ⟨va, vc, hve⟩ := own_shape hM.out.own
    subst hve
    by_cases hlt : a < s.length
    · have hltz : (a : Int) < (s.length : Int) := by omega
      have hltn : a < (strT s).size := by omega
      have GE1 := hid (GE.out a hlt wr)
      cases he : endL (s.drop a) with
      | none =>
        have hfin := hid (hI.out.stop hlt he)
        rw [endI_none he] at GE1
        clear he
        go_wp2_with (go_at_call 19; refine GE1.out.mono ?_; clear GE1; rintro e w2 ⟨rfl, hc2⟩; subst w2)
        refine bodyPost_ret (results_tmp3 rfl _ _ _) rfl ?_
        have e9 : RR = ([], a, 1) := by rw [← hRW.out, hfin.out]
        rw [e9]
        exact ⟨_, rfl, World.ownsRow_nil _ _ _ _, hM.out.low⟩
      | some n =>
        have hnx := hid (hI.out.next hlt he)
        have hnl := endL_le he
        rw [List.length_drop] at hnl
        have hn2 := hid (endL_two he)
        rw [endI_some he] at GE1
        have key := str_get hlt hltn
        have hcb := (s.getD a 0).toNat_lt
        have hhd : Hid (((s.drop a).headD 0).toNat = (s.getD a 0).toNat) := hid (by rw [drop_get hlt]; rfl)
        rw [hhd.out] at hn2
        have GL1 := hid (fun u => GL.out (s.getD a 0).toNat hcb u)
        have GS1 := hid (fun u => GS.out (a + n) (by omega) u)
        obtain ⟨E, hE⟩ : ∃ E : Nat, a + n = E := ⟨_, rfl⟩
        rw [hE] at GE1 GS1 hnx
        have hwd0 := hid (fun (h1 : letB (s.getD a 0).toNat = false) (h2 : (s.getD a 0).toNat ≠ 47) => wdOf_sign (T := s) (n := n) hhd.out h1 h2)
        have hwd1 := hid (fun (h1 : letB (s.getD a 0).toNat = true) => wdOf_name (T := s) (n := n) hhd.out h1)
        have hwd2 := hid (fun (h2 : (s.getD a 0).toNat = 47) => wdOf_rule (T := s) (n := n) hhd.out h2)
        have hex := strT_ext s a n
        rw [hE] at hex
        have hskl := skL_le false (s.drop E)
        rw [List.length_drop] at hskl
        obtain ⟨E2, hE2⟩ : ∃ x : Nat, E + skL false (s.drop E) = x := ⟨_, rfl⟩
        rw [hE2] at GS1 hnx
        have hE2l : E2 ≤ s.length := by omega
        have hEz : (a : Int) ≤ (E : Int) := by omega
        have hEs : E ≤ (strT s).size := by omega
        have haE : a ≤ E := by omega
        have hno : Hid ((Value.slice va l.length vc).ownBlock ≠ some wr.heap.size) := hid (fun e => by have := (hM.out.own.lt _ e).2; omega)
        clear hI he hhd GS GE
        generalize (s.getD a 0).toNat = c at *
        obtain ⟨U0, hU0⟩ : ∃ x, strT ((s.drop a).take n) = x := ⟨_, rfl⟩
        rw [hU0] at hex
        obtain ⟨WK, hWK⟩ : ∃ x, wr.alloc (.cells #[.int .i64 3, .int .i64 (a : Int), .string U0] 32) = x := ⟨_, rfl⟩
        have hkK : Hid (WK.heap[wr.heap.size]? = some (.cells #[.int .i64 3, .int .i64 (a : Int), .string U0] 32)) := by rw [← hWK]; exact hid (heap_new wr _)
        have hMK : Hid (WdM w WK (.slice va l.length vc) l) := by rw [← hWK]; exact hid (hM.out.keep (al' wr _))
        have hbK : Hid (w.heap.size ≤ wr.heap.size) := hid hM.out.low.size
        obtain ⟨⟨x0, x0f⟩, ⟨x1, -⟩, ⟨x2, -⟩⟩ := cells3m hkK.out
        have GLK := hid (GL1.out WK)
        cases hlb : letB c with
        | true =>
          rw [hlb] at GLK
          have hw := hid (hwd1.out hlb)
          rw [hw.out] at hnx
          have z47 : ((c : Int) == 47) = false := by
            rw [beq_eq_false_iff_ne]
            intro h9
            have h8 : c = 47 := by omega
            rw [h8] at hlb
            cases hlb
          have hkF := set3_0 (v := .int .i64 1) hkK.out
          have hMF := hid (hMK.out.set hbK.out hno.out 0 (.int .i64 1))
          obtain ⟨WF, hWF⟩ : ∃ x, WK.setCell ⟨wr.heap.size, 0, none⟩ (.int .i64 1) = x := ⟨_, rfl⟩
          rw [hWF] at hkF hMF
          obtain ⟨⟨y0, -⟩, ⟨y1, -⟩, ⟨y2, -⟩⟩ := cells3m hkF
          have hCU := hid (hMF.out.keep (al' WF (.cells #[.int .i64 1, .int .i64 (a : Int), .string U0] 32)))
          clear hwd0 hwd1 hwd2 hw hlb hkF
          go_wp2_with (first
            | (go_at_call 19; refine GE1.out.mono ?_; clear GE1; rintro e w2 ⟨rfl, hc2⟩; subst w2)
            | (go_at_call 20; refine GLK.out.mono ?_; clear GLK; rintro e w2 ⟨rfl, hc2⟩; subst w2)
            | (at_builtin; refine wpList_append_lies _ (by rfl) _ _ _ (by rfl) w.heap.size 32 iP (.agg #[.int .i64 0, .int .i64 0, .string ⟨#[]⟩]) 3 32 Try.underlying24 hiP zP0 zP1 zP2 rfl (by decide) (.slice va l.length vc) l.length (l.flatMap wdV) (by rfl) hCU.out.own ⟨WF.heap.size, 0, none⟩ 1 1 [.int .i64 1, .int .i64 (a : Int), .string U0] (by rfl) (by rfl) (World.news_of_block (heap_new WF (.cells #[.int .i64 1, .int .i64 (a : Int), .string U0] 32))) (by simp [Value.oneCell']) (by omega) (by (unfold maxLen); omega) (by omega) hCU.out.low.size (WF.alloc (.cells #[.int .i64 1, .int .i64 (a : Int), .string U0] 32)).heap.size rfl ?_; intro g7 c7 w7 hown7 hgrow7 hat7 hlt7; have hC7 := hid (hCU.out.push (x := (1, a, (s.drop a).take n)) (by rw [← hU0] at hown7; exact hown7) hgrow7); clear hown7 hgrow7 hat7 hCU; have GS7 := hid (GS1.out w7))
            | (go_at_call 16; refine GS7.out.mono ?_; clear GS7; rintro e w8 ⟨rfl, hc8⟩; subst w8))
          go_roundw
          case rel => exact ⟨E2, l ++ [(1, a, (s.drop a).take n)], hE2l, rfl, hC7, hnx, by rw [List.length_append, List.length_singleton]; omega⟩
          case measure => simp [intOf]; omega
        | false =>
          rw [hlb] at GLK
          by_cases h47 : c = 47
          · have hw := hid (hwd2.out h47)
            rw [hw.out] at hnx
            have hnn := hn2.out h47
            subst h47
            have hex2 := strT_ext s (a + 1) (n - 2)
            obtain ⟨E1, hE1⟩ : ∃ x : Nat, a + 1 + (n - 2) = x := ⟨_, rfl⟩
            rw [hE1] at hex2
            obtain ⟨U1, hU1⟩ : ∃ x, strT ((s.drop (a + 1)).take (n - 2)) = x := ⟨_, rfl⟩
            rw [hU1] at hex2
            have hE1z : (E : Int) - 1 = (E1 : Int) := by omega
            have hE1s : E1 ≤ (strT s).size := by omega
            have ha1 : a + 1 ≤ E1 := by omega
            have ha1z : (a : Int) + 1 ≤ (E1 : Int) := by omega
            have hk1 := set3_0 (v := .int .i64 2) hkK.out
            obtain ⟨-, -, ⟨u2, u2f⟩⟩ := cells3m hk1
            have hkF := set3_2 (v := .string U1) hk1
            have hMF := hid ((hMK.out.set hbK.out hno.out 0 (.int .i64 2)).set hbK.out hno.out 2 (.string U1))
            obtain ⟨W5, hW5⟩ : ∃ x, WK.setCell ⟨wr.heap.size, 0, none⟩ (.int .i64 2) = x := ⟨_, rfl⟩
            rw [hW5] at hkF hMF u2 u2f hk1
            obtain ⟨WF, hWF⟩ : ∃ x, W5.setCell ⟨wr.heap.size, 2, none⟩ (.string U1) = x := ⟨_, rfl⟩
            rw [hWF] at hkF hMF
            obtain ⟨⟨y0, -⟩, ⟨y1, -⟩, ⟨y2, -⟩⟩ := cells3m hkF
            have hCU := hid (hMF.out.keep (al' WF (.cells #[.int .i64 2, .int .i64 (a : Int), .string U1] 32)))
            clear hwd0 hwd1 hwd2 hw hlb hkF hk1 hn2
            go_wp2_with (first
              | (go_at_call 19; refine GE1.out.mono ?_; clear GE1; rintro e w2 ⟨rfl, hc2⟩; subst w2)
              | (go_at_call 20; refine GLK.out.mono ?_; clear GLK; rintro e w2 ⟨rfl, hc2⟩; subst w2)
              | (at_builtin; refine wpList_append_lies _ (by rfl) _ _ _ (by rfl) w.heap.size 32 iP (.agg #[.int .i64 0, .int .i64 0, .string ⟨#[]⟩]) 3 32 Try.underlying24 hiP zP0 zP1 zP2 rfl (by decide) (.slice va l.length vc) l.length (l.flatMap wdV) (by rfl) hCU.out.own ⟨WF.heap.size, 0, none⟩ 1 1 [.int .i64 2, .int .i64 (a : Int), .string U1] (by rfl) (by rfl) (World.news_of_block (heap_new WF (.cells #[.int .i64 2, .int .i64 (a : Int), .string U1] 32))) (by simp [Value.oneCell']) (by omega) (by (unfold maxLen); omega) (by omega) hCU.out.low.size (WF.alloc (.cells #[.int .i64 2, .int .i64 (a : Int), .string U1] 32)).heap.size rfl ?_; intro g7 c7 w7 hown7 hgrow7 hat7 hlt7; have hC7 := hid (hCU.out.push (x := (2, a, (s.drop (a + 1)).take (n - 2))) (by rw [← hU1] at hown7; exact hown7) hgrow7); clear hown7 hgrow7 hat7 hCU; have GS7 := hid (GS1.out w7))
              | (go_at_call 16; refine GS7.out.mono ?_; clear GS7; rintro e w8 ⟨rfl, hc8⟩; subst w8))
            go_roundw
            case rel => exact ⟨E2, l ++ [(2, a, (s.drop (a + 1)).take (n - 2))], hE2l, rfl, hC7, hnx, by rw [List.length_append, List.length_singleton]; omega⟩
            case measure => simp [intOf]; omega
          · have hw := hid (hwd0.out hlb h47)
            rw [hw.out] at hnx
            have z47 : ((c : Int) == 47) = false := by rw [beq_eq_false_iff_ne]; omega
            have hCU := hid (hMK.out.keep (al' WK (.cells #[.int .i64 3, .int .i64 (a : Int), .string U0] 32)))
            clear hwd0 hwd1 hwd2 hw hlb
            go_wp2_with (first
              | (go_at_call 19; refine GE1.out.mono ?_; clear GE1; rintro e w2 ⟨rfl, hc2⟩; subst w2)
              | (go_at_call 20; refine GLK.out.mono ?_; clear GLK; rintro e w2 ⟨rfl, hc2⟩; subst w2)
              | (at_builtin; refine wpList_append_lies _ (by rfl) _ _ _ (by rfl) w.heap.size 32 iP (.agg #[.int .i64 0, .int .i64 0, .string ⟨#[]⟩]) 3 32 Try.underlying24 hiP zP0 zP1 zP2 rfl (by decide) (.slice va l.length vc) l.length (l.flatMap wdV) (by rfl) hCU.out.own ⟨WK.heap.size, 0, none⟩ 1 1 [.int .i64 3, .int .i64 (a : Int), .string U0] (by rfl) (by rfl) (World.news_of_block (heap_new WK (.cells #[.int .i64 3, .int .i64 (a : Int), .string U0] 32))) (by simp [Value.oneCell']) (by omega) (by (unfold maxLen); omega) (by omega) hCU.out.low.size (WK.alloc (.cells #[.int .i64 3, .int .i64 (a : Int), .string U0] 32)).heap.size rfl ?_; intro g7 c7 w7 hown7 hgrow7 hat7 hlt7; have hC7 := hid (hCU.out.push (x := (3, a, (s.drop a).take n)) (by rw [← hU0] at hown7; exact hown7) hgrow7); clear hown7 hgrow7 hat7 hCU; have GS7 := hid (GS1.out w7))
              | (go_at_call 16; refine GS7.out.mono ?_; clear GS7; rintro e w8 ⟨rfl, hc8⟩; subst w8))
            go_roundw
            case rel => exact ⟨E2, l ++ [(3, a, (s.drop a).take n)], hE2l, rfl, hC7, hnx, by rw [List.length_append, List.length_singleton]; omega⟩
            case measure => simp [intOf]; omega
    · have hltz : ¬ (a : Int) < (s.length : Int) := by omega
      have hfin := hid (hI.out.fin (by omega))
      go_wp2
      refine bodyPost_ret (results_tmp3 rfl _ _ _) rfl ?_
      have e9 : RR = (l, 0, 0) := by rw [← hRW.out, hfin.out]
      rw [e9]
      exact ⟨_, rfl, hM.out⟩

end Go.Proofs.Ytkpakpfjgeannaa
