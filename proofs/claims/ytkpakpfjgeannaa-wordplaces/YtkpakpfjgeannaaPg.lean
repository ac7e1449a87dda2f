/- Package word: All. -/
import Derived.Test.YtkpakpfjgeannaaPf
namespace Go.Proofs.Ytkpakpfjgeannaa
open Go.RowKit Go.Maps

set_option maxRecDepth 20000 in
set_option maxHeartbeats 16000000 in
theorem allC (s : Txt) (w : World) (hs : s.length ≤ 100000000) :
    Calls Try.prog 10 #[.string (strT s)] w fun e w' => ∃ v, e = .returned (.tuple #[v, .int .i64 ((wrdA s).2.1 : Int), .int .i64 (wrdA s).2.2]) ∧ WdM w w' v (wrdA s).1 := by
  have hsz := strT_size s
  obtain ⟨RR, hRR⟩ : ∃ R, Hid (wrdA s = R) := ⟨_, hid rfl⟩
  rw [hRR.out]
  by_cases h4 : 4000 < s.length
  · have h4z : (4000 : Int) < (s.length : Int) := by omega
    have e9 : RR = ([], 0, 3) := by rw [← hRR.out]; exact if_pos h4
    subst e9
    go_enter Try.func10, Try.ntmps10
    go_wp2
    refine bodyPost_ret (results_tmp3 rfl _ _ _) rfl ?_
    exact ⟨_, rfl, World.ownsRow_nil _ _ _ _, Below.refl _ _⟩
  have h4z : ¬ (4000 : Int) < (s.length : Int) := by omega
  have hRW : Hid (wrdR s s.length (skL false s) [] = RR) := hid (by rw [← hRR.out]; exact (if_neg h4).symm)
  clear hRR
  have GC := hid (fun (u : Txt) (h0 : 0 < u.length) (hu : u.length ≤ 1000000) (x : World) => cutC u x h0 hu)
  have GI := hid (fun (k : Nat) (t : Txt) (h1 : k = 2 → 2 ≤ t.length) (h2 : t.length ≤ 1000000) (x : World) => innerC k t x h1 h2)
  obtain ⟨iP, hiP, zP0, zP1, zP2⟩ := info_parts Try.infoWd
  go_enter Try.func10, Try.ntmps10
  go_wp2
  go_loopw [5, 6] (fun v x wr => ∃ (a : Nat) (l : List Wd), a ≤ s.length ∧ x = .int .i64 (a : Int) ∧ Hid (WdM w wr v l) ∧ Hid (WrdI s (a + skL false (s.drop a)) l) ∧ l.length ≤ a) (fun _ x _ => s.length - (intOf x).toNat)
  case atStart => exact ⟨0, [], Nat.zero_le _, rfl, hid ⟨World.ownsRow_nil _ _ _ _, Below.refl _ _⟩, hid (by rw [Nat.zero_add, List.drop_zero]; exact WrdI.start s), Nat.zero_le _⟩
  case round =>
    obtain ⟨a, l, ha, rfl, hM, hI, hla⟩ := hrel
    obtain ⟨va, vc, hve⟩ := own_shape hM.out.own
    subst hve
    by_cases hlt : a < s.length
    · have hltz : (a : Int) < (s.length : Int) := by omega
      have hltn : a < (strT s).size := by omega
      have hdl : (s.drop a).length = s.length - a := List.length_drop ..
      have hex : (strT s).extract a s.length = strT (s.drop a) := by
        have := strT_ext s a (s.length - a)
        rwa [show a + (s.length - a) = s.length by omega, List.take_of_length_le (by omega)] at this
      have GC1 := hid (GC.out (s.drop a) (by omega) (by omega) wr)
      by_cases hbk : 0 < blkL (s.drop a)
      · rw [cut_blank hbk] at GC1
        have hbl := blkL_le (s.drop a)
        rw [hdl] at hbl
        have hnx : Hid (WrdI s (a + blkL (s.drop a) + skL false (s.drop (a + blkL (s.drop a)))) l) := hid (by
          have h1 := hI.out
          rw [skL_blk (s.drop a), List.drop_drop, ← Nat.add_assoc] at h1
          exact h1)
        clear hI GC GI hdl
        generalize blkL (s.drop a) = n at *
        generalize strT (s.drop a) = U at *
        have hnz : ((n : Int) == 0) = false := by rw [beq_eq_false_iff_ne]; omega
        dsimp only at GC1
        go_wp2_with (go_at_call 17; refine GC1.out.mono ?_; clear GC1; rintro e w2 ⟨rfl, hc2⟩; have hM2 := hid (hM.out.keep hc2); clear hM)
        go_roundw
        case rel => exact ⟨a + n, l, by omega, by go_num, hM2, hnx, by omega⟩
        case measure => simp [intOf]; omega
      · have hbk0 : blkL (s.drop a) = 0 := by omega
        have hsk := skL_none hbk0
        have hI1 := hI.out
        rw [hsk, Nat.add_zero] at hI1
        rw [cut_word hbk0] at GC1
        cases he : endL (s.drop a) with
        | none =>
          rw [he] at GC1
          have hfin := hid (hI1.stop hlt he)
          clear he hI hI1 hsk hbk hbk0 hdl GC GI
          generalize strT (s.drop a) = U at *
          dsimp only at GC1
          go_wp2_with (go_at_call 17; refine GC1.out.mono ?_; clear GC1; rintro e w2 ⟨rfl, hc2⟩; have hM2 := hid (hM.out.keep hc2); clear hM)
          refine bodyPost_ret (results_tmp3 rfl _ _ _) rfl ?_
          have e9 : RR = ([], a, 1) := by rw [← hRW.out, hfin.out]
          rw [e9]
          exact ⟨_, rfl, World.ownsRow_nil _ _ _ _, hM2.out.low⟩
        | some n =>
          rw [he] at GC1
          have hnl := endL_le he
          rw [List.length_drop] at hnl
          have hn2 := endL_two he
          have hnx := hid (hI1.next hlt he)
          rw [wdOf_inn (show a + n ≤ s.length by omega)] at hnx
          have hlt2 : ((s.drop a).take n).length = n := by rw [List.length_take, List.length_drop]; omega
          have hex2 := strT_ext s a n
          have hkp := kndW_pos ((s.drop a).headD 0).toNat
          have hk2 : kndW ((s.drop a).headD 0).toNat = 2 → 2 ≤ ((s.drop a).take n).length := fun h => by rw [hlt2]; exact hn2 (kndW_two h)
          have GI1 := hid (fun u => GI.out _ _ hk2 (by omega) u)
          obtain ⟨E, hE⟩ : ∃ E : Nat, a + n = E := ⟨_, rfl⟩
          rw [hE] at hex2 hnx
          have hEz : (a : Int) + (n : Int) = (E : Int) := by omega
          have hEs : E ≤ (strT s).size := by omega
          have haE : a ≤ E := by omega
          have haEz : (a : Int) ≤ (E : Int) := by omega
          have hnz : ((n : Int) == 0) = false := by rw [beq_eq_false_iff_ne]; omega
          clear he hI hI1 hsk hbk hbk0 hdl GC GI hk2 hn2 hlt2
          dsimp only at GC1
          generalize kndW ((s.drop a).headD 0).toNat = kw at *
          generalize innT kw ((s.drop a).take n) = T at *
          generalize strT ((s.drop a).take n) = U2 at *
          generalize strT (s.drop a) = U at *
          have hkz : ((kw : Int) != 0) = true := by rw [bne_iff_ne]; omega
          have hno : Hid ((Value.slice va l.length vc).ownBlock ≠ some wr.heap.size) := hid (fun e => by have := (hM.out.own.lt _ e).2; omega)
          obtain ⟨UT, hUT⟩ : ∃ x, strT T = x := ⟨_, rfl⟩
          rw [hUT] at GI1
          go_wp2_with (first
            | (go_at_call 17; refine GC1.out.mono ?_; clear GC1; rintro e w2 ⟨rfl, hc2⟩; have hM2 := hid (hM.out.keep hc2); clear hM)
            | (go_at_call 18; refine (GI1.out w2).mono ?_; clear GI1; rintro e w3 ⟨rfl, hc3⟩; have hM3 := hid (hM2.out.keep hc3); clear hM2; have hCU := hid (hM3.out.keep (al' w3 (.cells #[.int .i64 (kw : Int), .int .i64 (a : Int), .string UT] 32))))
            | (at_builtin; refine wpList_append_lies _ (by rfl) _ _ _ (by rfl) w.heap.size 32 iP (.agg #[.int .i64 0, .int .i64 0, .string ⟨#[]⟩]) 3 32 Try.underlying24 hiP zP0 zP1 zP2 rfl (by decide) (.slice va l.length vc) l.length (l.flatMap wdV) (by rfl) hCU.out.own ⟨w3.heap.size, 0, none⟩ 1 1 [.int .i64 (kw : Int), .int .i64 (a : Int), .string UT] (by rfl) (by rfl) (World.news_of_block (heap_new w3 (.cells #[.int .i64 (kw : Int), .int .i64 (a : Int), .string UT] 32))) (by simp [Value.oneCell']) (by omega) (by (unfold maxLen); omega) (by omega) hCU.out.low.size (w3.alloc (.cells #[.int .i64 (kw : Int), .int .i64 (a : Int), .string UT] 32)).heap.size rfl ?_; intro g7 c7 w7 hown7 hgrow7 hat7 hlt7; have hC7 := hid (hCU.out.push (x := (kw, a, T)) (by rw [← hUT] at hown7; exact hown7) hgrow7); clear hown7 hgrow7 hat7 hCU))
          go_roundw
          case rel => exact ⟨E, l ++ [(kw, a, T)], by omega, by go_num, hC7, hnx, by rw [List.length_append, List.length_singleton]; omega⟩
          case measure => simp [intOf]; omega
    · have hltz : ¬ (a : Int) < (s.length : Int) := by omega
      have hfin := hid (hI.out.fin (by omega))
      go_wp2
      refine bodyPost_ret (results_tmp3 rfl _ _ _) rfl ?_
      have e9 : RR = (l, 0, 0) := by rw [← hRW.out, hfin.out]
      rw [e9]
      exact ⟨_, rfl, hM.out⟩

end Go.Proofs.Ytkpakpfjgeannaa
