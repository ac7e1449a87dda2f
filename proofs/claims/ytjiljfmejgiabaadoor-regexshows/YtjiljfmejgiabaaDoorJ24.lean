/- itemsText, setText: a set as it is told. setText: a set as it is told. -/
import Derived.Test.YtjiljfmejgiabaaDoorJ16
import Derived.Test.YtjiljfmejgiabaaDoorJ18
import Derived.Test.YtjiljfmejgiabaaDoorJ21
import Derived.Test.YtjiljfmejgiabaaDoorJ23
namespace Go.Proofs.YtjiljfmejgiabaaDoor
open Go.RowKit

theorem high_runN {S : W4} {b m : Nat} (h1 : b ≤ m) (h2 : m < 256) (h3 : hasB S m = true) : runN (highB S b) m 256 = runN S m 256 := by
  have hp := run_pos h2 h3
  have hi := runN_in S 256 m
  have he := runN_end S 256 m (by omega)
  have hle := @run_le S m
  have := @run_is (highB S b) m (runN S m 256 - 1) (by omega) (fun i hi' => by
    rw [high_run h1 (by omega)]
    exact (hi (m + i) (by omega) (by omega)).2) (fun h => by
    rw [show m + (runN S m 256 - 1) + 1 = m + runN S m 256 by omega] at h ⊢
    rw [high_run h1 h]
    exact he h)
  omega
/-- how much is left of a set, by its least byte -/
def leftM (v : Value) : Nat := if intOf v < 0 then 0 else (257 - intOf v).toNat

set_option maxHeartbeats 4000000 in
theorem itemsTextC (S : W4) (w : World) (hS : Fit4 S) (hT : Tab w) :
    Calls Tryd.prog 34 #[valB S] w fun e w' => e = .returned (.string (strT (runsL S 0 257))) ∧ Below w.heap.size w w' := by
  obtain ⟨T, hTT⟩ : ∃ T, Hid (runsL S 0 257 = T) := ⟨_, hid rfl⟩
  have hTl : T.length ≤ 2313 := by have := runs_len S 257 0; rw [hTT.out] at this; omega
  rw [hTT.out]
  have GL : Hid (∀ (Q : W4) (u : World), Fit4 Q → Below w.heap.size w u → Calls Tryd.prog 32 #[valB Q] u fun e w' => e = .returned (.int .i64 (leastB Q)) ∧ Below u.heap.size u w') := hid (fun Q u hQ hu => leastC Q.a Q.b Q.c Q.d u hQ (hT.keep hu))
  have GE : Hid (∀ (Q : W4) (m : Nat) (u : World), Fit4 Q → m < 256 → hasB Q m = true → Calls Tryd.prog 49 #[valB Q, .int .u8 (m : Int)] u fun e w' => e = .returned (.int .u8 ((m + runN Q m 256 - 1 : Nat) : Int)) ∧ Below u.heap.size u w') := hid (fun Q m u hQ hm hh => runEndC Q.a Q.b Q.c Q.d m u hQ hm hh)
  have GA : Hid (∀ (Q R : W4) (u : World), Fit4 Q → Fit4 R → Calls Tryd.prog 51 #[valB Q, valB R] u fun e w' => e = .returned (valB (andB Q R)) ∧ Below u.heap.size u w') := hid (fun Q R u hQ hR => andC Q.a Q.b Q.c Q.d R.a R.b R.c R.d u hQ hR)
  have GN : Hid (∀ (Q : W4) (u : World), Fit4 Q → Calls Tryd.prog 47 #[valB Q] u fun e w' => e = .returned (valB (notB Q)) ∧ Below u.heap.size u w') := hid (fun Q u hQ => notC Q.a Q.b Q.c Q.d u hQ)
  have hfirst := hid (first_in S)
  have hz : Hid (highB S 0 = S) := hid (highB_zero hS)
  have hhf := hid (highB_fit S)
  have hleast := hid (fun b m => @high_least S b m)
  have hnone := hid (fun b => @high_none S b)
  have htake := hid (fun b m n => @high_take S b m n)
  have hrunN := hid (fun b m => @high_runN S b m)
  have hrunS := hid (fun b m j => @high_run S b m j)
  have hpos := hid (fun m => @run_pos S m)
  have hle := hid (fun m => @run_le S m)
  have GL0 : Hid (∀ u, Below w.heap.size w u → Calls Tryd.prog 32 #[valB S] u fun e w' => e = .returned (.int .i64 (leastB S)) ∧ Below u.heap.size u w') := hid (fun u hu => GL.out S u hS hu)
  obtain ⟨sa, sb, sc, sd⟩ := S
  have hal := hid (al' w (.cells #[.int .u64 (sa : Int), .int .u64 (sb : Int), .int .u64 (sc : Int), .int .u64 (sd : Int)] 44))
  clear hT
  go_enter Tryd.func34, Tryd.ntmps34
  go_wp2_with (go_at_call 32; refine (GL0.out _ hal.out).mono ?_; rintro e w1 ⟨rfl, hb1⟩)
  go_loopw [3, 4] (fun t q wr => ∃ (b f : Nat) (A : Txt) (Q : W4), 257 ≤ b + f ∧ b ≤ 257 ∧ t = .string (strT A) ∧ q = .int .i64 (leastB Q) ∧ Hid (Q = highB ⟨sa, sb, sc, sd⟩ b) ∧ Hid (A ++ runsL ⟨sa, sb, sc, sd⟩ b f = T) ∧ Hid (Blk wr w.heap.size Q) ∧ Below w.heap.size w wr) (fun _ q _ => leftM q)
  case atStart => exact ⟨0, 257, [], ⟨sa, sb, sc, sd⟩, by omega, by omega, rfl, rfl, hid hz.out.symm, hid (by rw [List.nil_append]; exact hTT.out), hid ((show Blk _ w.heap.size ⟨sa, sb, sc, sd⟩ from heap_new w _).keep hb1), bl_step hal.out hb1⟩
  case round =>
    obtain ⟨b, f, A, Q, hbf, hb257, rfl, rfl, hQ, hA, bQ, hbl⟩ := hrel
    have hway : (leastB Q = -1 ∧ A = T) ∨ ∃ (m n f' : Nat), leastB Q = (m : Int) ∧ m < 256 ∧ b ≤ m ∧ 0 < n ∧ m + n ≤ 256 ∧ hasB Q m = true ∧ runN Q m 256 = n ∧ andB Q (notB (spanB m (m + n - 1))) = highB ⟨sa, sb, sc, sd⟩ (m + n + 1) ∧ 257 ≤ m + n + 1 + f' ∧ (A ++ runL m n) ++ runsL ⟨sa, sb, sc, sd⟩ (m + n + 1) f' = T := by
      rw [hQ.out]
      by_cases hb : b ≤ 256
      · rcases hfirst.out (256 - b) b (by omega) with h | ⟨m, h1, h2, h3, h4⟩
        · refine Or.inl ⟨hnone.out b h, ?_⟩
          obtain ⟨f', hf', hA'⟩ := told_skip (256 - b) b 256 f (by omega) (by omega) h hbf hA.out
          exact told_end (by omega) hA'
        · refine Or.inr ?_
          obtain ⟨f1, hf1, hA1⟩ := told_skip (m - b) b m f (by omega) (by omega) h4 hbf hA.out
          obtain ⟨f2, hf2, hA2⟩ := told_step h2 hf1 rfl hA1
          have hp := hpos.out m h2 h3
          have hl := hle.out m
          refine ⟨m, runN ⟨sa, sb, sc, sd⟩ m 256, f2, hleast.out b m h1 h2 h3 h4, h2, h1, hp, by omega, ?_, hrunN.out b m h1 h2 h3, htake.out b m _ h1 rfl hp h4, hf2, hA2⟩
          have := hrunS.out b m 0 h1 (by omega)
          rw [Nat.add_zero] at this
          rw [this]; exact h3
      · refine Or.inl ⟨hnone.out b (fun x h1 h2 => by omega), told_end (b := b) (by omega) hA.out⟩
    have hfQ : Fit4 Q := by rw [hQ.out]; exact hhf.out b
    have hAl : A.length ≤ T.length := by rw [← hA.out, List.length_append]; omega
    rcases hway with ⟨hl, hAT⟩ | ⟨m, n, f', hl, hm, hbm, hn0, hn1, hmQ, hrn, hand, hf', hA'⟩
    · have hAT' := hid hAT
      clear hAT hQ hA hfQ hAl
      rw [hl]
      clear hl
      go_wp2
      go_ret
      exact ⟨by rw [hAT'.out]; rfl, hbl⟩
    · have G1 := hid (fun u => GE.out Q m u hfQ hm hmQ)
      rw [hrn] at G1
      have G2 := hid (fun u => runTextC m n u hn0 hn1)
      have G3 := hid (fun u => spanC m (m + n - 1) u hm (by omega))
      have hsf := span_fit m (m + n - 1)
      have G4 := hid (fun u => GN.out (spanB m (m + n - 1)) u hsf)
      have G5 := hid (fun u => GA.out Q (notB (spanB m (m + n - 1))) u hfQ (not_fit _))
      rw [hand] at G5
      have hfin : Hid (∀ wr', Hid (Blk wr' w.heap.size (highB ⟨sa, sb, sc, sd⟩ (m + n + 1))) → Below w.heap.size w wr' → leftM (.int .i64 (leastB (highB ⟨sa, sb, sc, sd⟩ (m + n + 1)))) < leftM (.int .i64 (m : Int))) := hid (fun wr' _ _ => by
        have h0 : leftM (.int .i64 (m : Int)) = 257 - m := by
          show (if (m : Int) < 0 then 0 else (257 - (m : Int)).toNat) = _
          rw [if_neg (by omega)]; omega
        rw [h0]
        have hcase : leastB (highB ⟨sa, sb, sc, sd⟩ (m + n + 1)) = -1 ∨ ∃ m' : Nat, m < m' ∧ leastB (highB ⟨sa, sb, sc, sd⟩ (m + n + 1)) = (m' : Int) := by
          by_cases hb : m + n + 1 ≤ 256
          · rcases hfirst.out (256 - (m + n + 1)) (m + n + 1) (by omega) with h | ⟨m', h1, h2, h3, h4⟩
            · exact Or.inl (hnone.out _ h)
            · exact Or.inr ⟨m', by omega, hleast.out _ m' h1 h2 h3 h4⟩
          · exact Or.inl (hnone.out _ (fun x h1 h2 => by omega))
        rcases hcase with h | ⟨m', h1, h⟩
        · rw [h]; show (if (-1 : Int) < 0 then 0 else _) < _; rw [if_pos (by decide)]; omega
        · rw [h]
          show (if (m' : Int) < 0 then 0 else (257 - (m' : Int)).toNat) < _
          rw [if_neg (by omega)]; omega)
      have hfQ2 := hhf.out (m + n + 1)
      have G6 := hid (fun u hu => GL.out (highB ⟨sa, sb, sc, sd⟩ (m + n + 1)) u hfQ2 hu)
      have hAr : (strT A).size ≤ 2313 := by rw [strT_size]; omega
      have hRr : (strT (runL m n)).size ≤ 9 := by rw [strT_size]; unfold runL; have a1 := alone_le m tellC; have a2 := alone_le (m + n - 1) tellC; simp only [List.length_append]; split <;> split <;> split <;> simp <;> omega
      have kc := fun u => run_cat (strT A) (strT (runL m n)) u (by omega)
      rw [strT_app] at kc
      have hA2 := hid hA'
      have hf2 := hid hf'
      have hbnew : m + n + 1 ≤ 257 := by omega
      have hcv : IntKind.u8.wrap (m : Int) = (m : Int) := by rw [IntKind.wrap_u8]; omega
      rw [hl]
      clear hQ hA hfQ hAl hl hmQ hrn hand hf' hA' GE GA GN GL0 hsf hfQ2
      obtain ⟨Q2, hQ2⟩ : ∃ Q2, Hid (Q2 = highB ⟨sa, sb, sc, sd⟩ (m + n + 1)) := ⟨_, hid rfl⟩
      rw [← hQ2.out] at G5 G6 hfin
      obtain ⟨ta, tb, tc, td⟩ := Q2
      obtain ⟨qa, qb, qc, qd⟩ := Q
      generalize hL : m + n - 1 = L at G1 G2 G3 G4 G5
      have hLlt : L < 256 := by omega
      generalize spanB m L = P at G3 G4 G5
      generalize notB P = P' at G4 G5
      obtain ⟨pa, pb, pc, pd⟩ := P
      obtain ⟨pa', pb', pc', pd'⟩ := P'
      generalize strT (runL m n) = RT at G2 kc hRr
      generalize hCT : strT (A ++ runL m n) = CT at kc
      have hCT' := hid hCT
      generalize strT A = AT at kc hAr
      have hm0 : ¬ (m : Int) < 0 := by omega
      have hm0' : (0 : Int) ≤ (m : Int) := by omega
      obtain ⟨s0, s1, s2, s3, s4, s5, s6, s7⟩ := bQ.out.cells
      clear hL hCT
      go_wp2_with (first
        | (go_at_call 49; refine (G1.out _).mono ?_; rintro e w2 ⟨rfl, hb2⟩)
        | (go_at_call 50; refine (G2.out _).mono ?_; rintro e w3 ⟨rfl, hb3⟩; have hd3 : Below w3.heap.size w3 w3.drew := (Below.refl _ _).drew; have b3 := hid ((bQ.out.keep hb2).keep hb3); have b3' := hid (b3.out.keep hd3); obtain ⟨r0, r1, r2, r3, r4, r5, r6, r7⟩ := b3'.out.cells))
      go_region_with (first
        | (go_at_call 52; refine (G3.out _).mono ?_; rintro e w4 ⟨rfl, hb4⟩; have b4 := hid (b3'.out.keep hb4); obtain ⟨x0, x1, x2, x3, x4, x5, x6, x7⟩ := b4.out.cells)
        | (go_at_call 47; refine (G4.out _).mono ?_; rintro e w5 ⟨rfl, hb5⟩; have b5 := hid (b4.out.keep hb5); obtain ⟨y0, y1, y2, y3, y4, y5, y6, y7⟩ := b5.out.cells)
        | (go_at_call 51; refine (G5.out _).mono ?_; rintro e w6 ⟨rfl, hb6⟩; have b6 := hid (b5.out.keep hb6); obtain ⟨z0, z1, z2, z3, z4, z5, z6, z7⟩ := b6.out.cells)
        | fail)
      all_goals
        have b7 := hid (b6.out.put (S' := ⟨ta, tb, tc, td⟩))
        have hbl7 : Below w.heap.size w (put4 w6 w.heap.size ⟨ta, tb, tc, td⟩) := bl_put (bl_step (bl_step (bl_step (bl_step (bl_step (bl_step hbl hb2) hb3) hd3) hb4) hb5) hb6) ⟨ta, tb, tc, td⟩ (Nat.le_refl _)
        have GL7 := hid (G6.out _ hbl7)
        unfold put4 at GL7
        obtain ⟨v0, v1, v2, v3, v4, v5, v6, v7⟩ := b7.out.cells
        unfold put4 at v0 v1 v2 v3
        go_wp2_with (go_at_call 32; refine GL7.out.mono ?_; rintro e w7 ⟨rfl, hb7⟩)
        have hb7' : Below (put4 w6 w.heap.size ⟨ta, tb, tc, td⟩).heap.size (put4 w6 w.heap.size ⟨ta, tb, tc, td⟩) w7 := hb7
        go_roundw
        case rel => exact ⟨m + n + 1, f', A ++ runL m n, ⟨ta, tb, tc, td⟩, hf2.out, hbnew, by rw [hCT'.out], rfl, hQ2, hA2, hid (b7.out.keep hb7'), bl_step hbl7 hb7'⟩
        case measure => exact hfin.out w7 (hid (b7.out.keep hb7')) (bl_step hbl7 hb7')

end Go.Proofs.YtjiljfmejgiabaaDoor
namespace Go.Proofs.YtjiljfmejgiabaaDoor
open Go.RowKit

theorem least_is {S : W4} (hS : Fit4 S) (h : countB S = 1) : ∃ m : Nat, m < 256 ∧ leastB S = (m : Int) := by
  have hne : S ≠ noneB := fun e => by
    rw [e] at h
    have : countB noneB = 0 := by decide +kernel
    omega
  obtain ⟨x, hx, hhx⟩ := some_has hS hne
  rcases first_in S 256 0 (by omega) with h0 | ⟨m, _, h2, h3, h4⟩
  · rw [h0 x (by omega) hx] at hhx; cases hhx
  · exact ⟨m, h2, least_at h3 h2 fun y hy => h4 y (by omega) hy⟩

set_option maxHeartbeats 2000000 in
theorem setTextC (sa sb sc sd : Nat) (w : World) (hS : Fit4 ⟨sa, sb, sc, sd⟩) (hT : Tab w) :
    Calls Tryd.prog 23 #[valB ⟨sa, sb, sc, sd⟩] w fun e w' => e = .returned (.string (strT (toldL ⟨sa, sb, sc, sd⟩))) ∧ Below w.heap.size w w' := by
  have hal := hid (al' w (.cells #[.int .u64 (sa : Int), .int .u64 (sb : Int), .int .u64 (sc : Int), .int .u64 (sd : Int)] 44))
  have b0 : Hid (Blk (w.alloc (.cells #[.int .u64 (sa : Int), .int .u64 (sb : Int), .int .u64 (sc : Int), .int .u64 (sd : Int)] 44)) w.heap.size ⟨sa, sb, sc, sd⟩) := hid (heap_new w _)
  have GC := hid (fun u => countC sa sb sc sd u hS)
  have GL := hid (fun u (hu : Below w.heap.size w u) => leastC sa sb sc sd u hS (hT.keep hu))
  have GI := hid (fun u (hu : Below w.heap.size w u) => itemsTextC ⟨sa, sb, sc, sd⟩ u hS (hT.keep hu))
  have GP := hid pointC
  have hcle : countB ⟨sa, sb, sc, sd⟩ ≤ 256 := by rw [countB_eq]; exact countN_le _ _
  by_cases h1 : countB ⟨sa, sb, sc, sd⟩ = 1
  · obtain ⟨m, hm, hl⟩ := least_is hS h1
    have e : toldL ⟨sa, sb, sc, sd⟩ = aloneL m tellA := by unfold toldL; rw [if_pos h1, hl]; rfl
    rw [e]
    rw [h1] at GC
    rw [hl] at GL
    have GB := hid (fun u => byteTextC m atomS tellA u hm tells_atom)
    generalize strT (aloneL m tellA) = R at GB ⊢
    have hcv : IntKind.u8.wrap (m : Int) = (m : Int) := by rw [IntKind.wrap_u8]; omega
    clear e h1 hl hS hT GI GP hcle
    go_enter Tryd.func23, Tryd.ntmps23
    go_wp2_with (first
      | (go_at_call 30; refine (GC.out _).mono ?_; rintro e w1 ⟨rfl, hb1⟩; have hbw1 := bl_step hal.out hb1; obtain ⟨s0, s1, s2, s3, s4, s5, s6, s7⟩ := (b0.out.keep hb1).cells)
      | (go_at_call 32; refine (GL.out _ hbw1).mono ?_; rintro e w2 ⟨rfl, hb2⟩)
      | (go_at_call 31; refine (GB.out _).mono ?_; rintro e w3 ⟨rfl, hb3⟩))
    go_ret
    exact ⟨rfl, bl_step (bl_step hbw1 hb2) hb3⟩
  · have hc1 : (((countB ⟨sa, sb, sc, sd⟩ : Nat) : Int) == 1) = false := beq_eq_false_iff_ne.2 (by omega)
    rw [toldL_dot hS h1]
    generalize countB ⟨sa, sb, sc, sd⟩ = cnt at GC hc1
    have heq := fun u => equal4 9998 sa sb sc sd (notB (spanB 10 10)).a (notB (spanB 10 10)).b (notB (spanB 10 10)).c (notB (spanB 10 10)).d u
    have hdd : (⟨(notB (spanB 10 10)).a, (notB (spanB 10 10)).b, (notB (spanB 10 10)).c, (notB (spanB 10 10)).d⟩ : W4) = notB (spanB 10 10) := rfl
    rw [hdd] at heq
    generalize notB (spanB 10 10) = D at GP heq ⊢
    obtain ⟨da, db, dc, dd⟩ := D
    clear hdd h1 hcle GL
    by_cases hD : (⟨sa, sb, sc, sd⟩ : W4) = ⟨da, db, dc, dd⟩
    · rw [if_pos hD]
      have hE : ∀ u, (Op.equalIn 10000 44 (.agg #[.int .u64 (sa : Int), .int .u64 (sb : Int), .int .u64 (sc : Int), .int .u64 (sd : Int)]) (.agg #[.int .u64 (da : Int), .int .u64 (db : Int), .int .u64 (dc : Int), .int .u64 (dd : Int)])).run Tryd.prog u = .ok true u := fun u => by have := heq u; rwa [decide_eq_true hD] at this
      clear heq hD GI hS hT
      rw [show strT [46] = ⟨#[46]⟩ from rfl]
      go_enter Tryd.func23, Tryd.ntmps23
      go_wp2_with (first
        | (go_at_call 30; refine (GC.out _).mono ?_; rintro e w1 ⟨rfl, hb1⟩; have hbw1 := bl_step hal.out hb1; have hd1 : Below w1.heap.size w1 w1.drew := (Below.refl _ _).drew; have b1 := hid ((b0.out.keep hb1).keep hd1); obtain ⟨s0, s1, s2, s3, s4, s5, s6, s7⟩ := b1.out.cells))
      go_region_with (first
        | (go_at_call 33; refine (GP.out _).mono ?_; rintro e w2 ⟨rfl, hb2⟩; obtain ⟨r0, r1, r2, r3, r4, r5, r6, r7⟩ := (b1.out.keep hb2).cells)
        | fail)
      all_goals
        go_wp2
        go_ret
        exact ⟨rfl, bl_step (bl_step hbw1 hd1) hb2⟩
    · rw [if_neg hD]
      have hE : ∀ u, (Op.equalIn 10000 44 (.agg #[.int .u64 (sa : Int), .int .u64 (sb : Int), .int .u64 (sc : Int), .int .u64 (sd : Int)]) (.agg #[.int .u64 (da : Int), .int .u64 (db : Int), .int .u64 (dc : Int), .int .u64 (dd : Int)])).run Tryd.prog u = .ok false u := fun u => by have := heq u; rwa [decide_eq_false hD] at this
      have hlen : (strT (runsL ⟨sa, sb, sc, sd⟩ 0 257)).size ≤ 2313 := by rw [strT_size]; have := runs_len ⟨sa, sb, sc, sd⟩ 257 0; omega
      have hsp : strT (91 :: (runsL ⟨sa, sb, sc, sd⟩ 0 257 ++ [93])) = ⟨#[91]⟩ ++ strT (runsL ⟨sa, sb, sc, sd⟩ 0 257) ++ ⟨#[93]⟩ := by
        rw [show (⟨#[91]⟩ : ByteArray) = strT [91] from rfl, show (⟨#[93]⟩ : ByteArray) = strT [93] from rfl, strT_app, strT_app]
        rfl
      rw [hsp]
      generalize strT (runsL ⟨sa, sb, sc, sd⟩ 0 257) = X at GI hlen ⊢
      have h91 : (⟨#[91]⟩ : ByteArray).size = 1 := rfl
      have h93 : (⟨#[93]⟩ : ByteArray).size = 1 := rfl
      have k1 := fun u => run_cat ⟨#[91]⟩ X u (by omega)
      have k2 := fun u => run_cat (⟨#[91]⟩ ++ X) ⟨#[93]⟩ u (by rw [ByteArray.size_append]; omega)
      clear heq hD hS hT hsp h91 h93
      go_enter Tryd.func23, Tryd.ntmps23
      go_wp2_with (first
        | (go_at_call 30; refine (GC.out _).mono ?_; rintro e w1 ⟨rfl, hb1⟩; have hbw1 := bl_step hal.out hb1; have hd1 : Below w1.heap.size w1 w1.drew := (Below.refl _ _).drew; have b1 := hid ((b0.out.keep hb1).keep hd1); obtain ⟨s0, s1, s2, s3, s4, s5, s6, s7⟩ := b1.out.cells))
      go_region_with (first
        | (go_at_call 33; refine (GP.out _).mono ?_; rintro e w2 ⟨rfl, hb2⟩; have hbw2 := bl_step (bl_step hbw1 hd1) hb2; obtain ⟨r0, r1, r2, r3, r4, r5, r6, r7⟩ := (b1.out.keep hb2).cells)
        | fail)
      all_goals
        go_wp2_with (go_at_call 34; refine (GI.out _ hbw2).mono ?_; rintro e w3 ⟨rfl, hb3⟩)
        go_ret
        exact ⟨rfl, bl_step hbw2 hb3⟩

end Go.Proofs.YtjiljfmejgiabaaDoor
