/- itemsText, setText: a set as it is told. setText: a set as it is told. Right of package regex. shownCell: the text of a cell, by those of its operands. -/
import Derived.Test.YtcledgljbmepaaaGreatDoorJ26
import Derived.Test.YtcledgljbmepaaaGreatDoorJ27
import Derived.Test.YtcledgljbmepaaaGreatDoorJ8
import Derived.Test.YtcledgljbmepaaaGreatDoorJ28
import Derived.Test.YtcledgljbmepaaaGreatDoorJ4
import Derived.Test.YtcledgljbmepaaaGreatDoorJ7
import Derived.Test.YtcledgljbmepaaaGreatDoorJ5
namespace Go.Proofs.YtcledgljbmepaaaGreatDoor
open Go.RowKit

theorem high_runN {S : W4} {b m : Nat} (h1 : b ≤ m) (h2 : m < 256) (h3 : hasB S m = true) : runN (highB S b) m 256 = runN S m 256 := by
  have hp := run_pos h2 h3
  have hi := runN_in S 256 m
  have he := runN_end S 256 m (by omega)
  have hle := @run_le S m
  have := @run_is (highB S b) m (runN S m 256 - 1) (by omega) (fun i hi' => by
    rw [high_run h1 (by omega)]
    exact (hi (m + i) (by omega) (by omega)).2) (fun h => by
    rw [show m + (runN S m 256 - 1) + 1 = m + runN S m 256 by omega] at h ⊢
    rw [high_run h1 h]
    exact he h)
  omega
/-- how much is left of a set, by its least byte -/
def leftM (v : Value) : Nat := if intOf v < 0 then 0 else (257 - intOf v).toNat

set_option maxRecDepth 20000 in
set_option maxHeartbeats 4000000 in
theorem itemsTextC (S : W4) (w : World) (hS : Fit4 S) (hT : Tab w) :
    Calls Tryz.prog 114 #[valB S] w fun e w' => e = .returned (.string (strT (runsL S 0 257))) ∧ Below w.heap.size w w' := by
  obtain ⟨T, hTT⟩ : ∃ T, Hid (runsL S 0 257 = T) := ⟨_, hid rfl⟩
  have hTl : T.length ≤ 2313 := by have := runs_len S 257 0; rw [hTT.out] at this; omega
  rw [hTT.out]
  have GL : Hid (∀ (Q : W4) (u : World), Fit4 Q → Below w.heap.size w u → Calls Tryz.prog 112 #[valB Q] u fun e w' => e = .returned (.int .i64 (leastB Q)) ∧ Below u.heap.size u w') := hid (fun Q u hQ hu => leastC Q.a Q.b Q.c Q.d u hQ (hT.keep hu))
  have GE : Hid (∀ (Q : W4) (m : Nat) (u : World), Fit4 Q → m < 256 → hasB Q m = true → Calls Tryz.prog 128 #[valB Q, .int .u8 (m : Int)] u fun e w' => e = .returned (.int .u8 ((m + runN Q m 256 - 1 : Nat) : Int)) ∧ Below u.heap.size u w') := hid (fun Q m u hQ hm hh => runEndC Q.a Q.b Q.c Q.d m u hQ hm hh)
  have GA : Hid (∀ (Q R : W4) (u : World), Fit4 Q → Fit4 R → Calls Tryz.prog 130 #[valB Q, valB R] u fun e w' => e = .returned (valB (andB Q R)) ∧ Below u.heap.size u w') := hid (fun Q R u hQ hR => andC Q.a Q.b Q.c Q.d R.a R.b R.c R.d u hQ hR)
  have GN : Hid (∀ (Q : W4) (u : World), Fit4 Q → Calls Tryz.prog 126 #[valB Q] u fun e w' => e = .returned (valB (notB Q)) ∧ Below u.heap.size u w') := hid (fun Q u hQ => notC Q.a Q.b Q.c Q.d u hQ)
  have hfirst := hid (first_in S)
  have hz : Hid (highB S 0 = S) := hid (highB_zero hS)
  have hhf := hid (highB_fit S)
  have hleast := hid (fun b m => @high_least S b m)
  have hnone := hid (fun b => @high_none S b)
  have htake := hid (fun b m n => @high_take S b m n)
  have hrunN := hid (fun b m => @high_runN S b m)
  have hrunS := hid (fun b m j => @high_run S b m j)
  have hpos := hid (fun m => @run_pos S m)
  have hle := hid (fun m => @run_le S m)
  have GL0 : Hid (∀ u, Below w.heap.size w u → Calls Tryz.prog 112 #[valB S] u fun e w' => e = .returned (.int .i64 (leastB S)) ∧ Below u.heap.size u w') := hid (fun u hu => GL.out S u hS hu)
  obtain ⟨sa, sb, sc, sd⟩ := S
  have hal := hid (al' w (.cells #[.int .u64 (sa : Int), .int .u64 (sb : Int), .int .u64 (sc : Int), .int .u64 (sd : Int)] 110))
  clear hT
  go_enter Tryz.func114, Tryz.ntmps114
  go_wp2_with (go_at_call 112; refine (GL0.out _ hal.out).mono ?_; rintro e w1 ⟨rfl, hb1⟩)
  go_loopw [3, 4] (fun t q wr => ∃ (b f : Nat) (A : Txt) (Q : W4), 257 ≤ b + f ∧ b ≤ 257 ∧ t = .string (strT A) ∧ q = .int .i64 (leastB Q) ∧ Hid (Q = highB ⟨sa, sb, sc, sd⟩ b) ∧ Hid (A ++ runsL ⟨sa, sb, sc, sd⟩ b f = T) ∧ Hid (Blk wr w.heap.size Q) ∧ Below w.heap.size w wr) (fun _ q _ => leftM q)
  case atStart => exact ⟨0, 257, [], ⟨sa, sb, sc, sd⟩, by omega, by omega, rfl, rfl, hid hz.out.symm, hid (by rw [List.nil_append]; exact hTT.out), hid ((show Blk _ w.heap.size ⟨sa, sb, sc, sd⟩ from heap_new w _).keep hb1), bl_step hal.out hb1⟩
  case round =>
    obtain ⟨b, f, A, Q, hbf, hb257, rfl, rfl, hQ, hA, bQ, hbl⟩ := hrel
    have hway : (leastB Q = -1 ∧ A = T) ∨ ∃ (m n f' : Nat), leastB Q = (m : Int) ∧ m < 256 ∧ b ≤ m ∧ 0 < n ∧ m + n ≤ 256 ∧ hasB Q m = true ∧ runN Q m 256 = n ∧ andB Q (notB (spanB m (m + n - 1))) = highB ⟨sa, sb, sc, sd⟩ (m + n + 1) ∧ 257 ≤ m + n + 1 + f' ∧ (A ++ runL m n) ++ runsL ⟨sa, sb, sc, sd⟩ (m + n + 1) f' = T := by
      rw [hQ.out]
      by_cases hb : b ≤ 256
      · rcases hfirst.out (256 - b) b (by omega) with h | ⟨m, h1, h2, h3, h4⟩
        · refine Or.inl ⟨hnone.out b h, ?_⟩
          obtain ⟨f', hf', hA'⟩ := told_skip (256 - b) b 256 f (by omega) (by omega) h hbf hA.out
          exact told_end (by omega) hA'
        · refine Or.inr ?_
          obtain ⟨f1, hf1, hA1⟩ := told_skip (m - b) b m f (by omega) (by omega) h4 hbf hA.out
          obtain ⟨f2, hf2, hA2⟩ := told_step h2 hf1 rfl hA1
          have hp := hpos.out m h2 h3
          have hl := hle.out m
          refine ⟨m, runN ⟨sa, sb, sc, sd⟩ m 256, f2, hleast.out b m h1 h2 h3 h4, h2, h1, hp, by omega, ?_, hrunN.out b m h1 h2 h3, htake.out b m _ h1 rfl hp h4, hf2, hA2⟩
          have := hrunS.out b m 0 h1 (by omega)
          rw [Nat.add_zero] at this
          rw [this]; exact h3
      · refine Or.inl ⟨hnone.out b (fun x h1 h2 => by omega), told_end (b := b) (by omega) hA.out⟩
    have hfQ : Fit4 Q := by rw [hQ.out]; exact hhf.out b
    have hAl : A.length ≤ T.length := by rw [← hA.out, List.length_append]; omega
    rcases hway with ⟨hl, hAT⟩ | ⟨m, n, f', hl, hm, hbm, hn0, hn1, hmQ, hrn, hand, hf', hA'⟩
    · have hAT' := hid hAT
      clear hAT hQ hA hfQ hAl
      rw [hl]
      clear hl
      go_wp2
      go_ret
      exact ⟨by rw [hAT'.out]; rfl, hbl⟩
    · have G1 := hid (fun u => GE.out Q m u hfQ hm hmQ)
      rw [hrn] at G1
      have G2 := hid (fun u => runTextC m n u hn0 hn1)
      have G3 := hid (fun u => spanC m (m + n - 1) u hm (by omega))
      have hsf := span_fit m (m + n - 1)
      have G4 := hid (fun u => GN.out (spanB m (m + n - 1)) u hsf)
      have G5 := hid (fun u => GA.out Q (notB (spanB m (m + n - 1))) u hfQ (not_fit _))
      rw [hand] at G5
      have hfin : Hid (∀ wr', Hid (Blk wr' w.heap.size (highB ⟨sa, sb, sc, sd⟩ (m + n + 1))) → Below w.heap.size w wr' → leftM (.int .i64 (leastB (highB ⟨sa, sb, sc, sd⟩ (m + n + 1)))) < leftM (.int .i64 (m : Int))) := hid (fun wr' _ _ => by
        have h0 : leftM (.int .i64 (m : Int)) = 257 - m := by
          show (if (m : Int) < 0 then 0 else (257 - (m : Int)).toNat) = _
          rw [if_neg (by omega)]; omega
        rw [h0]
        have hcase : leastB (highB ⟨sa, sb, sc, sd⟩ (m + n + 1)) = -1 ∨ ∃ m' : Nat, m < m' ∧ leastB (highB ⟨sa, sb, sc, sd⟩ (m + n + 1)) = (m' : Int) := by
          by_cases hb : m + n + 1 ≤ 256
          · rcases hfirst.out (256 - (m + n + 1)) (m + n + 1) (by omega) with h | ⟨m', h1, h2, h3, h4⟩
            · exact Or.inl (hnone.out _ h)
            · exact Or.inr ⟨m', by omega, hleast.out _ m' h1 h2 h3 h4⟩
          · exact Or.inl (hnone.out _ (fun x h1 h2 => by omega))
        rcases hcase with h | ⟨m', h1, h⟩
        · rw [h]; show (if (-1 : Int) < 0 then 0 else _) < _; rw [if_pos (by decide)]; omega
        · rw [h]
          show (if (m' : Int) < 0 then 0 else (257 - (m' : Int)).toNat) < _
          rw [if_neg (by omega)]; omega)
      have hfQ2 := hhf.out (m + n + 1)
      have G6 := hid (fun u hu => GL.out (highB ⟨sa, sb, sc, sd⟩ (m + n + 1)) u hfQ2 hu)
      have hAr : (strT A).size ≤ 2313 := by rw [strT_size]; omega
      have hRr : (strT (runL m n)).size ≤ 9 := by rw [strT_size]; unfold runL; have a1 := alone_le m tellC; have a2 := alone_le (m + n - 1) tellC; simp only [List.length_append]; split <;> split <;> split <;> simp <;> omega
      have kc := fun u => run_cat (strT A) (strT (runL m n)) u (by omega)
      rw [strT_app] at kc
      have hA2 := hid hA'
      have hf2 := hid hf'
      have hbnew : m + n + 1 ≤ 257 := by omega
      have hcv : IntKind.u8.wrap (m : Int) = (m : Int) := by rw [IntKind.wrap_u8]; omega
      rw [hl]
      clear hQ hA hfQ hAl hl hmQ hrn hand hf' hA' GE GA GN GL0 hsf hfQ2
      obtain ⟨Q2, hQ2⟩ : ∃ Q2, Hid (Q2 = highB ⟨sa, sb, sc, sd⟩ (m + n + 1)) := ⟨_, hid rfl⟩
      rw [← hQ2.out] at G5 G6 hfin
      obtain ⟨ta, tb, tc, td⟩ := Q2
      obtain ⟨qa, qb, qc, qd⟩ := Q
      generalize hL : m + n - 1 = L at G1 G2 G3 G4 G5
      have hLlt : L < 256 := by omega
      generalize spanB m L = P at G3 G4 G5
      generalize notB P = P' at G4 G5
      obtain ⟨pa, pb, pc, pd⟩ := P
      obtain ⟨pa', pb', pc', pd'⟩ := P'
      generalize strT (runL m n) = RT at G2 kc hRr
      generalize hCT : strT (A ++ runL m n) = CT at kc
      have hCT' := hid hCT
      generalize strT A = AT at kc hAr
      have hm0 : ¬ (m : Int) < 0 := by omega
      have hm0' : (0 : Int) ≤ (m : Int) := by omega
      obtain ⟨s0, s1, s2, s3, s4, s5, s6, s7⟩ := bQ.out.cells
      clear hL hCT
      go_wp2_with (first
        | (go_at_call 128; refine (G1.out _).mono ?_; rintro e w2 ⟨rfl, hb2⟩)
        | (go_at_call 129; refine (G2.out _).mono ?_; rintro e w3 ⟨rfl, hb3⟩; have hd3 : Below w3.heap.size w3 w3.drew := (Below.refl _ _).drew; have b3 := hid ((bQ.out.keep hb2).keep hb3); have b3' := hid (b3.out.keep hd3); obtain ⟨r0, r1, r2, r3, r4, r5, r6, r7⟩ := b3'.out.cells))
      go_region_with (first
        | (go_at_call 131; refine (G3.out _).mono ?_; rintro e w4 ⟨rfl, hb4⟩; have b4 := hid (b3'.out.keep hb4); obtain ⟨x0, x1, x2, x3, x4, x5, x6, x7⟩ := b4.out.cells)
        | (go_at_call 126; refine (G4.out _).mono ?_; rintro e w5 ⟨rfl, hb5⟩; have b5 := hid (b4.out.keep hb5); obtain ⟨y0, y1, y2, y3, y4, y5, y6, y7⟩ := b5.out.cells)
        | (go_at_call 130; refine (G5.out _).mono ?_; rintro e w6 ⟨rfl, hb6⟩; have b6 := hid (b5.out.keep hb6); obtain ⟨z0, z1, z2, z3, z4, z5, z6, z7⟩ := b6.out.cells)
        | fail)
      all_goals
        have b7 := hid (b6.out.put (S' := ⟨ta, tb, tc, td⟩))
        have hbl7 : Below w.heap.size w (put4 w6 w.heap.size ⟨ta, tb, tc, td⟩) := bl_put (bl_step (bl_step (bl_step (bl_step (bl_step (bl_step hbl hb2) hb3) hd3) hb4) hb5) hb6) ⟨ta, tb, tc, td⟩ (Nat.le_refl _)
        have GL7 := hid (G6.out _ hbl7)
        unfold put4 at GL7
        obtain ⟨v0, v1, v2, v3, v4, v5, v6, v7⟩ := b7.out.cells
        unfold put4 at v0 v1 v2 v3
        go_wp2_with (go_at_call 112; refine GL7.out.mono ?_; rintro e w7 ⟨rfl, hb7⟩)
        have hb7' : Below (put4 w6 w.heap.size ⟨ta, tb, tc, td⟩).heap.size (put4 w6 w.heap.size ⟨ta, tb, tc, td⟩) w7 := hb7
        go_roundw
        case rel => exact ⟨m + n + 1, f', A ++ runL m n, ⟨ta, tb, tc, td⟩, hf2.out, hbnew, by rw [hCT'.out], rfl, hQ2, hA2, hid (b7.out.keep hb7'), bl_step hbl7 hb7'⟩
        case measure => exact hfin.out w7 (hid (b7.out.keep hb7')) (bl_step hbl7 hb7')

end Go.Proofs.YtcledgljbmepaaaGreatDoor
namespace Go.Proofs.YtcledgljbmepaaaGreatDoor
open Go.RowKit

theorem least_is {S : W4} (hS : Fit4 S) (h : countB S = 1) : ∃ m : Nat, m < 256 ∧ leastB S = (m : Int) := by
  have hne : S ≠ noneB := fun e => by
    rw [e] at h
    have : countB noneB = 0 := by decide +kernel
    omega
  obtain ⟨x, hx, hhx⟩ := some_has hS hne
  rcases first_in S 256 0 (by omega) with h0 | ⟨m, _, h2, h3, h4⟩
  · rw [h0 x (by omega) hx] at hhx; cases hhx
  · exact ⟨m, h2, least_at h3 h2 fun y hy => h4 y (by omega) hy⟩

set_option maxRecDepth 20000 in
set_option maxHeartbeats 2000000 in
theorem setTextC (sa sb sc sd : Nat) (w : World) (hS : Fit4 ⟨sa, sb, sc, sd⟩) (hT : Tab w) :
    Calls Tryz.prog 101 #[valB ⟨sa, sb, sc, sd⟩] w fun e w' => e = .returned (.string (strT (toldL ⟨sa, sb, sc, sd⟩))) ∧ Below w.heap.size w w' := by
  have hal := hid (al' w (.cells #[.int .u64 (sa : Int), .int .u64 (sb : Int), .int .u64 (sc : Int), .int .u64 (sd : Int)] 110))
  have b0 : Hid (Blk (w.alloc (.cells #[.int .u64 (sa : Int), .int .u64 (sb : Int), .int .u64 (sc : Int), .int .u64 (sd : Int)] 110)) w.heap.size ⟨sa, sb, sc, sd⟩) := hid (heap_new w _)
  have GC := hid (fun u => countC sa sb sc sd u hS)
  have GL := hid (fun u (hu : Below w.heap.size w u) => leastC sa sb sc sd u hS (hT.keep hu))
  have GI := hid (fun u (hu : Below w.heap.size w u) => itemsTextC ⟨sa, sb, sc, sd⟩ u hS (hT.keep hu))
  have GP := hid pointC
  have hcle : countB ⟨sa, sb, sc, sd⟩ ≤ 256 := by rw [countB_eq]; exact countN_le _ _
  by_cases h1 : countB ⟨sa, sb, sc, sd⟩ = 1
  · obtain ⟨m, hm, hl⟩ := least_is hS h1
    have e : toldL ⟨sa, sb, sc, sd⟩ = aloneL m tellA := by unfold toldL; rw [if_pos h1, hl]; rfl
    rw [e]
    rw [h1] at GC
    rw [hl] at GL
    have GB := hid (fun u => byteTextC m atomS tellA u hm tells_atom)
    generalize strT (aloneL m tellA) = R at GB ⊢
    have hcv : IntKind.u8.wrap (m : Int) = (m : Int) := by rw [IntKind.wrap_u8]; omega
    clear e h1 hl hS hT GI GP hcle
    go_enter Tryz.func101, Tryz.ntmps101
    go_wp2_with (first
      | (go_at_call 110; refine (GC.out _).mono ?_; rintro e w1 ⟨rfl, hb1⟩; have hbw1 := bl_step hal.out hb1; obtain ⟨s0, s1, s2, s3, s4, s5, s6, s7⟩ := (b0.out.keep hb1).cells)
      | (go_at_call 112; refine (GL.out _ hbw1).mono ?_; rintro e w2 ⟨rfl, hb2⟩)
      | (go_at_call 111; refine (GB.out _).mono ?_; rintro e w3 ⟨rfl, hb3⟩))
    go_ret
    exact ⟨rfl, bl_step (bl_step hbw1 hb2) hb3⟩
  · have hc1 : (((countB ⟨sa, sb, sc, sd⟩ : Nat) : Int) == 1) = false := beq_eq_false_iff_ne.2 (by omega)
    rw [toldL_dot hS h1]
    generalize countB ⟨sa, sb, sc, sd⟩ = cnt at GC hc1
    have heq := fun u => equal4 9998 sa sb sc sd (notB (spanB 10 10)).a (notB (spanB 10 10)).b (notB (spanB 10 10)).c (notB (spanB 10 10)).d u
    have hdd : (⟨(notB (spanB 10 10)).a, (notB (spanB 10 10)).b, (notB (spanB 10 10)).c, (notB (spanB 10 10)).d⟩ : W4) = notB (spanB 10 10) := rfl
    rw [hdd] at heq
    generalize notB (spanB 10 10) = D at GP heq ⊢
    obtain ⟨da, db, dc, dd⟩ := D
    clear hdd h1 hcle GL
    by_cases hD : (⟨sa, sb, sc, sd⟩ : W4) = ⟨da, db, dc, dd⟩
    · rw [if_pos hD]
      have hE : ∀ u, (Op.equalIn 10000 110 (.agg #[.int .u64 (sa : Int), .int .u64 (sb : Int), .int .u64 (sc : Int), .int .u64 (sd : Int)]) (.agg #[.int .u64 (da : Int), .int .u64 (db : Int), .int .u64 (dc : Int), .int .u64 (dd : Int)])).run Tryz.prog u = .ok true u := fun u => by have := heq u; rwa [decide_eq_true hD] at this
      clear heq hD GI hS hT
      rw [show strT [46] = ⟨#[46]⟩ from rfl]
      go_enter Tryz.func101, Tryz.ntmps101
      go_wp2_with (first
        | (go_at_call 110; refine (GC.out _).mono ?_; rintro e w1 ⟨rfl, hb1⟩; have hbw1 := bl_step hal.out hb1; have hd1 : Below w1.heap.size w1 w1.drew := (Below.refl _ _).drew; have b1 := hid ((b0.out.keep hb1).keep hd1); obtain ⟨s0, s1, s2, s3, s4, s5, s6, s7⟩ := b1.out.cells))
      go_region_with (first
        | (go_at_call 113; refine (GP.out _).mono ?_; rintro e w2 ⟨rfl, hb2⟩; obtain ⟨r0, r1, r2, r3, r4, r5, r6, r7⟩ := (b1.out.keep hb2).cells)
        | fail)
      all_goals
        go_wp2
        go_ret
        exact ⟨rfl, bl_step (bl_step hbw1 hd1) hb2⟩
    · rw [if_neg hD]
      have hE : ∀ u, (Op.equalIn 10000 110 (.agg #[.int .u64 (sa : Int), .int .u64 (sb : Int), .int .u64 (sc : Int), .int .u64 (sd : Int)]) (.agg #[.int .u64 (da : Int), .int .u64 (db : Int), .int .u64 (dc : Int), .int .u64 (dd : Int)])).run Tryz.prog u = .ok false u := fun u => by have := heq u; rwa [decide_eq_false hD] at this
      have hlen : (strT (runsL ⟨sa, sb, sc, sd⟩ 0 257)).size ≤ 2313 := by rw [strT_size]; have := runs_len ⟨sa, sb, sc, sd⟩ 257 0; omega
      have hsp : strT (91 :: (runsL ⟨sa, sb, sc, sd⟩ 0 257 ++ [93])) = ⟨#[91]⟩ ++ strT (runsL ⟨sa, sb, sc, sd⟩ 0 257) ++ ⟨#[93]⟩ := by
        rw [show (⟨#[91]⟩ : ByteArray) = strT [91] from rfl, show (⟨#[93]⟩ : ByteArray) = strT [93] from rfl, strT_app, strT_app]
        rfl
      rw [hsp]
      generalize strT (runsL ⟨sa, sb, sc, sd⟩ 0 257) = X at GI hlen ⊢
      have h91 : (⟨#[91]⟩ : ByteArray).size = 1 := rfl
      have h93 : (⟨#[93]⟩ : ByteArray).size = 1 := rfl
      have k1 := fun u => run_cat ⟨#[91]⟩ X u (by omega)
      have k2 := fun u => run_cat (⟨#[91]⟩ ++ X) ⟨#[93]⟩ u (by rw [ByteArray.size_append]; omega)
      clear heq hD hS hT hsp h91 h93
      go_enter Tryz.func101, Tryz.ntmps101
      go_wp2_with (first
        | (go_at_call 110; refine (GC.out _).mono ?_; rintro e w1 ⟨rfl, hb1⟩; have hbw1 := bl_step hal.out hb1; have hd1 : Below w1.heap.size w1 w1.drew := (Below.refl _ _).drew; have b1 := hid ((b0.out.keep hb1).keep hd1); obtain ⟨s0, s1, s2, s3, s4, s5, s6, s7⟩ := b1.out.cells))
      go_region_with (first
        | (go_at_call 113; refine (GP.out _).mono ?_; rintro e w2 ⟨rfl, hb2⟩; have hbw2 := bl_step (bl_step hbw1 hd1) hb2; obtain ⟨r0, r1, r2, r3, r4, r5, r6, r7⟩ := (b1.out.keep hb2).cells)
        | fail)
      all_goals
        go_wp2_with (go_at_call 114; refine (GI.out _ hbw2).mono ?_; rintro e w3 ⟨rfl, hb3⟩)
        go_ret
        exact ⟨rfl, bl_step hbw2 hb3⟩

end Go.Proofs.YtcledgljbmepaaaGreatDoor
namespace Go.Proofs.YtcledgljbmepaaaGreatDoor
open Go.RowKit

set_option maxRecDepth 20000 in
theorem operandsC (op : Int) (w : World) : Calls Tryz.prog 99 #[.int .i64 op] w fun e w' => e = .returned (.int .i64 (wants op)) ∧ w' = w := by
  by_cases h1 : op = 1
  · subst h1; rw [show wants 1 = 0 by decide]; go_enter Tryz.func99, Tryz.ntmps99; go_wp2; go_ret; exact ⟨rfl, rfl⟩
  by_cases h2 : op = 2
  · subst h2; rw [show wants 2 = 0 by decide]; go_enter Tryz.func99, Tryz.ntmps99; go_wp2; go_ret; exact ⟨rfl, rfl⟩
  by_cases h3 : op = 3
  · subst h3; rw [show wants 3 = 2 by decide]; go_enter Tryz.func99, Tryz.ntmps99; go_wp2; go_ret; exact ⟨rfl, rfl⟩
  by_cases h4 : op = 4
  · subst h4; rw [show wants 4 = 2 by decide]; go_enter Tryz.func99, Tryz.ntmps99; go_wp2; go_ret; exact ⟨rfl, rfl⟩
  by_cases h5 : op = 5
  · subst h5; rw [show wants 5 = 1 by decide]; go_enter Tryz.func99, Tryz.ntmps99; go_wp2; go_ret; exact ⟨rfl, rfl⟩
  by_cases h6 : op = 6
  · subst h6; rw [show wants 6 = 1 by decide]; go_enter Tryz.func99, Tryz.ntmps99; go_wp2; go_ret; exact ⟨rfl, rfl⟩
  by_cases h7 : op = 7
  · subst h7; rw [show wants 7 = 1 by decide]; go_enter Tryz.func99, Tryz.ntmps99; go_wp2; go_ret; exact ⟨rfl, rfl⟩
  have c1 : (op == 1) = false := beq_eq_false_iff_ne.2 h1
  have c2 : (op == 2) = false := beq_eq_false_iff_ne.2 h2
  have c3 : (op == 3) = false := beq_eq_false_iff_ne.2 h3
  have c4 : (op == 4) = false := beq_eq_false_iff_ne.2 h4
  have c5 : (op == 5) = false := beq_eq_false_iff_ne.2 h5
  have c6 : (op == 6) = false := beq_eq_false_iff_ne.2 h6
  have c7 : (op == 7) = false := beq_eq_false_iff_ne.2 h7
  have e : wants op = -1 := by unfold wants; rw [if_neg (by omega), if_neg (by omega), if_neg (by omega)]
  rw [e]
  clear h1 h2 h3 h4 h5 h6 h7
  go_enter Tryz.func99, Tryz.ntmps99; go_wp2; go_ret; exact ⟨rfl, rfl⟩

/-- a cell as a value -/
abbrev celV (op : Int) (a b c d : Nat) : Value := .agg #[.int .i64 op, .int .u64 (a : Int), .int .u64 (b : Int), .int .u64 (c : Int), .int .u64 (d : Int)]
theorem cells5 {w : World} {b : Nat} {x0 x1 x2 x3 x4 : Value} {T : TypeId} (h : w.heap[b]? = some (.cells #[x0, x1, x2, x3, x4] T (0, 0))) :
    w.cell? ⟨b, 0, none⟩ = some x0 ∧ w.cell? ⟨b, 1, none⟩ = some x1 ∧ w.cell? ⟨b, 2, none⟩ = some x2 ∧ w.cell? ⟨b, 3, none⟩ = some x3 ∧ w.cell? ⟨b, 4, none⟩ = some x4 := ⟨blk_cell h rfl, blk_cell h rfl, blk_cell h rfl, blk_cell h rfl, blk_cell h rfl⟩

set_option maxRecDepth 20000 in
set_option maxHeartbeats 1000000 in
theorem rightSetC (op : Int) (a b c d : Nat) (w : World) : Calls Tryz.prog 100 #[celV op a b c d] w fun e w' => e = .returned (.bool (!(decide ((⟨a, b, c, d⟩ : W4) = noneB) == (op == 1)))) ∧ Below w.heap.size w w' := by
  have he : ∀ u, (Op.equalIn 10000 110 (.agg #[.int .u64 (a : Int), .int .u64 (b : Int), .int .u64 (c : Int), .int .u64 (d : Int)]) (.agg #[.int .u64 0, .int .u64 0, .int .u64 0, .int .u64 0])).run Tryz.prog u = .ok (decide ((⟨a, b, c, d⟩ : W4) = noneB)) u := fun u => equal4 9998 a b c d 0 0 0 0 u
  generalize decide ((⟨a, b, c, d⟩ : W4) = noneB) = E at he ⊢
  have hb : ∀ x y : Bool, ∀ u, (binOp .eql 4 (.bool x) (.bool y)).run Tryz.prog u = .ok (.bool (x == y)) u := fun x y u => by cases x <;> cases y <;> kernel_rfl
  go_enter Tryz.func100, Tryz.ntmps100
  go_wp2_with fail
  go_quiet (fail)
  go_wp2
  go_ret
  refine ⟨?_, ?_⟩
  · cases E <;> cases (op == 1) <;> rfl
  · exact (al' w _).trans ⟨rfl, rfl, rfl, Nat.le_refl _, fun _ _ => rfl⟩

set_option maxRecDepth 20000 in
set_option maxHeartbeats 4000000 in
theorem rightP (v : Value) (l : List Cel) (w : World) (hA : Cels w v l) : Calls Tryz.prog 83 #[v] w fun e w' => e = .returned (.bool (rightB l)) ∧ Below w.heap.size w w' := by
  obtain ⟨av, cv, rfl, _, _, hFl, hAt⟩ := hA
  have hAt := hid hAt
  by_cases h60 : 60 < l.length
  · have e : rightB l = false := by unfold rightB; rw [decide_eq_false (by omega : ¬ l.length ≤ 60)]; simp
    rw [e]
    have h60z : (60 : Int) < (l.length : Int) := by omega
    go_enter Tryz.func83, Tryz.ntmps83; go_wp2; go_ret; exact ⟨rfl, Below.refl _ _⟩
  have h60z : ¬ (60 : Int) < (l.length : Int) := by omega
  have hend := hid (fun (h : 1 ≤ l.length) d => @right_end l h (by omega) d)
  have hnil : Hid (l.length = 0 → rightB l = false) := hid (fun h => by unfold rightB; rw [decide_eq_false (by omega : ¬ 1 ≤ l.length)]; rfl)
  have hbad := hid (fun k (hk : k ≤ l.length) (h : depthN l k = none) => right_bad (depth_none l h l.length hk))
  have hsucc := hid (fun k d => @depth_succ l k d)
  have GW := hid operandsC
  have GS := hid rightSetC
  generalize rightB l = R at hend hbad hnil ⊢
  go_enter Tryz.func83, Tryz.ntmps83
  go_wp2
  go_loopw [3, 12] (fun d i wr => ∃ (k : Nat) (z : Int), k ≤ l.length ∧ i = .int .i64 k ∧ d = .int .i64 z ∧ Hid (depthN l k = some z) ∧ 0 ≤ z ∧ z ≤ k ∧ Below w.heap.size w wr) (fun _ i _ => l.length - (intOf i).toNat)
  case atStart => exact ⟨0, 0, Nat.zero_le _, rfl, rfl, hid rfl, Int.le_refl _, by omega, Below.refl _ _⟩
  case round =>
    obtain ⟨k, z, hk, rfl, rfl, hdep, hz0, hzk, hbl⟩ := hrel
    by_cases hlt : k < l.length
    · have hltz : (k : Int) < (l.length : Int) := by omega
      obtain ⟨b', o', rfl, hb', hat0⟩ := hAt.out k hlt
      have hat := hat0.keep hbl
      clear hat0
      have hs := hid (hsucc.out k z hdep.out hlt)
      have hbk := hid (hbad.out (k + 1) (by omega))
      generalize l[k] = c at hat hs
      obtain ⟨op, S⟩ := c
      obtain ⟨sa, sb, sc, sd⟩ := S
      obtain ⟨d0, d1, d2, d3, d4⟩ := hat
      simp only at d0 d1 d2 d3 d4
      have GW0 := hid (fun u => GW.out op u)
      have GS0 := hid (fun u => GS.out op sa sb sc sd u)
      have hwl := wants_le op
      have hbb := hid (al' wr (.cells #[.int .i64 op, .int .u64 (sa : Int), .int .u64 (sb : Int), .int .u64 (sc : Int), .int .u64 (sd : Int)] 112))
      unfold badC at hs
      simp only at hs
      generalize wants op = q at GW0 hs hwl
      have hop : decide (op = 1) = (op == 1) := by rw [Bool.eq_iff_iff]; simp
      rw [hop] at hs
      clear hop
      generalize (decide ((⟨sa, sb, sc, sd⟩ : W4) = noneB) == (op == 1)) = E at GS0 hs
      by_cases hq : q < 0
      · have hR : R = false := hbk.out (by rw [hs.out, decide_eq_true hq]; rfl)
        subst hR
        go_wp2_with (go_at_call 99; refine (GW0.out _).mono ?_; rintro e u1 ⟨rfl, hu⟩; subst u1)
        go_ret
        exact ⟨rfl, bl_step hbl hbb.out⟩
      · by_cases hd : z < q
        · have hR : R = false := hbk.out (by rw [hs.out, decide_eq_true hd, Bool.or_true]; rfl)
          subst hR
          go_wp2_with (go_at_call 99; refine (GW0.out _).mono ?_; rintro e u1 ⟨rfl, hu⟩; subst u1)
          go_ret
          exact ⟨rfl, bl_step hbl hbb.out⟩
        · rw [decide_eq_false hq, decide_eq_false hd, Bool.false_or, Bool.false_or] at hs
          cases E with
          | true =>
            have hR : R = false := hbk.out (by rw [hs.out]; rfl)
            subst hR
            clear hs
            go_wp2_with (first
              | (go_at_call 99; refine (GW0.out _).mono ?_; rintro e u1 ⟨rfl, hu⟩; subst u1)
              | (go_at_call 100; refine (GS0.out _).mono ?_; rintro e w1 ⟨rfl, hb1⟩))
            go_ret
            exact ⟨rfl, bl_step (bl_step hbl hbb.out) hb1⟩
          | false =>
            rw [if_neg Bool.false_ne_true] at hs
            go_wp2_with (first
              | (go_at_call 99; refine (GW0.out _).mono ?_; rintro e u1 ⟨rfl, hu⟩; subst u1)
              | (go_at_call 100; refine (GS0.out _).mono ?_; rintro e w1 ⟨rfl, hb1⟩))
            go_roundw
            case rel => exact ⟨k + 1, z - q + 1, by omega, by go_num, by go_num, hs, by omega, by omega, bl_step (bl_step hbl hbb.out) hb1⟩
            case measure => simp [intOf]; omega
    · have hltz : ¬ (k : Int) < (l.length : Int) := by omega
      have e : k = l.length := by omega
      subst e
      by_cases hl0 : l.length = 0
      · have hR := hnil.out hl0
        have hz : z = 0 := by omega
        subst hz
        subst hR
        go_wp2
        go_ret
        exact ⟨rfl, hbl⟩
      · have hR := hend.out (by omega) z hdep.out
        clear hl0
        go_wp2
        go_ret
        exact ⟨by first | rfl | rw [hR], hbl⟩

end Go.Proofs.YtcledgljbmepaaaGreatDoor
namespace Go.Proofs.YtcledgljbmepaaaGreatDoor
open Go.RowKit

/-- parentheses about what holds together less -/
def wi (p q : Nat) (X : Txt) : Txt := if p < q then 40 :: (X ++ [41]) else X
theorem wi_len (p q : Nat) (X : Txt) : (wi p q X).length ≤ X.length + 2 := by unfold wi; split <;> simp
abbrev shV (X : ByteArray) (p : Int) : Value := .agg #[.string X, .int .i64 p]
set_option maxRecDepth 20000 in
theorem withinC (X : Txt) (p q : Nat) (w : World) (_hp : p ≤ 2) (_hq : q ≤ 2) (hX : X.length ≤ 200000) :
    Calls Tryz.prog 102 #[shV (strT X) (p : Int), .int .i64 (q : Int)] w fun e w' => e = .returned (.string (strT (wi p q X))) ∧ Below w.heap.size w w' := by
  have hs : (strT X).size ≤ 200000 := by rw [strT_size]; exact hX
  by_cases h : p < q
  · have hz : (p : Int) < (q : Int) := by omega
    have e : strT (wi p q X) = ⟨#[40]⟩ ++ strT X ++ ⟨#[41]⟩ := by
      unfold wi
      rw [if_pos h, show (⟨#[40]⟩ : ByteArray) = strT [40] from rfl, show (⟨#[41]⟩ : ByteArray) = strT [41] from rfl, strT_app, strT_app]
      rfl
    rw [e]
    generalize strT X = Y at hs ⊢
    have h1 : (⟨#[40]⟩ : ByteArray).size = 1 := rfl
    have h2 : (⟨#[41]⟩ : ByteArray).size = 1 := rfl
    have k1 := fun u => run_cat ⟨#[40]⟩ Y u (by omega)
    have k2 := fun u => run_cat (⟨#[40]⟩ ++ Y) ⟨#[41]⟩ u (by rw [ByteArray.size_append]; omega)
    clear e h1 h2
    go_enter Tryz.func102, Tryz.ntmps102
    go_wp2
    go_ret
    exact ⟨rfl, al' w _⟩
  · have hz : ¬ (p : Int) < (q : Int) := by omega
    have e : wi p q X = X := by unfold wi; rw [if_neg h]
    rw [e]
    generalize strT X = Y at hs ⊢
    clear e
    go_enter Tryz.func102, Tryz.ntmps102
    go_wp2
    go_ret
    exact ⟨rfl, al' w _⟩

abbrev shB0 (w : World) (op : Int) (a b c d : Nat) : World := (w.alloc (.cells #[.int .i64 op, .int .u64 (a : Int), .int .u64 (b : Int), .int .u64 (c : Int), .int .u64 (d : Int)] 112)).alloc (.cells #[.string ⟨#[]⟩, .int .i64 0] 143)
theorem shB0_below (w : World) (op : Int) (a b c d : Nat) : Below w.heap.size w (shB0 w op a b c d) := bl_step (al' w _) (al' _ _)
theorem shB0_res (w : World) (op : Int) (a b c d : Nat) : (shB0 w op a b c d).heap[w.heap.size + 1]? = some (.cells #[.string ⟨#[]⟩, .int .i64 0] 143 (0, 0)) := (two_blocks w _ _).2
theorem res2 {w : World} {b : Nat} {x0 x1 : Value} {T : TypeId} (h : w.heap[b]? = some (.cells #[x0, x1] T (0, 0))) :
    w.cell? ⟨b, 0, none⟩ = some x0 ∧ w.cell? ⟨b, 1, none⟩ = some x1 ∧ w.frozen? ⟨b, 0, none⟩ = false ∧ w.frozen? ⟨b, 1, none⟩ = false := ⟨blk_cell h rfl, blk_cell h rfl, blk_frozen h 0, blk_frozen h 1⟩
theorem bl_two {B : Nat} {u w : World} (h : Below B u w) {b : Nat} (v0 v1 : Value) (hb : B ≤ b) : Below B u ((w.setCell ⟨b, 0, none⟩ v0).setCell ⟨b, 1, none⟩ v1) := bl_set (bl_set h _ _ _ hb) _ _ _ hb

set_option maxRecDepth 20000 in
set_option maxHeartbeats 2000000 in
theorem shSet (a b c d : Nat) (v : Value) (w : World) (hS : Fit4 ⟨a, b, c, d⟩) (hT : Tab w) : Calls Tryz.prog 85 #[celV 1 a b c d, v] w fun e w' => e = .returned (shV (strT (toldL ⟨a, b, c, d⟩)) 2) ∧ Below w.heap.size w w' := by
  have G := hid (fun u (hu : Below w.heap.size w u) => setTextC a b c d u hS (hT.keep hu))
  have hB := hid (shB0_below w 1 a b c d)
  have hR := hid (shB0_res w 1 a b c d)
  generalize strT (toldL ⟨a, b, c, d⟩) = X at G ⊢
  clear hS hT
  go_enter Tryz.func85, Tryz.ntmps85
  go_wp2_with (go_at_call 101; refine (G.out _ hB.out).mono ?_; rintro e w1 ⟨rfl, hb1⟩; obtain ⟨r0, r1, r2, r3⟩ := res2 ((hb1.block _ (blk_lt hR.out)).trans hR.out))
  refine bodyPost_ret (v := .agg #[.string X, .int .i64 2]) (by simp [results, Tryz.results85, go_sem, r0, r1]) rfl ⟨rfl, bl_two (bl_step hB.out hb1) _ _ (by omega)⟩

set_option maxRecDepth 20000 in
theorem shEps (a b c d : Nat) (v : Value) (w : World) : Calls Tryz.prog 85 #[celV 2 a b c d, v] w fun e w' => e = .returned (shV (strT [40, 41]) 2) ∧ Below w.heap.size w w' := by
  rw [show strT [40, 41] = ⟨#[40, 41]⟩ from rfl]
  go_enter Tryz.func85, Tryz.ntmps85
  go_wp2
  refine bodyPost_ret (v := .agg #[.string ⟨#[40, 41]⟩, .int .i64 2]) (by simp [results, Tryz.results85, go_sem]) rfl ⟨rfl, bl_step (al' w _) (al' _ _)⟩

/-- the sign of an operator of one operand -/
def signO (op : Int) : UInt8 := if op = 5 then 42 else if op = 6 then 43 else 63
set_option maxRecDepth 20000 in
set_option maxHeartbeats 2000000 in
theorem shOne (op : Int) (a b c d : Nat) (X : Txt) (p : Nat) (g o cap : Nat) (w : World) (ho : op = 5 ∨ op = 6 ∨ op = 7) (hp : p ≤ 2) (hX : X.length ≤ 200000) (c0 : w.cell? ⟨g, o, none⟩ = some (.string (strT X))) (c1 : w.cell? ⟨g, o + 1, none⟩ = some (.int .i64 (p : Int))) :
    Calls Tryz.prog 85 #[celV op a b c d, .slice (some ⟨g, o, none⟩) 1 cap] w fun e w' => e = .returned (shV (strT (wi p 2 X ++ [signO op])) 2) ∧ Below w.heap.size w w' := by
  have G := hid (fun u => withinC X p 2 u hp (by omega) hX)
  rw [show ((2 : Nat) : Int) = 2 from rfl] at G
  have hB := hid (shB0_below w op a b c d)
  have hR := hid (shB0_res w op a b c d)
  have e0 := keep_cell hB.out c0
  have e1 := keep_cell hB.out c1
  have hl : (strT (wi p 2 X)).size ≤ 200002 := by rw [strT_size]; have := wi_len p 2 X; omega
  rw [← strT_app]
  generalize strT (wi p 2 X) = Y at G hl ⊢
  generalize strT X = Z at G c0 e0
  clear hX
  rcases ho with rfl | rfl | rfl
  · rw [show strT [signO 5] = ⟨#[42]⟩ from rfl]
    have h1 : (⟨#[42]⟩ : ByteArray).size = 1 := rfl
    have k1 := fun u => run_cat Y ⟨#[42]⟩ u (by omega)
    clear h1
    go_enter Tryz.func85, Tryz.ntmps85
    go_wp2_with (go_at_call 102; refine (G.out _).mono ?_; rintro e w1 ⟨rfl, hb1⟩; obtain ⟨r0, r1, r2, r3⟩ := res2 ((hb1.block _ (blk_lt hR.out)).trans hR.out))
    refine bodyPost_ret (v := .agg #[.string (Y ++ ⟨#[42]⟩), .int .i64 2]) (by simp [results, Tryz.results85, go_sem, r0, r1]) rfl ⟨rfl, bl_two (bl_step hB.out hb1) _ _ (by omega)⟩
  · rw [show strT [signO 6] = ⟨#[43]⟩ from rfl]
    have h1 : (⟨#[43]⟩ : ByteArray).size = 1 := rfl
    have k1 := fun u => run_cat Y ⟨#[43]⟩ u (by omega)
    clear h1
    go_enter Tryz.func85, Tryz.ntmps85
    go_wp2_with (go_at_call 102; refine (G.out _).mono ?_; rintro e w1 ⟨rfl, hb1⟩; obtain ⟨r0, r1, r2, r3⟩ := res2 ((hb1.block _ (blk_lt hR.out)).trans hR.out))
    refine bodyPost_ret (v := .agg #[.string (Y ++ ⟨#[43]⟩), .int .i64 2]) (by simp [results, Tryz.results85, go_sem, r0, r1]) rfl ⟨rfl, bl_two (bl_step hB.out hb1) _ _ (by omega)⟩
  · rw [show strT [signO 7] = ⟨#[63]⟩ from rfl]
    have h1 : (⟨#[63]⟩ : ByteArray).size = 1 := rfl
    have k1 := fun u => run_cat Y ⟨#[63]⟩ u (by omega)
    clear h1
    go_enter Tryz.func85, Tryz.ntmps85
    go_wp2_with (go_at_call 102; refine (G.out _).mono ?_; rintro e w1 ⟨rfl, hb1⟩; obtain ⟨r0, r1, r2, r3⟩ := res2 ((hb1.block _ (blk_lt hR.out)).trans hR.out))
    refine bodyPost_ret (v := .agg #[.string (Y ++ ⟨#[63]⟩), .int .i64 2]) (by simp [results, Tryz.results85, go_sem, r0, r1]) rfl ⟨rfl, bl_two (bl_step hB.out hb1) _ _ (by omega)⟩

set_option maxRecDepth 20000 in
set_option maxHeartbeats 4000000 in
theorem shCat (a b c d : Nat) (X Y : Txt) (p q : Nat) (g o cap : Nat) (w : World) (hp : p ≤ 2) (hq : q ≤ 2) (hX : X.length ≤ 200000) (hY : Y.length ≤ 200000) (c0 : w.cell? ⟨g, o, none⟩ = some (.string (strT X))) (c1 : w.cell? ⟨g, o + 1, none⟩ = some (.int .i64 (p : Int))) (c2 : w.cell? ⟨g, o + 2, none⟩ = some (.string (strT Y))) (c3 : w.cell? ⟨g, o + 3, none⟩ = some (.int .i64 (q : Int))) :
    Calls Tryz.prog 85 #[celV 3 a b c d, .slice (some ⟨g, o, none⟩) 2 cap] w fun e w' => e = .returned (shV (strT (wi p 1 X ++ wi q 2 Y)) 1) ∧ Below w.heap.size w w' := by
  have G1 := hid (fun u => withinC X p 1 u hp (by omega) hX)
  have G2 := hid (fun u => withinC Y q 2 u hq (by omega) hY)
  rw [show ((2 : Nat) : Int) = 2 from rfl] at G2
  rw [show ((1 : Nat) : Int) = 1 from rfl] at G1
  have hB := hid (shB0_below w 3 a b c d).drew
  have hR := hid (show (shB0 w 3 a b c d).drew.heap[w.heap.size + 1]? = some (.cells #[.string ⟨#[]⟩, .int .i64 0] 143 (0, 0)) from shB0_res w 3 a b c d)
  have e0 := keep_cell hB.out c0
  have e1 := keep_cell hB.out c1
  have e2 := keep_cell hB.out c2
  have e3 := keep_cell hB.out c3
  have hK := hid (fun u v (h : Below (shB0 w 3 a b c d).drew.heap.size (shB0 w 3 a b c d).drew u) (o : Nat) (hc : (shB0 w 3 a b c d).drew.cell? ⟨g, o, none⟩ = some v) => keep_cell h hc)
  have hl : (strT (wi p 1 X)).size ≤ 200002 := by rw [strT_size]; have := wi_len p 1 X; omega
  have hl2 : (strT (wi q 2 Y)).size ≤ 200002 := by rw [strT_size]; have := wi_len q 2 Y; omega
  rw [← strT_app]
  generalize strT (wi p 1 X) = U at G1 hl ⊢
  generalize strT (wi q 2 Y) = V at G2 hl2 ⊢
  generalize strT X = X' at G1 c0 e0
  generalize strT Y = Y' at G2 c2 e2
  have k1 := fun u => run_cat U V u (by omega)
  clear hX hY
  go_enter Tryz.func85, Tryz.ntmps85
  go_wp2_with fail
  go_region_with (first
    | (go_at_call_of 102 (Value.int .i64 1); refine (G1.out _).mono ?_; rintro e w1 ⟨rfl, hb1⟩; have x0 := hK.out w1 _ hb1 _ e0; have x1 := hK.out w1 _ hb1 _ e1; have x2 := hK.out w1 _ hb1 _ e2; have x3 := hK.out w1 _ hb1 _ e3)
    | (go_at_call_of 102 (Value.int .i64 2); refine (G2.out _).mono ?_; rintro e w2 ⟨rfl, hb2⟩; have hb12 := bl_step hb1 hb2; obtain ⟨r0, r1, r2, r3⟩ := res2 ((hb12.block _ (blk_lt hR.out)).trans hR.out))
    | fail)
  all_goals
    go_wp2
    refine bodyPost_ret (v := .agg #[.string (U ++ V), .int .i64 1]) (by simp [results, Tryz.results85, go_sem, r0, r1]) rfl ⟨rfl, bl_two (bl_step hB.out hb12) _ _ (by omega)⟩

set_option maxRecDepth 20000 in
set_option maxHeartbeats 4000000 in
theorem shOr (a b c d : Nat) (X Y : Txt) (p q : Nat) (g o cap : Nat) (w : World) (hp : p ≤ 2) (hq : q ≤ 2) (hX : X.length ≤ 200000) (hY : Y.length ≤ 200000) (c0 : w.cell? ⟨g, o, none⟩ = some (.string (strT X))) (c1 : w.cell? ⟨g, o + 1, none⟩ = some (.int .i64 (p : Int))) (c2 : w.cell? ⟨g, o + 2, none⟩ = some (.string (strT Y))) (c3 : w.cell? ⟨g, o + 3, none⟩ = some (.int .i64 (q : Int))) :
    Calls Tryz.prog 85 #[celV 4 a b c d, .slice (some ⟨g, o, none⟩) 2 cap] w fun e w' => e = .returned (shV (strT (wi p 0 X ++ (124 :: wi q 1 Y))) 0) ∧ Below w.heap.size w w' := by
  have G1 := hid (fun u => withinC X p 0 u hp (by omega) hX)
  have G2 := hid (fun u => withinC Y q 1 u hq (by omega) hY)
  rw [show ((1 : Nat) : Int) = 1 from rfl] at G2
  rw [show ((0 : Nat) : Int) = 0 from rfl] at G1
  have hB := hid (shB0_below w 4 a b c d).drew
  have hR := hid (show (shB0 w 4 a b c d).drew.heap[w.heap.size + 1]? = some (.cells #[.string ⟨#[]⟩, .int .i64 0] 143 (0, 0)) from shB0_res w 4 a b c d)
  have e0 := keep_cell hB.out c0
  have e1 := keep_cell hB.out c1
  have e2 := keep_cell hB.out c2
  have e3 := keep_cell hB.out c3
  have hK := hid (fun u v (h : Below (shB0 w 4 a b c d).drew.heap.size (shB0 w 4 a b c d).drew u) (o : Nat) (hc : (shB0 w 4 a b c d).drew.cell? ⟨g, o, none⟩ = some v) => keep_cell h hc)
  have hl : (strT (wi p 0 X)).size ≤ 200002 := by rw [strT_size]; have := wi_len p 0 X; omega
  have hl2 : (strT (wi q 1 Y)).size ≤ 200002 := by rw [strT_size]; have := wi_len q 1 Y; omega
  have hsp : strT (wi p 0 X ++ (124 :: wi q 1 Y)) = strT (wi p 0 X) ++ ⟨#[124]⟩ ++ strT (wi q 1 Y) := by
    rw [show (⟨#[124]⟩ : ByteArray) = strT [124] from rfl, strT_app, strT_app]; simp
  rw [hsp]
  clear hsp
  generalize strT (wi p 0 X) = U at G1 hl ⊢
  generalize strT (wi q 1 Y) = V at G2 hl2 ⊢
  generalize strT X = X' at G1 c0 e0
  generalize strT Y = Y' at G2 c2 e2
  have h1 : (⟨#[124]⟩ : ByteArray).size = 1 := rfl
  have k1 := fun u => run_cat U ⟨#[124]⟩ u (by omega)
  have k2 := fun u => run_cat (U ++ ⟨#[124]⟩) V u (by rw [ByteArray.size_append]; omega)
  clear h1
  clear hX hY
  go_enter Tryz.func85, Tryz.ntmps85
  go_wp2_with fail
  go_region_with (first
    | (go_at_call_of 102 (Value.int .i64 0); refine (G1.out _).mono ?_; rintro e w1 ⟨rfl, hb1⟩; have x0 := hK.out w1 _ hb1 _ e0; have x1 := hK.out w1 _ hb1 _ e1; have x2 := hK.out w1 _ hb1 _ e2; have x3 := hK.out w1 _ hb1 _ e3)
    | (go_at_call_of 102 (Value.int .i64 1); refine (G2.out _).mono ?_; rintro e w2 ⟨rfl, hb2⟩; have hb12 := bl_step hb1 hb2; obtain ⟨r0, r1, r2, r3⟩ := res2 ((hb12.block _ (blk_lt hR.out)).trans hR.out))
    | fail)
  all_goals
    go_wp2
    refine bodyPost_ret (v := .agg #[.string (U ++ ⟨#[124]⟩ ++ V), .int .i64 0]) (by simp [results, Tryz.results85, go_sem, r0, r1]) rfl ⟨rfl, bl_two (bl_step hB.out hb12) _ _ (by omega)⟩

end Go.Proofs.YtcledgljbmepaaaGreatDoor
