/- topiaryref10.One: the longest match, all lengths tried. -/
import Derived.Test.YtonlcnmlklaicaaGreatDoorJ33
import Derived.Lib.QuietBelow
import Derived.BigQuiet
namespace Go.Proofs.YtonlcnmlklaicaaGreatDoor
open Go.RowKit Go.Maps Go.Sort

theorem goK_goA {N : List (List Int)} (hr : RgtN N) (h0 : 0 < N.length) (s : Txt) : ∀ i, i ≤ s.length → goK N s i = inI N.length (goA N 0 (s.take i))
  | 0, _ => by rw [goK]; simp [goA, inI_some h0]
  | i + 1, hi => by
    have ih := goK_goA hr h0 s i (by omega)
    have hl : goA N 0 (s.take i) ≤ N.length := goA_le hr _ 0 (by omega)
    have e1 : s.take (i + 1) = s.take i ++ [s[i]] := List.take_succ_eq_append_getElem (by omega)
    have e2 : s.getD i 0 = s[i] := by rw [List.getD_eq_getElem?_getD, List.getElem?_eq_getElem (by omega)]; rfl
    rw [goK_succ, ih, e1, goA_app, e2]
    show _ = inI N.length (nxA N (goA N 0 (s.take i)) (s[i]).toNat)
    rcases Nat.lt_or_ge (goA N 0 (s.take i)) N.length with h | h
    · rw [inI_some h, if_neg (by omega), Int.toNat_natCast, nxA_some hr h (s[i]).toNat_lt]
    · have e3 : goA N 0 (s.take i) = N.length := by omega
      rw [e3, inI_none, if_pos (by omega), nxA_none, inI_none]
theorem go_take (N : List (List Int)) {u : Txt} {j : Nat} (h : j < u.length) : goA N 0 (u.take (j + 1)) = nxA N (goA N 0 (u.take j)) (u.getD j 0).toNat := by
  rw [List.take_add, goA_app, List.drop_eq_getElem_cons h, List.getD_eq_getElem?_getD, List.getElem?_eq_getElem h]
  rfl
/-- what the loop over lengths holds -/
def RoI (N : List (List Int)) (A : List Int) (u : Txt) (n : Nat) (m : Int × Nat) : Prop := (n = 0 ∧ m = (0, 0)) ∨ ∃ j, n = j + 1 ∧ lngG N A (goA N 0 (u.take j)) j m (u.drop j) = lngR N A u
theorem RoI.dead {N : List (List Int)} {A : List Int} {u : Txt} {n : Nat} {m : Int × Nat} (h : RoI N A u n m) (h0 : 0 < N.length) (hn : n ≤ u.length) (hd : N.length ≤ goA N 0 (u.take n)) : lngR N A u = (m, n) := by
  rcases h with ⟨rfl, rfl⟩ | ⟨j, rfl, h⟩
  · exfalso
    have : goA N 0 (u.take 0) = 0 := rfl
    omega
  · rw [← h, lngG_step (by omega), ← go_take N (by omega), if_pos hd]
theorem RoI.next {N : List (List Int)} {A : List Int} {u : Txt} {n : Nat} {m : Int × Nat} (h : RoI N A u n m) (hn : n ≤ u.length) (hd : goA N 0 (u.take n) < N.length) : RoI N A u (n + 1) (if n = 0 ∨ acA N A (goA N 0 (u.take n)) = -1 then m else (acA N A (goA N 0 (u.take n)), n)) := by
  rcases h with ⟨rfl, rfl⟩ | ⟨j, rfl, h⟩
  · rw [if_pos (Or.inl rfl)]
    exact Or.inr ⟨0, rfl, rfl⟩
  · refine Or.inr ⟨j + 1, rfl, ?_⟩
    rw [lngG_step (k := j) (by omega), ← go_take N (by omega), if_neg (by omega)] at h
    rw [← h]
    by_cases e : acA N A (goA N 0 (u.take (j + 1))) = -1
    · rw [if_pos e, if_pos (Or.inr e)]
    · rw [if_neg e, if_neg (fun h1 => h1.elim (fun h1 => by omega) e)]
theorem RoI.fin {N : List (List Int)} {A : List Int} {u : Txt} {n : Nat} {m : Int × Nat} (h : RoI N A u n m) (hn : u.length < n) (hn2 : n ≤ u.length + 1) : lngR N A u = (m, u.length + 1) := by
  rcases h with ⟨rfl, rfl⟩ | ⟨j, rfl, h⟩
  · omega
  · have hj : j = u.length := by omega
    subst hj
    rw [← h, List.drop_length]
    rfl
theorem extract_list (s : ByteArray) (a b : Nat) : (s.extract a b).data.toList = (s.data.toList.drop a).take (b - a) := by
  rw [ByteArray.data_extract, Array.toList_extract, List.extract_eq_take_drop]
theorem strT_list' (s : ByteArray) : strT s.data.toList = s := by
  cases s
  simp [strT]
theorem strT_ext (s : Txt) (a n : Nat) : (strT s).extract a (a + n) = strT ((s.drop a).take n) := by
  have h := extract_list (strT s) a (a + n)
  rw [Nat.add_sub_cancel_left] at h
  rw [← strT_list' ((strT s).extract a (a + n)), h]
  rfl
/-- One's memory -/
structure RoM (W0 : World) (bm : Nat) (w : World) (m : Int × Nat) (q : Int) : Prop where
  ans : w.heap[W0.heap.size]? = some (.cells #[.int .i64 0, .int .i64 0, .int .i64 0] 34 (0, 0))
  cur : w.heap[bm]? = some (.cells #[.int .i64 m.1, .int .i64 (m.2 : Int), .int .i64 q] 34 (0, 0))
  low : Below W0.heap.size W0 w
theorem RoM.keep {W0 : World} {bm : Nat} {w u : World} {m : Int × Nat} {q : Int} (h : RoM W0 bm w m q) (hu : Below w.heap.size w u) : RoM W0 bm u m q := ⟨hs_keep h.ans hu, hs_keep h.cur hu, bl_step h.low hu⟩
theorem RoM.seen {W0 : World} {bm : Nat} {w : World} {m : Int × Nat} {q : Int} (h : RoM W0 bm w m q) (hbm : W0.heap.size < bm) (x : Int) : RoM W0 bm (w.setCell ⟨bm, 2, none⟩ (.int .i64 x)) m x := ⟨by rw [Below.heap_setCell w ⟨bm, 2, none⟩ _ _ (by show W0.heap.size ≠ bm; omega)]; exact h.ans, set3_2 h.cur, bl_set h.low _ _ _ (by omega)⟩
theorem RoM.rule {W0 : World} {bm : Nat} {w : World} {m : Int × Nat} {q : Int} (h : RoM W0 bm w m q) (hbm : W0.heap.size < bm) (x : Int) (n : Nat) : RoM W0 bm ((w.setCell ⟨bm, 0, none⟩ (.int .i64 x)).setCell ⟨bm, 1, none⟩ (.int .i64 (n : Int))) (x, n) q := ⟨by rw [Below.heap_setCell _ ⟨bm, 1, none⟩ _ _ (by show W0.heap.size ≠ bm; omega), Below.heap_setCell w ⟨bm, 0, none⟩ _ _ (by show W0.heap.size ≠ bm; omega)]; exact h.ans, set3_1 (set3_0 h.cur), bl_set (bl_set h.low _ _ _ (by omega)) _ _ _ (by omega)⟩

set_option maxRecDepth 20000 in
set_option maxHeartbeats 8000000 in
theorem refOneC (nv av : Value) (N : List (List Int)) (A : List Int) (s : Txt) (a : Nat) (w : World) (hD : Dfa w nv av N A) (hr : RgtA N A) (ha : a ≤ s.length) (hs : s.length ≤ 100000) :
    Calls Tryz.prog 10 #[.agg #[nv, av], .string (strT s), .int .i64 (a : Int)] w fun e w' => e = .returned (.agg #[.int .i64 (lngR N A (s.drop a)).1.1, .int .i64 ((lngR N A (s.drop a)).1.2 : Int), .int .i64 ((a + (lngR N A (s.drop a)).2 : Nat) : Int)]) ∧ Below w.heap.size w w' := by
  obtain ⟨⟨na, nc, rfl⟩, ⟨aa, ac, rfl⟩⟩ := hD.shape
  obtain ⟨R, hR⟩ : ∃ R, Hid (lngR N A (s.drop a) = R) := ⟨_, hid rfl⟩
  rw [hR.out]
  obtain ⟨u, hu⟩ : ∃ u, Hid (s.drop a = u) := ⟨_, hid rfl⟩
  have hul : Hid (u.length = s.length - a) := hid (by rw [← hu.out, List.length_drop])
  rw [hu.out] at hR
  obtain ⟨W0, hW0⟩ : ∃ W0, w.alloc (.cells #[.slice na N.length nc, .slice aa A.length ac] 25) = W0 := ⟨_, rfl⟩
  have hb0 : Hid (Below w.heap.size w W0) := by rw [← hW0]; exact hid (al' w _)
  have hz0 : Hid (W0.heap[w.heap.size]? = some (.cells #[.slice na N.length nc, .slice aa A.length ac] 25)) := by rw [← hW0]; exact hid (heap_new w _)
  have hD0 := hid (hD.keep hb0.out)
  have hbx : Hid (∀ u, Below W0.heap.size W0 u → u.cell? ⟨w.heap.size, 0, none⟩ = some (.slice na N.length nc) ∧ u.cell? ⟨w.heap.size, 1, none⟩ = some (.slice aa A.length ac)) := hid (fun u hu => by
    obtain ⟨d0, d1, -⟩ := cells2m (hs_keep hz0.out hu)
    exact ⟨d0, d1⟩)
  have hrH := hid hr
  have hpos := hr.pos
  have hf := hr.few
  have hsz := strT_size s
  obtain ⟨WA, hWA⟩ : ∃ x, W0.alloc (.cells #[.int .i64 0, .int .i64 0, .int .i64 0] 34) = x := ⟨_, rfl⟩
  have kA : Hid (WA.heap[W0.heap.size]? = some (.cells #[.int .i64 0, .int .i64 0, .int .i64 0] 34)) := by rw [← hWA]; exact hid (heap_new W0 _)
  have bA : Hid (Below W0.heap.size W0 WA) := by rw [← hWA]; exact hid (al' W0 _)
  have kB := hid (heap_new WA (.cells #[.int .i64 0, .int .i64 0, .int .i64 0] 34))
  have bB := hid (al' WA (.cells #[.int .i64 0, .int .i64 0, .int .i64 0] 34))
  have hne : Hid (W0.heap.size < WA.heap.size) := hid (by rw [← hWA]; simp)
  have hM0 : Hid (RoM W0 WA.heap.size (WA.alloc (.cells #[.int .i64 0, .int .i64 0, .int .i64 0] 34)) (0, 0) 0) := hid ⟨hs_keep kA.out bB.out, kB.out, bl_step bA.out bB.out⟩
  clear hD hr kA bA kB bB
  go_enter Tryz.func10, Tryz.ntmps10
  go_wp2_with fail
  clear hWA hW0
  generalize WA.alloc (.cells #[.int .i64 0, .int .i64 0, .int .i64 0] 34) = WB at hM0 ⊢
  generalize WA.heap.size = bm at hM0 hne ⊢
  go_loopw [8] (fun x wr => ∃ (n : Nat) (m : Int × Nat) (q : Int), a + n ≤ s.length + 1 ∧ x = .int .i64 (n : Int) ∧ Hid (RoM W0 bm wr m q) ∧ Hid (RoI N A u n m)) (fun x _ => s.length + 1 - (intOf x).toNat)
  case atStart => exact ⟨0, (0, 0), 0, by omega, rfl, hM0, hid (Or.inl ⟨rfl, rfl⟩)⟩
  case round =>
    obtain ⟨n, m, q, hn, rfl, hM, hI⟩ := hrel
    obtain ⟨d0, d1⟩ := hbx.out wr hM.out.low
    by_cases hlt : a + n ≤ s.length
    · have hltz : (a : Int) + (n : Int) ≤ (s.length : Int) := by omega
      have hnu : Hid (n ≤ u.length) := hid (by rw [hul.out]; omega)
      have hex := strT_ext s a n
      rw [hu.out] at hex
      have hg := hid (goK_goA hrH.out.rgt hrH.out.pos (u.take n) (u.take n).length (Nat.le_refl _))
      rw [List.take_length] at hg
      have hdead := hid (hI.out.dead hrH.out.pos hnu.out)
      have hnext := hid (hI.out.next hnu.out)
      have GG : Hid (∀ v, Below W0.heap.size W0 v → Calls Tryz.prog 22 #[.agg #[.slice na N.length nc, .slice aa A.length ac], .int .i64 0, .string (strT (u.take n))] v fun e w' => e = .returned (.int .i64 (inI N.length (goA N 0 (u.take n)))) ∧ Below v.heap.size v w') := hid (fun v hv => by
        have h9 := refGo (.slice na N.length nc) (.slice aa A.length ac) N (u.take n) v (hD0.out.keep hv).nxt hrH.out.rgt hrH.out.pos (by have := hrH.out.few; omega) (by rw [List.length_take]; have := hul.out; omega)
        rw [hg.out] at h9
        exact h9)
      have hgl := goA_le hrH.out.rgt (u.take n) 0 (by omega)
      generalize goA N 0 (u.take n) = y at *
      generalize strT (u.take n) = U at *
      obtain ⟨p, hp⟩ : ∃ p : Nat, a + n = p := ⟨_, rfl⟩
      rw [hp] at hex hlt
      have hpz : (a : Int) + (n : Int) = (p : Int) := by omega
      have hap : a ≤ p := by omega
      have hps : p ≤ (strT s).size := by omega
      have cG : Hid (∀ d os, Calls Tryz.prog 22 #[.agg #[.slice na N.length nc, .slice aa A.length ac], .int .i64 0, .string U] (grow (redrawn wr d) os) fun e w'' => e = .returned (.int .i64 (inI N.length y)) ∧ ∃ q : Regrown, w'' = grow (redrawn wr q.d) q.os) := hid (fun d os => Calls.regrown_of (GG.out _ (bl_step hM.out.low (below_regrown wr d os))))
      have k0 := cell_regrown d0
      have k1 := cell_regrown d1
      clear hg GG
      go_wp2_with fail
      refine wp_region_quiet_below (by kernel_rfl) (by kernel_rfl) ?_
      repeat (first | go_big_quiet_step (exact cG.out _ _) | quiet_step (exact cG.out _ _))
      refine wpQuiet_nil ?_
      intro _ hw'
      obtain ⟨⟨dq, osq⟩, hw''⟩ := hw'
      subst hw''
      have hU := hid (below_regrown wr dq osq)
      have hMU := hid (hM.out.keep hU.out)
      clear k0 k1 d0 d1 cG hM hU hex hps
      generalize grow (redrawn wr dq) osq = V at hMU ⊢
      have hMS := hid (hMU.out.seen hne.out (p : Int))
      obtain ⟨-, -, ⟨f4, f5⟩⟩ := cells3m hMU.out.cur
      obtain ⟨VS, hVS⟩ : ∃ x, V.setCell ⟨bm, 2, none⟩ (.int .i64 (p : Int)) = x := ⟨_, rfl⟩
      rw [hVS] at hMS
      obtain ⟨e0, e1⟩ := hbx.out VS hMS.out.low
      rcases Nat.lt_or_ge y N.length with hy | hy
      · rw [inI_some hy]
        have hyn : ¬ (y : Int) < 0 := by omega
        have hyz : (y : Int) < (N.length : Int) := by omega
        obtain ⟨b3, o3, e3, hb3, hc3⟩ := nums_cell (hD0.out.keep hMS.out.low).acc y (by have := hrH.out.len; omega)
        subst e3
        have hacA : acA N A y = A.getD y 0 := acA_some hy
        have hyA : (y : Int) < (A.length : Int) := by have := hrH.out.len; omega
        have hac0 := hrH.out.acc y (by have := hrH.out.len; omega)
        have hnx := hid (hnext.out hy)
        rw [hacA] at hnx
        clear hnext hdead hacA
        generalize A.getD y 0 = acv at *
        by_cases hn0 : n = 0
        · subst hn0
          have hpa : a = p := by omega
          subst hpa
          have hI1 : Hid (RoI N A u (0 + 1) m) := hid (by have := hnx.out; rw [if_pos (Or.inl rfl)] at this; exact this)
          clear hnx hc3 hpz hp hltz
          have hltz : (a : Int) ≤ (s.length : Int) := by omega
          go_wp2
          go_roundw
          case rel => exact ⟨0 + 1, m, (a : Int), by omega, by go_num, hMS, hI1⟩
          case measure => simp [intOf]
        · have hnz : (0 : Int) < (n : Int) := by omega
          by_cases hav : acv = -1
          · subst hav
            have hI1 : Hid (RoI N A u (n + 1) m) := hid (by have := hnx.out; rw [if_pos (Or.inr rfl)] at this; exact this)
            clear hnx
            go_wp2
            go_roundw
            case rel => exact ⟨n + 1, m, (p : Int), by omega, by go_num, hMS, hI1⟩
            case measure => simp [intOf]; omega
          · have hav0 : 0 ≤ acv := by omega
            have hI1 : Hid (RoI N A u (n + 1) (acv, n)) := hid (by have := hnx.out; rw [if_neg (fun h1 => h1.elim hn0 hav)] at this; exact this)
            have hMR := hid (hMS.out.rule hne.out acv n)
            have q1 := set3_0 (v := .int .i64 acv) hMS.out.cur
            obtain ⟨⟨t0, t1⟩, -, -⟩ := cells3m hMS.out.cur
            obtain ⟨-, ⟨t2, t3⟩, -⟩ := cells3m q1
            clear hnx q1
            go_wp2
            go_roundw
            case rel => exact ⟨n + 1, (acv, n), (p : Int), by omega, by go_num, hMR, hI1⟩
            case measure => simp [intOf]; omega
      · obtain rfl : y = N.length := by omega
        rw [inI_none]
        have hfin : Hid (R = (m, n)) := hid (by rw [← hR.out]; exact hdead.out (Nat.le_refl _))
        obtain ⟨⟨g0, -⟩, ⟨g1, -⟩, ⟨g2, -⟩⟩ := cells3m (hMS).out.cur
        obtain ⟨⟨r0, r1⟩, ⟨r2, r3⟩, ⟨r4, r5⟩, v0, v1, v2⟩ := putT3 (hMS).out.ans (.int .i64 m.1) (.int .i64 (m.2 : Int)) (.int .i64 (p : Int))
        have hlw := hid (belowT3 (Below.refl W0.heap.size W0) (hMS).out.low (.int .i64 m.1) (.int .i64 (m.2 : Int)) (.int .i64 (p : Int)))
        clear hnext hdead
        go_wp2
        refine bodyPost_ret (v := .agg #[.int .i64 m.1, .int .i64 (m.2 : Int), .int .i64 (p : Int)]) (by simp [results, Tryz.results10, go_sem, v0, v1, v2]) rfl ⟨?_, bl_step hb0.out hlw.out⟩
        rw [hfin.out]
        show _ = Ending.returned (.agg #[.int .i64 m.1, .int .i64 (m.2 : Int), .int .i64 ((a + n : Nat) : Int)])
        rw [hp]
    · have hltz : ¬ (a : Int) + (n : Int) ≤ (s.length : Int) := by omega
      have hfin : Hid (R = (m, u.length + 1)) := hid (by rw [← hR.out]; exact hI.out.fin (by rw [hul.out]; omega) (by rw [hul.out]; omega))
      have hMS := hid (hM.out.seen hne.out ((s.length : Int) + 1))
      obtain ⟨-, -, ⟨f4, f5⟩⟩ := cells3m hM.out.cur
      obtain ⟨VS, hVS⟩ : ∃ x, wr.setCell ⟨bm, 2, none⟩ (.int .i64 ((s.length : Int) + 1)) = x := ⟨_, rfl⟩
      rw [hVS] at hMS
      obtain ⟨⟨g0, -⟩, ⟨g1, -⟩, ⟨g2, -⟩⟩ := cells3m (hMS).out.cur
      obtain ⟨⟨r0, r1⟩, ⟨r2, r3⟩, ⟨r4, r5⟩, v0, v1, v2⟩ := putT3 (hMS).out.ans (.int .i64 m.1) (.int .i64 (m.2 : Int)) (.int .i64 ((s.length : Int) + 1))
      have hlw := hid (belowT3 (Below.refl W0.heap.size W0) (hMS).out.low (.int .i64 m.1) (.int .i64 (m.2 : Int)) (.int .i64 ((s.length : Int) + 1)))
      go_wp2
      refine bodyPost_ret (v := .agg #[.int .i64 m.1, .int .i64 (m.2 : Int), .int .i64 ((s.length : Int) + 1)]) (by simp [results, Tryz.results10, go_sem, v0, v1, v2]) rfl ⟨?_, bl_step hb0.out hlw.out⟩
      rw [hfin.out]
      show _ = Ending.returned (.agg #[.int .i64 m.1, .int .i64 (m.2 : Int), .int .i64 ((a + (u.length + 1) : Nat) : Int)])
      rw [show a + (u.length + 1) = s.length + 1 by have := hul.out; omega]
      rfl

end Go.Proofs.YtonlcnmlklaicaaGreatDoor
