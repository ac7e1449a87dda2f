/- topiaryref10.All: the tokens, what was seen for each, where there is none. -/
import Derived.Test.YtonlcnmlklaicaaGreatDoorJA5
namespace Go.Proofs.YtonlcnmlklaicaaGreatDoor
open Go.RowKit Go.Maps

/-- All's memory -/
structure RaM (W0 : World) (bx : Nat) (w : World) (tv sv : Value) (l : List Tk) (sn : List Nat) : Prop where
  ct : CtM W0 w tv sv l sn
  cur : w.heap[bx]? = some (.cells #[tv, sv, .int .i64 (-1)] 41 (0, 0))
  ans : w.heap[W0.heap.size]? = some (.cells #[.slice none 0 0, .slice none 0 0, .int .i64 0] 41 (0, 0))
  np : ∀ k, tv.ownBlock = some k ∨ sv.ownBlock = some k → k ≠ bx ∧ k ≠ W0.heap.size
theorem RaM.keep {W0 : World} {bx : Nat} {w u : World} {tv sv : Value} {l : List Tk} {sn : List Nat} (h : RaM W0 bx w tv sv l sn) (hu : Below w.heap.size w u) : RaM W0 bx u tv sv l sn := ⟨h.ct.keep hu, hs_keep h.cur hu, hs_keep h.ans hu, h.np⟩
theorem CtM.set {W0 w : World} {tv sv : Value} {l : List Tk} {sn : List Nat} (h : CtM W0 w tv sv l sn) {b : Nat} (hb : W0.heap.size ≤ b) (hn : ∀ k, tv.ownBlock = some k ∨ sv.ownBlock = some k → k ≠ b) (o : Nat) (v : Value) : CtM W0 (w.setCell ⟨b, o, none⟩ v) tv sv l sn :=
  ⟨own_set h.tk (fun e => hn b (Or.inl e) rfl), own_set h.se (fun e => hn b (Or.inr e) rfl), h.off, bl_set h.low _ _ _ hb⟩
theorem RaM.pushT {W0 : World} {bx : Nat} {w w' : World} {tv sv : Value} {l : List Tk} {sn : List Nat} (h : RaM W0 bx w tv sv l sn) (hbx : W0.heap.size < bx) {t : Tk} {g cap : Nat}
    (ho : w'.ownsRow W0.heap.size 28 3 (.slice (some ⟨g, 0, none⟩) (l.length + 1) cap) (l.length + 1) (l.flatMap tkV ++ tkV t)) (hg : w.grownBy w' tv.ownBlock) (hat : tv.ownBlock = some g ∨ g = w.heap.size) :
    RaM W0 bx (w'.setCell ⟨bx, 0, none⟩ (.slice (some ⟨g, 0, none⟩) (l.length + 1) cap)) (.slice (some ⟨g, 0, none⟩) (l.length + 1) cap) sv (l ++ [t]) sn ∧ (w'.cell? ⟨bx, 0, none⟩ = some tv ∧ w'.frozen? ⟨bx, 0, none⟩ = false) := by
  have h1 := h.ct.pushT ho hg hat
  have hk := Kept.of_grown hg
  have c1 := hk.blk h.cur (fun e => (h.np bx (Or.inl e)).1 rfl)
  have a1 := hk.blk h.ans (fun e => (h.np _ (Or.inl e)).2 rfl)
  have hnp : ∀ k, (Value.slice (some ⟨g, 0, none⟩) (l.length + 1) cap).ownBlock = some k ∨ sv.ownBlock = some k → k ≠ bx ∧ k ≠ W0.heap.size := fun k e => by
    rcases e with e | e
    · have e1 : g = k := by injection e
      subst e1
      rcases hat with h2 | h2
      · exact h.np g (Or.inl h2)
      · have h3 := blk_lt h.cur
        have h4 := blk_lt h.ans
        omega
    · exact h.np k (Or.inr e)
  exact ⟨⟨h1.set (by omega) (fun k e => (hnp k e).1) _ _, set3_0 c1, by rw [Below.heap_setCell w' ⟨bx, 0, none⟩ _ _ (by show W0.heap.size ≠ bx; omega)]; exact a1, hnp⟩, (cells3m c1).1⟩
theorem RaM.pushS {W0 : World} {bx : Nat} {w w' : World} {tv sv : Value} {l : List Tk} {sn : List Nat} (h : RaM W0 bx w tv sv l sn) (hbx : W0.heap.size < bx) {x : Nat} {g cap : Nat}
    (ho : w'.ownsRow W0.heap.size 3 1 (.slice (some ⟨g, 0, none⟩) (sn.length + 1) cap) (sn.length + 1) (numCells (snI sn) ++ [.int .i64 (x : Int)])) (hg : w.grownBy w' sv.ownBlock) (hat : sv.ownBlock = some g ∨ g = w.heap.size) :
    RaM W0 bx (w'.setCell ⟨bx, 1, none⟩ (.slice (some ⟨g, 0, none⟩) (sn.length + 1) cap)) tv (.slice (some ⟨g, 0, none⟩) (sn.length + 1) cap) l (sn ++ [x]) ∧ (w'.cell? ⟨bx, 1, none⟩ = some sv ∧ w'.frozen? ⟨bx, 1, none⟩ = false) := by
  have h1 := h.ct.pushS ho hg hat
  have hk := Kept.of_grown hg
  have c1 := hk.blk h.cur (fun e => (h.np bx (Or.inr e)).1 rfl)
  have a1 := hk.blk h.ans (fun e => (h.np _ (Or.inr e)).2 rfl)
  have hnp : ∀ k, tv.ownBlock = some k ∨ (Value.slice (some ⟨g, 0, none⟩) (sn.length + 1) cap).ownBlock = some k → k ≠ bx ∧ k ≠ W0.heap.size := fun k e => by
    rcases e with e | e
    · exact h.np k (Or.inl e)
    · have e1 : g = k := by injection e
      subst e1
      rcases hat with h2 | h2
      · exact h.np g (Or.inr h2)
      · have h3 := blk_lt h.cur
        have h4 := blk_lt h.ans
        omega
  exact ⟨⟨h1.set (by omega) (fun k e => (hnp k e).1) _ _, set3_1 c1, by rw [Below.heap_setCell w' ⟨bx, 1, none⟩ _ _ (by show W0.heap.size ≠ bx; omega)]; exact a1, hnp⟩, (cells3m c1).2.1⟩
/-- the answer laid -/
theorem RaM.done {W0 : World} {bx : Nat} {w : World} {tv sv : Value} {l : List Tk} {sn : List Nat} (h : RaM W0 bx w tv sv l sn) (hbx : W0.heap.size < bx) (x : Int) : ((w.setCell ⟨bx, 2, none⟩ (.int .i64 x)).heap[bx]? = some (.cells #[tv, sv, .int .i64 x] 41 (0, 0)) ∧ (w.setCell ⟨bx, 2, none⟩ (.int .i64 x)).heap[W0.heap.size]? = some (.cells #[.slice none 0 0, .slice none 0 0, .int .i64 0] 41 (0, 0))) ∧ CtM W0 (w.setCell ⟨bx, 2, none⟩ (.int .i64 x)) tv sv l sn :=
  ⟨⟨set3_2 h.cur, by rw [Below.heap_setCell w ⟨bx, 2, none⟩ _ _ (by show W0.heap.size ≠ bx; omega)]; exact h.ans⟩, h.ct.set (by omega) (fun k e => (h.np k e).1) _ _⟩
theorem CtM.set3 {W0 w : World} {tv sv : Value} {l : List Tk} {sn : List Nat} (h : CtM W0 w tv sv l sn) {b : Nat} (hb : W0.heap.size ≤ b) (hn : ∀ k, tv.ownBlock = some k ∨ sv.ownBlock = some k → k ≠ b) (v0 v1 v2 : Value) : CtM W0 (((w.setCell ⟨b, 0, none⟩ v0).setCell ⟨b, 1, none⟩ v1).setCell ⟨b, 2, none⟩ v2) tv sv l sn := ((h.set hb hn 0 v0).set hb hn 1 v1).set hb hn 2 v2

set_option maxRecDepth 20000 in
set_option maxHeartbeats 16000000 in
theorem refAllC (nv av : Value) (N : List (List Int)) (A : List Int) (s : Txt) (w : World) (hD : Dfa w nv av N A) (hl : N.length ≤ 9223372036854775807) (hs : s.length ≤ 100000) :
    Calls Tryz.prog 12 #[.agg #[nv, av], .string (strT s)] w fun e w' => ∃ tv sv, e = .returned (.agg #[tv, sv, .int .i64 (lexCutB N A s).2.2]) ∧ CtM w w' tv sv (lexCutB N A s).1 (lexCutB N A s).2.1 := by
  obtain ⟨⟨na, nc, rfl⟩, ⟨aa, ac, rfl⟩⟩ := hD.shape
  obtain ⟨RR, hRR⟩ : ∃ R, Hid (lexCutB N A s = R) := ⟨_, hid rfl⟩
  rw [hRR.out]
  obtain ⟨W0, hW0⟩ : ∃ W0, w.alloc (.cells #[.slice na N.length nc, .slice aa A.length ac] 25) = W0 := ⟨_, rfl⟩
  have hb0 : Hid (Below w.heap.size w W0) := by rw [← hW0]; exact hid (al' w _)
  have hz0 : Hid (W0.heap[w.heap.size]? = some (.cells #[.slice na N.length nc, .slice aa A.length ac] 25)) := by rw [← hW0]; exact hid (heap_new w _)
  have hD0 := hid (hD.keep hb0.out)
  have hbx : Hid (∀ u, Below W0.heap.size W0 u → u.cell? ⟨w.heap.size, 0, none⟩ = some (.slice na N.length nc) ∧ u.cell? ⟨w.heap.size, 1, none⟩ = some (.slice aa A.length ac)) := hid (fun u hu => by
    obtain ⟨d0, d1, -⟩ := cells2m (hs_keep hz0.out hu)
    exact ⟨d0, d1⟩)
  have hsz := strT_size s
  obtain ⟨WA, hWA⟩ : ∃ x, W0.alloc (.cells #[.slice none 0 0, .slice none 0 0, .int .i64 0] 41) = x := ⟨_, rfl⟩
  have kA : Hid (WA.heap[W0.heap.size]? = some (.cells #[.slice none 0 0, .slice none 0 0, .int .i64 0] 41)) := by rw [← hWA]; exact hid (heap_new W0 _)
  have bA : Hid (Below W0.heap.size W0 WA) := by rw [← hWA]; exact hid (al' W0 _)
  have kB := hid (heap_new WA (.cells #[.slice none 0 0, .slice none 0 0, .int .i64 (-1)] 41))
  have bB := hid (al' WA (.cells #[.slice none 0 0, .slice none 0 0, .int .i64 (-1)] 41))
  have hne : Hid (W0.heap.size < WA.heap.size) := hid (by rw [← hWA]; simp)
  have hM0 : Hid (RaM W0 WA.heap.size (WA.alloc (.cells #[.slice none 0 0, .slice none 0 0, .int .i64 (-1)] 41)) (.slice none 0 0) (.slice none 0 0) [] []) := hid ⟨CtM.nil (bl_step bA.out bB.out), kB.out, hs_keep kA.out bB.out, fun k e => by rcases e with e | e <;> cases e⟩
  have GR := hid (refRightA _ _ N A _ (hD0.out.keep hM0.out.ct.low) hl)
  obtain ⟨c0, c1⟩ := hbx.out _ hM0.out.ct.low
  obtain ⟨iP, hiP, zP0, zP1, zP2⟩ := info_parts Tryz.infoTk
  obtain ⟨iI, hiI, zI0, zI1, zI2⟩ := info_parts Tryz.info3
  clear hD kA bA kB bB
  cases hrg : rgtB N A with
  | false =>
    rw [hrg] at GR
    rw [lexCutB_bad hrg] at hRR
    go_enter Tryz.func12, Tryz.ntmps12
    go_wp2_with (go_at_call 9; refine GR.out.mono ?_; clear GR; rintro e w2 ⟨rfl, hb2⟩; have hM2 := hid (hM0.out.keep hb2); have hd2 := hid (hM2.out.done hne.out 0); obtain ⟨-, -, ⟨p4, p5⟩⟩ := cells3m hM2.out.cur; obtain ⟨VS, hVS⟩ : ∃ x, w2.setCell ⟨WA.heap.size, 2, none⟩ (.int .i64 0) = x := ⟨_, rfl⟩; rw [hVS] at hd2; obtain ⟨⟨g0, -⟩, ⟨g1, -⟩, ⟨g2, -⟩⟩ := cells3m hd2.out.1.1; obtain ⟨⟨r0, r1⟩, ⟨r2, r3⟩, ⟨r4, r5⟩, v0, v1, v2⟩ := putT3 hd2.out.1.2 (.slice none 0 0) (.slice none 0 0) (.int .i64 0))
    refine bodyPost_ret (v := .agg #[.slice none 0 0, .slice none 0 0, .int .i64 0]) (by simp [results, Tryz.results12, go_sem, v0, v1, v2]) rfl ?_
    rw [← hRR.out]
    exact ⟨_, _, rfl, (hd2.out.2.set3 (Nat.le_refl _) (fun k e => (hM2.out.np k e).2) _ _ _).base hb0.out⟩
  | true =>
    rw [hrg] at GR
    rw [lexCutB_good hrg] at hRR
    have hrH := hid (rgtA_of hrg)
    have GL := hid (fun a (ha : a ≤ s.length) u (hu : Below W0.heap.size W0 u) => refOneC _ _ N A s a u (hD0.out.keep hu) hrH.out ha hs)
    clear hrg hl
    go_enter Tryz.func12, Tryz.ntmps12
    go_wp2_with (go_at_call 9; refine GR.out.mono ?_; clear GR; rintro e w2 ⟨rfl, hb2⟩; have hM2 := hid (hM0.out.keep hb2))
    clear hWA hW0 hM0 c0 c1 hb2
    generalize WA.heap.size = bx at *
    go_loopw [6] (fun i wr => ∃ (a : Nat) (l : List Tk) (sn : List Nat) (tv sv : Value), a ≤ s.length ∧ i = .int .i64 (a : Int) ∧ Hid (RaM W0 bx wr tv sv l sn) ∧ Hid (CutI N A s a l sn) ∧ l.length ≤ a ∧ Hid (l.length = sn.length)) (fun i _ => s.length - (intOf i).toNat)
    case atStart => exact ⟨0, [], [], _, _, Nat.zero_le _, rfl, hM2, hid (CutI.start N A s), Nat.le_refl _, hid rfl⟩
    case round =>
      obtain ⟨a, l, sn, tv, sv, hal, rfl, hM, hI, hla, hls⟩ := hrel
      obtain ⟨ta, tc, hte⟩ := own_shape hM.out.ct.tk
      obtain ⟨sa, sc, hse⟩ := own_shape hM.out.ct.se
      rw [snI_len, ← hls.out] at hse
      subst hte hse
      obtain ⟨d0, d1⟩ := hbx.out wr hM.out.ct.low
      by_cases hlt : a < s.length
      · have hltz : (a : Int) < (s.length : Int) := by omega
        have GL1 := hid (GL.out a hal wr hM.out.ct.low)
        have hst := hid (hI.out.stop hlt)
        have hnx := hid (hI.out.next hlt)
        have hml := lngR_len N A (s.drop a)
        have hsn := (lngG_seen (N := N) (A := A) (s.drop a) 0 0 (0, 0)).2
        have hsn : (lngR N A (s.drop a)).2 ≤ (s.drop a).length + 1 := by
          have e : lngR N A (s.drop a) = lngG N A 0 0 (0, 0) (s.drop a) := rfl
          rw [e]; omega
        rw [List.length_drop] at hml hsn
        generalize lngR N A (s.drop a) = R at *
        obtain ⟨⟨mr, ml⟩, se⟩ := R
        obtain ⟨sn2, hsn2⟩ : ∃ x : Nat, a + se = x := ⟨_, rfl⟩
        by_cases hz : ml = 0
        · subst hz
          have hfin := hid (hst.out rfl)
          clear hst hnx
          go_wp2_with (go_at_call 10; refine GL1.out.mono ?_; clear GL1; rintro e w5 ⟨rfl, hb5⟩; have hb5 := hid (bl_step hb5 (al' w5 (.cells #[.int .i64 mr, .int .i64 0, .int .i64 (sn2 : Int)] 34))); obtain ⟨⟨x0, -⟩, ⟨x1, -⟩, ⟨x2, -⟩⟩ := cells3m (heap_new w5 (.cells #[.int .i64 mr, .int .i64 0, .int .i64 (sn2 : Int)] 34)); have hM5 := hid (hM.out.keep hb5.out); obtain ⟨WT, hWT⟩ : ∃ x, w5.alloc (.cells #[.int .i64 mr, .int .i64 0, .int .i64 (sn2 : Int)] 34) = x := ⟨_, rfl⟩; rw [hWT] at hM5 x0 x1 x2; have hd5 := hid (hM5.out.done hne.out (a : Int)); obtain ⟨-, -, ⟨p4, p5⟩⟩ := cells3m hM5.out.cur; obtain ⟨VS, hVS⟩ : ∃ x, WT.setCell ⟨bx, 2, none⟩ (.int .i64 (a : Int)) = x := ⟨_, rfl⟩; rw [hVS] at hd5; obtain ⟨⟨g0, -⟩, ⟨g1, -⟩, ⟨g2, -⟩⟩ := cells3m hd5.out.1.1; obtain ⟨⟨r0, r1⟩, ⟨r2, r3⟩, ⟨r4, r5⟩, v0, v1, v2⟩ := putT3 hd5.out.1.2 (.slice ta l.length tc) (.slice sa l.length sc) (.int .i64 (a : Int)))
          refine bodyPost_ret (v := .agg #[.slice ta l.length tc, .slice sa l.length sc, .int .i64 (a : Int)]) (by simp [results, Tryz.results12, go_sem, v0, v1, v2]) rfl ?_
          have e9 : RR = (l, sn, (a : Int)) := by rw [← hRR.out, hfin.out]
          rw [e9]
          exact ⟨_, _, rfl, (hd5.out.2.set3 (Nat.le_refl _) (fun k e => (hM5.out.np k e).2) _ _ _).base hb0.out⟩
        · have hmp : 0 < ml := by omega
          have hI2 : Hid (CutI N A s (a + ml) (l ++ [(mr, a, ml)]) (sn ++ [sn2])) := hid (by rw [← hsn2]; exact hnx.out hmp)
          have hmz : ((ml : Int) == 0) = false := by rw [beq_eq_false_iff_ne]; omega
          have hsx : sn2 ≤ 200000 := by omega
          clear hst hnx
          have hno : Hid (∀ w5 : World, Below wr.heap.size wr w5 → ¬ ((Value.slice ta l.length tc).ownBlock = some w5.heap.size ∨ (Value.slice sa l.length sc).ownBlock = some w5.heap.size) ∧ w5.heap.size ≠ bx) := hid (fun w5 h5 => by
            have h6 := h5.size
            refine ⟨fun e => ?_, fun e => ?_⟩
            · rcases e with e | e
              · have := (hM.out.ct.tk.lt _ e).2; omega
              · have := (hM.out.ct.se.lt _ e).2; omega
            · have := blk_lt hM.out.cur; omega)
          have hadd : Hid (∀ w5, Below wr.heap.size wr w5 → ∃ WT, w5.alloc (.cells #[.int .i64 mr, .int .i64 (ml : Int), .int .i64 (sn2 : Int)] 34) = WT ∧ RaM W0 bx WT (.slice ta l.length tc) (.slice sa l.length sc) l sn ∧ WT.heap[w5.heap.size]? = some (.cells #[.int .i64 mr, .int .i64 (ml : Int), .int .i64 (sn2 : Int)] 34)) := hid (fun w5 h5 => ⟨_, rfl, (hM.out.keep h5).keep (al' w5 _), heap_new w5 _⟩)
          go_wp2_with (first
            | (go_at_call 10; refine GL1.out.mono ?_; clear GL1; rintro e w5 ⟨rfl, hb5⟩; obtain ⟨WT, hWT, hCT, hkT⟩ := hadd.out w5 hb5; have hCT := hid hCT; have hkT := hid hkT; have hb5 := hid (hno.out w5 hb5); obtain ⟨⟨x0, -⟩, ⟨x1, -⟩, ⟨x2, -⟩⟩ := cells3m hkT.out; obtain ⟨⟨y0, -⟩, -, -⟩ := cells3m hCT.out.cur; have hCU := hid (hCT.out.keep (al' WT (.cells #[.int .i64 mr, .int .i64 (a : Int), .int .i64 (ml : Int)] 28))); have hkU := hid (hs_keep hkT.out (al' WT (.cells #[.int .i64 mr, .int .i64 (a : Int), .int .i64 (ml : Int)] 28))); clear hadd hno)
            | (at_builtin; refine wpList_append_lies _ (by rfl) _ _ _ (by rfl) W0.heap.size 28 iP (.agg #[.int .i64 0, .int .i64 0, .int .i64 0]) 3 24 Tryz.underlying37 hiP zP0 zP1 zP2 rfl (by decide) (.slice ta l.length tc) l.length (l.flatMap tkV) (by rfl) hCU.out.ct.tk ⟨WT.heap.size, 0, none⟩ 1 1 [.int .i64 mr, .int .i64 (a : Int), .int .i64 (ml : Int)] (by rfl) (by rfl) (World.news_of_block (heap_new WT (.cells #[.int .i64 mr, .int .i64 (a : Int), .int .i64 (ml : Int)] 28))) (by simp [Value.oneCell']) (by omega) (by (unfold maxLen); omega) (by omega) hCU.out.ct.low.size (WT.alloc (.cells #[.int .i64 mr, .int .i64 (a : Int), .int .i64 (ml : Int)] 28)).heap.size rfl ?_; intro g7 c7 w7 hown7 hgrow7 hat7 hlt7; obtain ⟨hC7, y1, y2⟩ := hCU.out.pushT hne.out (t := (mr, a, ml)) hown7 hgrow7 hat7; have hk7 := (Kept.of_grown hgrow7).blk hkU.out (fun e => hb5.out.1 (Or.inl e)); obtain ⟨W8, hW8⟩ : ∃ x, w7.setCell ⟨bx, 0, none⟩ (.slice (some ⟨g7, 0, none⟩) (l.length + 1) c7) = x := ⟨_, rfl⟩; have hk8 : Hid (W8.heap[w5.heap.size]? = some (.cells #[.int .i64 mr, .int .i64 (ml : Int), .int .i64 (sn2 : Int)] 34)) := hid (by rw [← hW8, Below.heap_setCell w7 ⟨bx, 0, none⟩ _ _ hb5.out.2]; exact hk7); rw [hW8] at hC7; have hC7 := hid hC7; clear hk7 hown7 hgrow7 hat7 hCU hkU; clear zP0 zP1 zP2; obtain ⟨-, -, ⟨z2, -⟩⟩ := cells3m hk8.out; obtain ⟨-, ⟨y4, -⟩, -⟩ := cells3m hC7.out.cur; have hC8 := hid (hC7.out.keep (al' W8 (.cells #[.int .i64 (sn2 : Int)] 3))); have hk9 := hid (hs_keep hk8.out (al' W8 (.cells #[.int .i64 (sn2 : Int)] 3))); have ho8 := hid (own_seen hC8.out.ct.se hls.out))
            | (at_builtin; refine wpList_append_lies _ (by rfl) _ _ _ (by rfl) W0.heap.size 3 iI (.int .i64 0) 1 8 Tryz.underlying23 hiI zI0 zI1 zI2 rfl (by decide) (.slice sa l.length sc) l.length (numCells (snI sn)) (by rfl) ho8.out ⟨W8.heap.size, 0, none⟩ 1 1 [.int .i64 (sn2 : Int)] (by rfl) (by rfl) (World.news_of_block (heap_new W8 (.cells #[.int .i64 (sn2 : Int)] 3))) (by simp [Value.oneCell']) (by omega) (by (unfold maxLen); omega) (by omega) hC8.out.ct.low.size (W8.alloc (.cells #[.int .i64 (sn2 : Int)] 3)).heap.size rfl ?_; intro g9 c9 w9 hown9 hgrow9 hat9 hlt9; obtain ⟨hC9, y5, y6⟩ := hC8.out.pushS hne.out (x := sn2) (by rw [← hls.out]; exact hown9) hgrow9 hat9; rw [← hls.out] at hC9; have hk10 := (Kept.of_grown hgrow9).blk hk9.out (fun e => hb5.out.1 (Or.inr e)); obtain ⟨WX, hWX⟩ : ∃ x, w9.setCell ⟨bx, 1, none⟩ (.slice (some ⟨g9, 0, none⟩) (l.length + 1) c9) = x := ⟨_, rfl⟩; have hkX : Hid (WX.heap[w5.heap.size]? = some (.cells #[.int .i64 mr, .int .i64 (ml : Int), .int .i64 (sn2 : Int)] 34)) := hid (by rw [← hWX, Below.heap_setCell w9 ⟨bx, 1, none⟩ _ _ hb5.out.2]; exact hk10); rw [hWX] at hC9; have hC9 := hid hC9; clear hk10 hown9 hgrow9 hat9; clear zI0 zI1 zI2; obtain ⟨-, ⟨z4, -⟩, -⟩ := cells3m hkX.out))
          go_wp2
          go_roundw
          case rel => exact ⟨a + ml, l ++ [(mr, a, ml)], sn ++ [sn2], _, _, by omega, by go_num, hC9, hI2, by rw [List.length_append, List.length_singleton]; omega, hid (by rw [List.length_append, List.length_append, hls.out]; rfl)⟩
          case measure => simp [intOf]; omega
      · have hltz : ¬ (a : Int) < (s.length : Int) := by omega
        have hfin := hid (hI.out.fin (by omega))
        obtain ⟨⟨g0, -⟩, ⟨g1, -⟩, ⟨g2, -⟩⟩ := cells3m hM.out.cur
        obtain ⟨⟨r0, r1⟩, ⟨r2, r3⟩, ⟨r4, r5⟩, v0, v1, v2⟩ := putT3 hM.out.ans (.slice ta l.length tc) (.slice sa l.length sc) (.int .i64 (-1))
        go_wp2
        refine bodyPost_ret (v := .agg #[.slice ta l.length tc, .slice sa l.length sc, .int .i64 (-1)]) (by simp [results, Tryz.results12, go_sem, v0, v1, v2]) rfl ?_
        have e9 : RR = (l, sn, -1) := by rw [← hRR.out, hfin.out]
        rw [e9]
        exact ⟨_, _, rfl, (hM.out.ct.set3 (Nat.le_refl _) (fun k e => (hM.out.np k e).2) _ _ _).base hb0.out⟩

end Go.Proofs.YtonlcnmlklaicaaGreatDoor
