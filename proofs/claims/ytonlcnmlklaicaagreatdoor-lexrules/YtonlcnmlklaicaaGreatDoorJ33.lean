/- lex.longest: the longest match at a place. Right, of automata of any size. lex.cut: the tokens of a text, what was seen for each, and where there is none. lex.cut, All, Seen of any automaton; lex.One. -/
import Derived.Test.YtonlcnmlklaicaaGreatDoorJ24
import Derived.Test.YtonlcnmlklaicaaGreatDoorJ32
import Derived.Test.YtonlcnmlklaicaaGreatDoorJ26
import Derived.Test.YtonlcnmlklaicaaGreatDoorJ14
import Derived.Test.YtonlcnmlklaicaaGreatDoorJ19
import Derived.BigRegion
import Derived.WalkMore
import Derived.Deep.AppendLies
namespace Go.Proofs.YtonlcnmlklaicaaGreatDoor
open Go.RowKit Go.Maps

/-- a token's place: 0 if there is none -/
def tkI (a : Nat) (m : Int × Nat) : Int := if m.2 = 0 then 0 else (a : Int)
def tkC (a : Nat) (m : Int × Nat) : Array Value := #[.int .i64 m.1, .int .i64 (tkI a m), .int .i64 (m.2 : Int)]
theorem cells3m {w : World} {b t : Nat} {x y z : Value} (h : w.heap[b]? = some (.cells #[x, y, z] t (0, 0))) : (w.cell? ⟨b, 0, none⟩ = some x ∧ w.frozen? ⟨b, 0, none⟩ = false) ∧ (w.cell? ⟨b, 1, none⟩ = some y ∧ w.frozen? ⟨b, 1, none⟩ = false) ∧ (w.cell? ⟨b, 2, none⟩ = some z ∧ w.frozen? ⟨b, 2, none⟩ = false) := by
  refine ⟨⟨?_, ?_⟩, ⟨?_, ?_⟩, ⟨?_, ?_⟩⟩ <;> simp [World.cell?, World.frozen?, h]
/-- longest's memory: the answer's place, and the match so far -/
structure LgM (W0 : World) (br bm a : Nat) (w : World) (m : Int × Nat) : Prop where
  ans : w.heap[br]? = some (.cells #[.int .i64 0, .int .i64 0, .int .i64 0] 28 (0, 0))
  cur : w.heap[bm]? = some (.cells (tkC a m) 28 (0, 0))
  low : Below W0.heap.size W0 w
theorem set3_0 {w : World} {b t : Nat} {x y z v : Value} (h : w.heap[b]? = some (.cells #[x, y, z] t (0, 0))) : (w.setCell ⟨b, 0, none⟩ v).heap[b]? = some (.cells #[v, y, z] t (0, 0)) := by
  exact heap_setCell h
theorem set3_1 {w : World} {b t : Nat} {x y z v : Value} (h : w.heap[b]? = some (.cells #[x, y, z] t (0, 0))) : (w.setCell ⟨b, 1, none⟩ v).heap[b]? = some (.cells #[x, v, z] t (0, 0)) := by
  exact heap_setCell h
theorem set3_2 {w : World} {b t : Nat} {x y z v : Value} (h : w.heap[b]? = some (.cells #[x, y, z] t (0, 0))) : (w.setCell ⟨b, 2, none⟩ v).heap[b]? = some (.cells #[x, y, v] t (0, 0)) := by
  exact heap_setCell h
theorem LgM.put {W0 : World} {br bm a : Nat} {w : World} {m : Int × Nat} (h : LgM W0 br bm a w m) (hbm : W0.heap.size ≤ bm) (hne : br ≠ bm) {x : Int} {k : Nat} : LgM W0 br bm a (((w.setCell ⟨bm, 0, none⟩ (.int .i64 x)).setCell ⟨bm, 1, none⟩ (.int .i64 (a : Int))).setCell ⟨bm, 2, none⟩ (.int .i64 ((k : Int) + 1))) (x, k + 1) := by
  refine ⟨?_, ?_, ?_⟩
  · rw [Below.heap_setCell _ ⟨bm, 2, none⟩ _ br hne, Below.heap_setCell _ ⟨bm, 1, none⟩ _ br hne, Below.heap_setCell _ ⟨bm, 0, none⟩ _ br hne]
    exact h.ans
  · exact set3_2 (set3_1 (set3_0 h.cur))
  · exact bl_set (bl_set (bl_set h.low _ _ _ hbm) _ _ _ hbm) _ _ _ hbm
theorem LgM.keep {W0 : World} {br bm a : Nat} {w u : World} {m : Int × Nat} (h : LgM W0 br bm a w m) (hu : Below w.heap.size w u) : LgM W0 br bm a u m := ⟨hs_keep h.ans hu, hs_keep h.cur hu, bl_step h.low hu⟩
theorem lngG_step {N : List (List Int)} {A : List Int} {i k : Nat} {m : Int × Nat} {u : Txt} (hk : k < u.length) : lngG N A i k m (u.drop k) = if N.length ≤ nxA N i (u.getD k 0).toNat then (m, k + 1) else lngG N A (nxA N i (u.getD k 0).toNat) (k + 1) (if acA N A (nxA N i (u.getD k 0).toNat) = -1 then m else (acA N A (nxA N i (u.getD k 0).toNat), k + 1)) (u.drop (k + 1)) := by
  rw [List.drop_eq_getElem_cons hk, lngG, List.getD_eq_getElem?_getD, List.getElem?_eq_getElem hk]
  rfl

set_option maxRecDepth 20000 in
set_option maxHeartbeats 8000000 in
theorem longestC (nv av : Value) (N : List (List Int)) (A : List Int) (s : Txt) (a : Nat) (w : World) (hD : Dfa w nv av N A) (hr : RgtA N A) (ha : a ≤ s.length) (hs : s.length ≤ 1000000) :
    Calls Tryz.prog 21 #[.agg #[nv, av], .string (strT s), .int .i64 (a : Int)] w fun e w' => e = .returned (.tuple #[.agg (tkC a (lngR N A (s.drop a)).1), .int .i64 ((a + (lngR N A (s.drop a)).2 : Nat) : Int)]) ∧ Below w.heap.size w w' := by
  obtain ⟨⟨na, nc, rfl⟩, ⟨aa, ac, rfl⟩⟩ := hD.shape
  obtain ⟨R, hR⟩ : ∃ R, Hid (lngR N A (s.drop a) = R) := ⟨_, hid rfl⟩
  rw [hR.out]
  obtain ⟨W0, hW0⟩ : ∃ W0, w.alloc (.cells #[.slice na N.length nc, .slice aa A.length ac] 25) = W0 := ⟨_, rfl⟩
  have hb0 : Hid (Below w.heap.size w W0) := by rw [← hW0]; exact hid (al' w _)
  have hz0 : Hid (W0.heap[w.heap.size]? = some (.cells #[.slice na N.length nc, .slice aa A.length ac] 25)) := by rw [← hW0]; exact hid (heap_new w _)
  have hD0 := hid (hD.keep hb0.out)
  have hbx : Hid (∀ u, Below W0.heap.size W0 u → u.cell? ⟨w.heap.size, 0, none⟩ = some (.slice na N.length nc) ∧ u.cell? ⟨w.heap.size, 1, none⟩ = some (.slice aa A.length ac)) := hid (fun u hu => by
    obtain ⟨d0, d1, -⟩ := cells2m (hs_keep hz0.out hu)
    exact ⟨d0, d1⟩)
  have hrH := hid hr
  have hpos := hr.pos
  have hf := hr.few
  have hsz := strT_size s
  obtain ⟨WA, hWA⟩ : ∃ x, W0.alloc (.cells #[.int .i64 0, .int .i64 0, .int .i64 0] 28) = x := ⟨_, rfl⟩
  obtain ⟨WB, hWB⟩ : ∃ x, WA.alloc (.cells #[.int .i64 0, .int .i64 0, .int .i64 0] 28) = x := ⟨_, rfl⟩
  have kA : Hid (WA.heap[W0.heap.size]? = some (.cells #[.int .i64 0, .int .i64 0, .int .i64 0] 28)) := by rw [← hWA]; exact hid (heap_new W0 _)
  have bA : Hid (Below W0.heap.size W0 WA) := by rw [← hWA]; exact hid (al' W0 _)
  have kB : Hid (WB.heap[WA.heap.size]? = some (.cells #[.int .i64 0, .int .i64 0, .int .i64 0] 28)) := by rw [← hWB]; exact hid (heap_new WA _)
  have bB : Hid (Below WA.heap.size WA WB) := by rw [← hWB]; exact hid (al' WA _)
  have hne : Hid (W0.heap.size ≤ WA.heap.size ∧ W0.heap.size ≠ WA.heap.size) := hid ⟨by rw [← hWA]; simp, by rw [← hWA]; simp⟩
  have hM0 : Hid (LgM W0 W0.heap.size WA.heap.size a WB (0, 0)) := hid ⟨hs_keep kA.out bB.out, kB.out, bl_step bA.out bB.out⟩
  clear hD hr kA bA kB bB
  go_enter Tryz.func21, Tryz.ntmps21
  go_wp2_with fail
  go_step3
  go_wp2_with fail
  go_step3
  go_wp2_with fail
  clear hWA hWB hW0
  generalize WA.heap.size = bm at hM0 hne ⊢
  go_loopw [9, 10] (fun x i wr => ∃ (k j : Nat) (m : Int × Nat), a + k ≤ s.length ∧ j < N.length ∧ x = .int .i64 (j : Int) ∧ i = .int .i64 ((a + k : Nat) : Int) ∧ Hid (LgM W0 W0.heap.size bm a wr m) ∧ Hid (lngG N A j k m ((s.drop a).drop k) = R)) (fun _ i _ => s.length - (intOf i).toNat)
  case atStart => exact ⟨0, 0, (0, 0), by omega, hpos, rfl, rfl, hM0, hid hR.out⟩
  case round =>
    obtain ⟨k, j, m, hk, hj, rfl, rfl, hM, hL⟩ := hrel
    obtain ⟨d0, d1⟩ := hbx.out wr hM.out.low
    obtain ⟨p, hp⟩ : ∃ p : Nat, a + k = p := ⟨_, rfl⟩
    rw [hp] at hk ⊢
    by_cases hlt : p < s.length
    · have hltz : (p : Int) < (s.length : Int) := by omega
      have hltn : p < (strT s).size := by omega
      have hgd : s.getD p 0 = s[p]'hlt := by rw [List.getD_eq_getElem?_getD, List.getElem?_eq_getElem hlt]; rfl
      have key : (((strT s)[p]'hltn).toNat : Int) = ((s.getD p 0).toNat : Int) := by rw [hgd]; exact congrArg (fun c : UInt8 => (c.toNat : Int)) (strT_at s p hltn hlt)
      have hst := hid (lngG_step (N := N) (A := A) (i := j) (k := k) (m := m) (u := s.drop a) (by rw [List.length_drop]; omega))
      have hgu : (s.drop a).getD k 0 = s.getD p 0 := by rw [List.getD_eq_getElem?_getD, List.getElem?_drop, hp, ← List.getD_eq_getElem?_getD]
      rw [hgu] at hst
      have hcb := (s.getD p 0).toNat_lt
      obtain ⟨b1, o1, x, e1, hb1, hc1, hN1⟩ := numss_get (hD0.out.keep hM.out.low).nxt hj
      subst e1
      have hlen := (hrH.out.rgt j hj).1
      obtain ⟨b2, o2, c2, e2, hb2, hc2⟩ := nums_get hN1 (c := (s.getD p 0).toNat) (by omega)
      subst e2
      rw [hlen] at hc1
      have hnx := nxA_some hrH.out.rgt hj (b := (s.getD p 0).toNat) hcb
      rw [← hnx] at hc2
      have hnl := nxA_le hrH.out.rgt j (b := (s.getD p 0).toNat) hcb
      generalize nxA N j (s.getD p 0).toNat = y at *
      generalize (s.getD p 0).toNat = c at *
      have hcz : (c : Int) < 256 := by omega
      have hjz : (j : Int) < (N.length : Int) := by omega
      clear hgd hgu hnx hlen hN1
      rcases Nat.lt_or_ge y N.length with hy | hy
      · rw [inI_some hy] at hc2
        have hyn : ((y : Int) == -1) = false := by rw [beq_eq_false_iff_ne]; omega
        have hyz : (y : Int) < (N.length : Int) := by omega
        obtain ⟨b3, o3, e3, hb3, hc3⟩ := nums_cell (hD0.out.keep hM.out.low).acc y (by have := hrH.out.len; omega)
        subst e3
        have hst' : Hid (lngG N A j k m ((s.drop a).drop k) = lngG N A y (k + 1) (if acA N A y = -1 then m else (acA N A y, k + 1)) ((s.drop a).drop (k + 1))) := hid (by rw [hst.out, if_neg (by omega)])
        rw [acA_some hy] at hst'
        have hacc := hrH.out.acc y (by have := hrH.out.len; omega)
        have hyA : (y : Int) < (A.length : Int) := by have := hrH.out.len; omega
        generalize A.getD y 0 = acv at *
        by_cases hav : acv = -1
        · subst hav
          have hL' : Hid (lngG N A y (k + 1) m ((s.drop a).drop (k + 1)) = R) := hid (by rw [← hL.out, hst'.out, if_pos rfl])
          have hMd := hid (hM.out.keep ((Below.refl wr.heap.size wr).drew))
          clear hst' hst
          go_wp2_with fail
          go_region
          go_wp2
          go_roundw
          case rel => exact ⟨k + 1, y, m, by omega, hy, rfl, by rw [← Nat.add_assoc, hp]; go_num, by first | exact hM | exact hMd, hL'⟩
          case measure => simp [intOf]; omega
        · have havn : (acv == -1) = false := by rw [beq_eq_false_iff_ne]; exact hav
          have hL' : Hid (lngG N A y (k + 1) (acv, k + 1) ((s.drop a).drop (k + 1)) = R) := hid (by rw [← hL.out, hst'.out, if_neg hav])
          have q0 := hM.out.cur
          obtain ⟨⟨t0, t1⟩, ⟨t2, t3⟩, ⟨t4, t5⟩⟩ := cells3m q0
          have q1 := set3_0 (v := .int .i64 acv) q0
          obtain ⟨-, ⟨r2, r3⟩, -⟩ := cells3m q1
          have q2 := set3_1 (v := .int .i64 (a : Int)) q1
          obtain ⟨-, -, ⟨v4, v5⟩⟩ := cells3m q2
          have hMp := hid ((hM.out.put (x := acv) (k := k) hne.out.1 hne.out.2).keep ((Below.refl _ _).drew))
          have hpa : (p : Int) + 1 - (a : Int) = ((k + 1 : Nat) : Int) := by omega
          clear q0 q1 q2 hst hst'
          go_wp2_with fail
          go_region
          go_wp2
          refine ⟨⟨k + 1, y, (acv, k + 1), by omega, hy, rfl, by rw [← Nat.add_assoc, hp]; go_num, hMp, hL'⟩, ?_⟩
          simp [intOf]; omega
      · obtain rfl : y = N.length := by omega
        rw [inI_none] at hc2
        have hfin : Hid (R = (m, k + 1)) := hid (by rw [← hL.out, hst.out, if_pos (Nat.le_refl _)])
        have q0 := hM.out.cur
        obtain ⟨⟨t0, t1⟩, ⟨t2, t3⟩, ⟨t4, t5⟩⟩ := cells3m q0
        have s0 := hM.out.ans
        obtain ⟨⟨r0, r1⟩, -, -⟩ := cells3m s0
        have s1 := set3_0 (v := .int .i64 m.1) s0
        obtain ⟨-, ⟨r2, r3⟩, -⟩ := cells3m s1
        have s2 := set3_1 (v := .int .i64 (tkI a m)) s1
        obtain ⟨-, -, ⟨r4, r5⟩⟩ := cells3m s2
        have s3 := set3_2 (v := .int .i64 (m.2 : Int)) s2
        obtain ⟨⟨v0, v1⟩, ⟨v2, v3⟩, ⟨v4, v5⟩⟩ := cells3m s3
        have hlw := hid (bl_set (bl_set (bl_set hM.out.low W0.heap.size 0 (.int .i64 m.1) (Nat.le_refl _)) W0.heap.size 1 (.int .i64 (tkI a m)) (Nat.le_refl _)) W0.heap.size 2 (.int .i64 (m.2 : Int)) (Nat.le_refl _))
        clear q0 s0 s1 s2 s3
        clear hst hL
        go_wp2_with fail
        go_region
        go_wp2
        try rw [Exit.noGoto_ret]
        refine bodyPost_ret (v := .tuple #[.agg #[.int .i64 m.1, .int .i64 (tkI a m), .int .i64 (m.2 : Int)], .int .i64 ((p : Int) + 1)]) (by simp [results, Tryz.results21, go_sem, v0, v2, v4]) rfl ⟨?_, bl_step hb0.out (by first | exact hlw.out | exact hlw.out.drew)⟩
        rw [hfin.out]
        show _ = Ending.returned (.tuple #[.agg (tkC a m), .int .i64 ((a + (k + 1) : Nat) : Int)])
        rw [show a + (k + 1) = p + 1 by omega]
        rfl
    · have hltz : ¬ (p : Int) < (s.length : Int) := by omega
      have hfin : Hid (R = (m, k + 1)) := hid (by
        have e : (s.drop a).drop k = [] := List.eq_nil_of_length_eq_zero (by rw [List.length_drop, List.length_drop]; omega)
        rw [← hL.out, e]
        rfl)
      have q0 := hM.out.cur
      obtain ⟨⟨t0, t1⟩, ⟨t2, t3⟩, ⟨t4, t5⟩⟩ := cells3m q0
      have s0 := hM.out.ans
      obtain ⟨⟨r0, r1⟩, -, -⟩ := cells3m s0
      have s1 := set3_0 (v := .int .i64 m.1) s0
      obtain ⟨-, ⟨r2, r3⟩, -⟩ := cells3m s1
      have s2 := set3_1 (v := .int .i64 (tkI a m)) s1
      obtain ⟨-, -, ⟨r4, r5⟩⟩ := cells3m s2
      have s3 := set3_2 (v := .int .i64 (m.2 : Int)) s2
      obtain ⟨⟨v0, v1⟩, ⟨v2, v3⟩, ⟨v4, v5⟩⟩ := cells3m s3
      have hlw := hid (bl_set (bl_set (bl_set hM.out.low W0.heap.size 0 (.int .i64 m.1) (Nat.le_refl _)) W0.heap.size 1 (.int .i64 (tkI a m)) (Nat.le_refl _)) W0.heap.size 2 (.int .i64 (m.2 : Int)) (Nat.le_refl _))
      clear q0 s0 s1 s2 s3
      clear hL
      go_wp2
      try rw [Exit.noGoto_ret]
      refine bodyPost_ret (v := .tuple #[.agg #[.int .i64 m.1, .int .i64 (tkI a m), .int .i64 (m.2 : Int)], .int .i64 ((p : Int) + 1)]) (by simp [results, Tryz.results21, go_sem, v0, v2, v4]) rfl ⟨?_, bl_step hb0.out (by first | exact hlw.out | exact hlw.out.drew)⟩
      rw [hfin.out]
      show _ = Ending.returned (.tuple #[.agg (tkC a m), .int .i64 ((a + (k + 1) : Nat) : Int)])
      rw [show a + (k + 1) = p + 1 by omega]
      rfl

end Go.Proofs.YtonlcnmlklaicaaGreatDoor
namespace Go.Proofs.YtonlcnmlklaicaaGreatDoor
open Go.RowKit Go.Maps

theorem rgtB_long {N : List (List Int)} {A : List Int} (h : 240 < N.length) : rgtB N A = false := by
  unfold rgtB
  rw [decide_eq_false (show ¬ N.length ≤ 240 by omega)]
  simp
set_option maxRecDepth 20000 in
theorem refRightA (nv av : Value) (N : List (List Int)) (A : List Int) (w : World) (hD : Dfa w nv av N A) (hl : N.length ≤ 9223372036854775807) :
    Calls Tryz.prog 9 #[.agg #[nv, av]] w fun e w' => e = .returned (.bool (rgtB N A)) ∧ Below w.heap.size w w' := by
  rcases Nat.lt_or_ge 1000 N.length with h | h
  · rw [rgtB_long (by omega)]
    obtain ⟨⟨na, nc, rfl⟩, ⟨aa, ac, rfl⟩⟩ := hD.shape
    have hal := hid (al' w (.cells #[.slice na N.length nc, .slice aa A.length ac] 25))
    obtain ⟨x0, x1, -⟩ := cells2m (heap_new w (.cells #[.slice na N.length nc, .slice aa A.length ac] 25))
    have h1 : ¬ (N.length : Int) < 1 := by omega
    have h2 : (240 : Int) < (N.length : Int) := by omega
    clear hD
    go_enter Tryz.func9, Tryz.ntmps9
    go_wp2
    go_ret
    exact ⟨rfl, hal.out⟩
  · exact refRight nv av N A w hD.nxt hD.acc h
set_option maxRecDepth 20000 in
theorem rightA (nv av : Value) (N : List (List Int)) (A : List Int) (w : World) (hD : Dfa w nv av N A) (hl : N.length ≤ 9223372036854775807) :
    Calls Tryz.prog 20 #[.agg #[nv, av]] w fun e w' => e = .returned (.bool (rgtB N A)) ∧ Below w.heap.size w w' := by
  rcases Nat.lt_or_ge 1000 N.length with h | h
  · rw [rgtB_long (by omega)]
    obtain ⟨⟨na, nc, rfl⟩, ⟨aa, ac, rfl⟩⟩ := hD.shape
    have hal := hid (al' w (.cells #[.slice na N.length nc, .slice aa A.length ac] 25))
    obtain ⟨x0, x1, -⟩ := cells2m (heap_new w (.cells #[.slice na N.length nc, .slice aa A.length ac] 25))
    have h1 : ¬ (N.length : Int) < 1 := by omega
    have h2 : (240 : Int) < (N.length : Int) := by omega
    clear hD
    go_enter Tryz.func20, Tryz.ntmps20
    go_wp2
    go_ret
    exact ⟨rfl, hal.out⟩
  · exact rightD nv av N A w hD.nxt hD.acc h

end Go.Proofs.YtonlcnmlklaicaaGreatDoor
namespace Go.Proofs.YtonlcnmlklaicaaGreatDoor
open Go.RowKit Go.Maps

def tkV (t : Tk) : List Value := [.int .i64 t.1, .int .i64 (t.2.1 : Int), .int .i64 (t.2.2 : Int)]
def snI (l : List Nat) : List Int := l.map fun (n : Nat) => Int.ofNat n
theorem snI_len (l : List Nat) : (snI l).length = l.length := List.length_map _
abbrev OwnK (w : World) (B : Nat) (v : Value) (l : List Tk) : Prop := w.ownsRow B 28 3 v l.length (l.flatMap tkV)
set_option maxRecDepth 20000 in
theorem Tryz.infoTk : (Tryz.prog.info? 28).map (fun i => (i.zero, i.size, i.bytes)) = some (some (.agg #[.int .i64 0, .int .i64 0, .int .i64 0]), 3, 24) := by kernel_rfl
/-- cut's memory -/
structure CtM (W0 w : World) (tv sv : Value) (l : List Tk) (sn : List Nat) : Prop where
  tk : OwnK w W0.heap.size tv l
  se : Own w W0.heap.size sv (snI sn)
  off : ∀ k, tv.ownBlock = some k → sv.ownBlock ≠ some k
  low : Below W0.heap.size W0 w
theorem CtM.keep {W0 w u : World} {tv sv : Value} {l : List Tk} {sn : List Nat} (h : CtM W0 w tv sv l sn) (hu : Below w.heap.size w u) : CtM W0 u tv sv l sn := ⟨own_below h.tk hu, own_below h.se hu, h.off, bl_step h.low hu⟩
theorem CtM.pushT {W0 w w' : World} {tv sv : Value} {l : List Tk} {sn : List Nat} (h : CtM W0 w tv sv l sn) {t : Tk} {g cap : Nat}
    (ho : w'.ownsRow W0.heap.size 28 3 (.slice (some ⟨g, 0, none⟩) (l.length + 1) cap) (l.length + 1) (l.flatMap tkV ++ tkV t)) (hg : w.grownBy w' tv.ownBlock) (hat : tv.ownBlock = some g ∨ g = w.heap.size) :
    CtM W0 w' (.slice (some ⟨g, 0, none⟩) (l.length + 1) cap) sv (l ++ [t]) sn := by
  have hk := Kept.of_grown hg
  refine ⟨?_, own_kept h.se hk (fun k e e' => h.off k e' e), fun k e e' => ?_, h.low.trans (hk.below (fun k e => (h.tk.lt k e).1) h.low.size)⟩
  · unfold OwnK
    rw [List.length_append, List.flatMap_append, List.flatMap_singleton]
    exact ho
  · have e1 : g = k := by injection e
    subst e1
    rcases hat with h1 | h1
    · exact h.off g h1 e'
    · have := (h.se.lt g e').2
      omega
theorem CtM.pushS {W0 w w' : World} {tv sv : Value} {l : List Tk} {sn : List Nat} (h : CtM W0 w tv sv l sn) {x : Nat} {g cap : Nat}
    (ho : w'.ownsRow W0.heap.size 3 1 (.slice (some ⟨g, 0, none⟩) (sn.length + 1) cap) (sn.length + 1) (numCells (snI sn) ++ [.int .i64 (x : Int)])) (hg : w.grownBy w' sv.ownBlock) (hat : sv.ownBlock = some g ∨ g = w.heap.size) :
    CtM W0 w' tv (.slice (some ⟨g, 0, none⟩) (sn.length + 1) cap) l (sn ++ [x]) := by
  have hk := Kept.of_grown hg
  refine ⟨own_kept h.tk hk (fun k e e' => h.off k e e'), ?_, fun k e e' => ?_, h.low.trans (hk.below (fun k e => (h.se.lt k e).1) h.low.size)⟩
  · unfold Own
    have e : numCells (snI (sn ++ [x])) = numCells (snI sn) ++ [.int .i64 (x : Int)] := by unfold numCells snI; simp
    rw [e, snI_len, List.length_append]
    exact ho
  · have e1 : g = k := by injection e'
    subst e1
    rcases hat with h1 | h1
    · exact h.off g e h1
    · have := (h.tk.lt g e).2
      omega
theorem own_seen {w : World} {B n : Nat} {v : Value} {sn : List Nat} (h : Own w B v (snI sn)) (hn : n = sn.length) : w.ownsRow B 3 1 v n (numCells (snI sn)) := by
  unfold Own at h
  rw [snI_len, ← hn] at h
  exact h
set_option maxRecDepth 20000 in
theorem lexCutBad (nv av : Value) (N : List (List Int)) (A : List Int) (s : Txt) (w : World) (hD : Dfa w nv av N A) (hl : N.length ≤ 9223372036854775807) (hr : rgtB N A = false) :
    Calls Tryz.prog 23 #[.agg #[nv, av], .string (strT s)] w fun e w' => e = .returned (.tuple #[.slice none 0 0, .slice none 0 0, .int .i64 0]) ∧ Below w.heap.size w w' := by
  obtain ⟨⟨na, nc, rfl⟩, ⟨aa, ac, rfl⟩⟩ := hD.shape
  obtain ⟨W0, hW0⟩ : ∃ W0, w.alloc (.cells #[.slice na N.length nc, .slice aa A.length ac] 25) = W0 := ⟨_, rfl⟩
  have hb0 : Hid (Below w.heap.size w W0) := by rw [← hW0]; exact hid (al' w _)
  have hz0 : Hid (W0.heap[w.heap.size]? = some (.cells #[.slice na N.length nc, .slice aa A.length ac] 25)) := by rw [← hW0]; exact hid (heap_new w _)
  obtain ⟨d0, d1, -⟩ := cells2m hz0.out
  have GR := hid (rightA _ _ N A W0 (hD.keep hb0.out) hl)
  rw [hr] at GR
  clear hD hl hr
  go_enter Tryz.func23, Tryz.ntmps23
  go_wp2_with (go_at_call 20; refine GR.out.mono ?_; clear GR; rintro e w2 ⟨rfl, hb2⟩; have hb2 := hid hb2)
  refine bodyPost_ret (results_tmp3 rfl _ _ _) rfl ?_
  exact ⟨rfl, bl_step hb0.out hb2.out⟩

set_option maxRecDepth 20000 in
set_option maxHeartbeats 16000000 in
theorem lexCutGood (nv av : Value) (N : List (List Int)) (A : List Int) (s : Txt) (w : World) (hD : Dfa w nv av N A) (hr : RgtA N A) (hs : s.length ≤ 100000) :
    Calls Tryz.prog 23 #[.agg #[nv, av], .string (strT s)] w fun e w' => ∃ tv sv, e = .returned (.tuple #[tv, sv, .int .i64 (cutA N A s).2.2]) ∧ CtM w w' tv sv (cutA N A s).1 (cutA N A s).2.1 := by
  obtain ⟨⟨na, nc, rfl⟩, ⟨aa, ac, rfl⟩⟩ := hD.shape
  obtain ⟨RR, hRR⟩ : ∃ R, Hid (cutA N A s = R) := ⟨_, hid rfl⟩
  rw [hRR.out]
  obtain ⟨W0, hW0⟩ : ∃ W0, w.alloc (.cells #[.slice na N.length nc, .slice aa A.length ac] 25) = W0 := ⟨_, rfl⟩
  have hb0 : Hid (Below w.heap.size w W0) := by rw [← hW0]; exact hid (al' w _)
  have hz0 : Hid (W0.heap[w.heap.size]? = some (.cells #[.slice na N.length nc, .slice aa A.length ac] 25)) := by rw [← hW0]; exact hid (heap_new w _)
  have hD0 := hid (hD.keep hb0.out)
  have hbx : Hid (∀ u, Below W0.heap.size W0 u → u.cell? ⟨w.heap.size, 0, none⟩ = some (.slice na N.length nc) ∧ u.cell? ⟨w.heap.size, 1, none⟩ = some (.slice aa A.length ac)) := hid (fun u hu => by
    obtain ⟨d0, d1, -⟩ := cells2m (hs_keep hz0.out hu)
    exact ⟨d0, d1⟩)
  have GR := hid (rightA _ _ N A W0 hD0.out (by have := hr.few; omega))
  rw [rgtB_of hr] at GR
  have hrH := hid hr
  have GL := hid (fun a (ha : a ≤ s.length) u (hu : Below W0.heap.size W0 u) => longestC _ _ N A s a u (hD0.out.keep hu) hr ha (by omega))
  have hsz := strT_size s
  obtain ⟨c0, c1⟩ := hbx.out W0 (Below.refl _ _)
  obtain ⟨iP, hiP, zP0, zP1, zP2⟩ := info_parts Tryz.infoTk
  obtain ⟨iI, hiI, zI0, zI1, zI2⟩ := info_parts Tryz.info3
  clear hD hr
  go_enter Tryz.func23, Tryz.ntmps23
  go_wp2_with (go_at_call 20; refine GR.out.mono ?_; clear GR; rintro e w2 ⟨rfl, hb2⟩; have hb2 := hid hb2)
  have hC0 : Hid (CtM W0 w2 (.slice none 0 0) (.slice none 0 0) [] []) := hid ⟨World.ownsRow_nil _ _ _ _, World.ownsRow_nil _ _ _ _, fun k e => (by cases e), hb2.out⟩
  clear hW0 c0 c1
  go_loopw [7, 8, 9] (fun tv sv i wr => ∃ (a : Nat) (l : List Tk) (sn : List Nat), a ≤ s.length ∧ i = .int .i64 (a : Int) ∧ Hid (CtM W0 wr tv sv l sn) ∧ Hid (CutI N A s a l sn) ∧ l.length ≤ a ∧ l.length = sn.length) (fun _ _ i _ => s.length - (intOf i).toNat)
  case atStart => exact ⟨0, [], [], Nat.zero_le _, rfl, hC0, hid (CutI.start N A s), Nat.le_refl _, rfl⟩
  case round =>
    obtain ⟨a, l, sn, hal, rfl, hC, hI, hla, hls'⟩ := hrel
    have hls := hid hls'
    clear hls'
    obtain ⟨ta, tc, hte⟩ := own_shape hC.out.tk
    obtain ⟨sa, sc, hse⟩ := own_shape hC.out.se
    rw [snI_len, ← hls.out] at hse
    subst hte hse
    obtain ⟨d0, d1⟩ := hbx.out wr hC.out.low
    have hBw : Hid (W0.heap.size ≤ wr.heap.size) := hid hC.out.low.size
    by_cases hlt : a < s.length
    · have hltz : (a : Int) < (s.length : Int) := by omega
      have GL1 := hid (GL.out a hal wr hC.out.low)
      have hst := hid (hI.out.stop hlt)
      have hnx := hid (hI.out.next hlt)
      have hml := lngR_len N A (s.drop a)
      have hsp := (mtK_spec N A (s.drop a) (s.drop a).length).2
      rw [← lngR_is] at hsp
      have hsn := (lngG_seen (N := N) (A := A) (s.drop a) 0 0 (0, 0)).2
      have hsn : (lngR N A (s.drop a)).2 ≤ (s.drop a).length + 1 := by
        have e : lngR N A (s.drop a) = lngG N A 0 0 (0, 0) (s.drop a) := rfl
        rw [e]; omega
      rw [List.length_drop] at hml hsn
      generalize lngR N A (s.drop a) = R at *
      obtain ⟨⟨mr, ml⟩, se⟩ := R
      obtain ⟨sn2, hsn2⟩ : ∃ x : Nat, a + se = x := ⟨_, rfl⟩
      have hend : Hid (∀ u tv sv, CtM W0 u tv sv l sn → CtM w u tv sv l sn) := hid (fun u tv sv h => ⟨own_base h.tk hb0.out.size, own_base h.se hb0.out.size, h.off, bl_step hb0.out h.low⟩)
      by_cases hz : ml = 0
      · subst hz
        have hfin := hid (hst.out rfl)
        unfold tkC at GL1
        clear hst hnx
        go_wp2_with (go_at_call 21; refine GL1.out.mono ?_; clear GL1; rintro e w5 ⟨rfl, hb5⟩; have hb5 := hid hb5)
        refine bodyPost_ret (results_tmp3 rfl _ _ _) rfl ?_
        have e9 : RR = (l, sn, (a : Int)) := by rw [← hRR.out, hfin.out]
        rw [e9]
        exact ⟨_, _, rfl, hend.out _ _ _ ((hC.out.keep hb5.out).keep (al' w5 _))⟩
      · have hmp : 0 < ml := by omega
        have hI2 : Hid (CutI N A s (a + ml) (l ++ [(mr, a, ml)]) (sn ++ [sn2])) := hid (by rw [← hsn2]; exact hnx.out hmp)
        unfold tkC at GL1
        have htk : tkI a (mr, ml) = (a : Int) := if_neg hz
        rw [htk] at GL1
        have hmz : ((ml : Int) == 0) = false := by rw [beq_eq_false_iff_ne]; omega
        have hsx : sn2 ≤ 200000 := by omega
        clear hst hnx htk hsp
        have hno : Hid (∀ w5 : World, Below wr.heap.size wr w5 → ¬ ((Value.slice ta l.length tc).ownBlock = some w5.heap.size ∨ (Value.slice sa l.length sc).ownBlock = some w5.heap.size)) := hid (fun w5 h5 e => by
          have h6 := h5.size
          rcases e with e | e
          · have := (hC.out.tk.lt _ e).2; omega
          · have := (hC.out.se.lt _ e).2; omega)
        have hadd : Hid (∀ w5, Below wr.heap.size wr w5 → ∃ WT, w5.alloc (.cells #[.int .i64 mr, .int .i64 (a : Int), .int .i64 (ml : Int)] 28) = WT ∧ CtM W0 WT (.slice ta l.length tc) (.slice sa l.length sc) l sn ∧ WT.heap[w5.heap.size]? = some (.cells #[.int .i64 mr, .int .i64 (a : Int), .int .i64 (ml : Int)] 28)) := hid (fun w5 h5 => ⟨_, rfl, (hC.out.keep h5).keep (al' w5 _), heap_new w5 _⟩)
        go_wp2_with (first
          | (go_at_call 21; refine GL1.out.mono ?_; clear GL1; rintro e w5 ⟨rfl, hb5⟩; obtain ⟨WT, hWT, hCT, hkT⟩ := hadd.out w5 hb5; have hCT := hid hCT; have hkT := hid hkT; have hb5 := hid hb5; obtain ⟨⟨x0, -⟩, ⟨x1, -⟩, ⟨x2, -⟩⟩ := cells3m hkT.out; have hCU := hid (hCT.out.keep (al' WT (.cells #[.int .i64 mr, .int .i64 (a : Int), .int .i64 (ml : Int)] 28))); have hkU := hid (hs_keep hkT.out (al' WT (.cells #[.int .i64 mr, .int .i64 (a : Int), .int .i64 (ml : Int)] 28))); clear hadd)
          | (at_builtin; refine wpList_append_lies _ (by rfl) _ _ _ (by rfl) W0.heap.size 28 iP (.agg #[.int .i64 0, .int .i64 0, .int .i64 0]) 3 24 Tryz.underlying37 hiP zP0 zP1 zP2 rfl (by decide) (.slice ta l.length tc) l.length (l.flatMap tkV) (by rfl) hCU.out.tk ⟨WT.heap.size, 0, none⟩ 1 1 [.int .i64 mr, .int .i64 (a : Int), .int .i64 (ml : Int)] (by rfl) (by rfl) (World.news_of_block (heap_new WT (.cells #[.int .i64 mr, .int .i64 (a : Int), .int .i64 (ml : Int)] 28))) (by simp [Value.oneCell']) (by omega) (by (unfold maxLen); omega) (by omega) hCU.out.low.size (WT.alloc (.cells #[.int .i64 mr, .int .i64 (a : Int), .int .i64 (ml : Int)] 28)).heap.size rfl ?_; intro g7 c7 w7 hown7 hgrow7 hat7 hlt7; have hC7 := hid (hCU.out.pushT (t := (mr, a, ml)) hown7 hgrow7 hat7); have hk7 := hid ((Kept.of_grown hgrow7).blk hkU.out (fun e => hno.out _ hb5.out (Or.inl e))); clear hown7 hgrow7 hat7 hCU hkU; clear zP0 zP1 zP2; have hC8 := hid (hC7.out.keep (al' w7 (.cells #[.int .i64 (sn2 : Int)] 3))); have hk8 := hid (hs_keep hk7.out (al' w7 (.cells #[.int .i64 (sn2 : Int)] 3))); have ho8 := hid (own_seen hC8.out.se hls.out))
          | (at_builtin; refine wpList_append_lies _ (by rfl) _ _ _ (by rfl) W0.heap.size 3 iI (.int .i64 0) 1 8 Tryz.underlying23 hiI zI0 zI1 zI2 rfl (by decide) (.slice sa l.length sc) l.length (numCells (snI sn)) (by rfl) ho8.out ⟨w7.heap.size, 0, none⟩ 1 1 [.int .i64 (sn2 : Int)] (by rfl) (by rfl) (World.news_of_block (heap_new w7 (.cells #[.int .i64 (sn2 : Int)] 3))) (by simp [Value.oneCell']) (by omega) (by (unfold maxLen); omega) (by omega) hC8.out.low.size (w7.alloc (.cells #[.int .i64 (sn2 : Int)] 3)).heap.size rfl ?_; intro g9 c9 w9 hown9 hgrow9 hat9 hlt9; have hC9 := hid (hC8.out.pushS (x := sn2) (by rw [← hls.out]; exact hown9) hgrow9 hat9); have hk9 := hid ((Kept.of_grown hgrow9).blk hk8.out (fun e => hno.out _ hb5.out (Or.inr e))); clear hown9 hgrow9 hat9; clear zI0 zI1 zI2; obtain ⟨-, -, ⟨z2, -⟩⟩ := cells3m hk9.out))
        rw [← hls.out] at hC9
        go_wp2
        go_roundw
        case rel => exact ⟨a + ml, l ++ [(mr, a, ml)], sn ++ [sn2], by omega, by go_num, hC9, hI2, by rw [List.length_append, List.length_singleton]; omega, by rw [List.length_append, List.length_append, hls.out]; rfl⟩
        case measure => simp [intOf]; omega
    · have hltz : ¬ (a : Int) < (s.length : Int) := by omega
      have hfin := hid (hI.out.fin (by omega))
      go_wp2
      refine bodyPost_ret (results_tmp3 rfl _ _ _) rfl ?_
      have e9 : RR = (l, sn, -1) := by rw [← hRR.out, hfin.out]
      rw [e9]
      exact ⟨_, _, rfl, own_base hC.out.tk hb0.out.size, own_base hC.out.se hb0.out.size, hC.out.off, bl_step hb0.out hC.out.low⟩

end Go.Proofs.YtonlcnmlklaicaaGreatDoor
namespace Go.Proofs.YtonlcnmlklaicaaGreatDoor
open Go.RowKit Go.Maps

/-- the tokens by any automaton -/
def lexCutB (N : List (List Int)) (A : List Int) (T : Txt) : List Tk × List Nat × Int := if rgtB N A = true then cutA N A T else ([], [], 0)
theorem lexCutB_good {N : List (List Int)} {A : List Int} (h : rgtB N A = true) (T : Txt) : lexCutB N A T = cutA N A T := if_pos h
theorem lexCutB_bad {N : List (List Int)} {A : List Int} (h : rgtB N A = false) (T : Txt) : lexCutB N A T = ([], [], 0) := if_neg (by rw [h]; simp)
theorem chnT_len {N : List (List Int)} {A : List Int} {T : Txt} {e : Nat} : ∀ {l : List Tk} {a : Nat}, ChnT N A T a l e → a + l.length ≤ e
  | [], a, h => by have h : a = e := h; rw [List.length_nil]; omega
  | t :: l, a, h => by have := chnT_len h.2.2.2.2; have := h.2.2.1; rw [List.length_cons]; omega
theorem lexCutB_few (N : List (List Int)) (A : List Int) (T : Txt) : (lexCutB N A T).1.length ≤ T.length ∧ (lexCutB N A T).2.1.length ≤ T.length := by
  unfold lexCutB
  split
  · obtain ⟨e, he, h1, h2, -⟩ := cutA_chn N A T
    have := chnT_len h1
    omega
  · exact ⟨Nat.zero_le _, Nat.zero_le _⟩
theorem CtM.nil {W0 w : World} (h : Below W0.heap.size W0 w) : CtM W0 w (.slice none 0 0) (.slice none 0 0) [] [] := ⟨World.ownsRow_nil _ _ _ _, World.ownsRow_nil _ _ _ _, fun k e => (by cases e), h⟩
set_option maxRecDepth 20000 in
theorem lexCutC (nv av : Value) (N : List (List Int)) (A : List Int) (s : Txt) (w : World) (hD : Dfa w nv av N A) (hl : N.length ≤ 9223372036854775807) (hs : s.length ≤ 100000) :
    Calls Tryz.prog 23 #[.agg #[nv, av], .string (strT s)] w fun e w' => ∃ tv sv, e = .returned (.tuple #[tv, sv, .int .i64 (lexCutB N A s).2.2]) ∧ CtM w w' tv sv (lexCutB N A s).1 (lexCutB N A s).2.1 := by
  cases h : rgtB N A with
  | false =>
    refine (lexCutBad nv av N A s w hD hl h).mono ?_
    rintro e w' ⟨rfl, hb⟩
    rw [lexCutB_bad h]
    exact ⟨_, _, rfl, CtM.nil hb⟩
  | true =>
    rw [lexCutB_good h]
    exact lexCutGood nv av N A s w hD (rgtA_of h) hs
theorem CtM.base {W W0 w : World} {tv sv : Value} {l : List Tk} {sn : List Nat} (h : CtM W0 w tv sv l sn) (hb : Below W.heap.size W W0) : CtM W w tv sv l sn := ⟨own_base h.tk hb.size, own_base h.se hb.size, h.off, bl_step hb h.low⟩
set_option maxRecDepth 20000 in
theorem lexAllC (nv av : Value) (N : List (List Int)) (A : List Int) (s : Txt) (w : World) (hD : Dfa w nv av N A) (hl : N.length ≤ 9223372036854775807) (hs : s.length ≤ 100000) :
    Calls Tryz.prog 11 #[.agg #[nv, av], .string (strT s)] w fun e w' => ∃ tv, e = .returned (.tuple #[tv, .int .i64 (lexCutB N A s).2.2]) ∧ OwnK w' w.heap.size tv (lexCutB N A s).1 ∧ Below w.heap.size w w' := by
  obtain ⟨⟨na, nc, rfl⟩, ⟨aa, ac, rfl⟩⟩ := hD.shape
  obtain ⟨W0, hW0⟩ : ∃ W0, w.alloc (.cells #[.slice na N.length nc, .slice aa A.length ac] 25) = W0 := ⟨_, rfl⟩
  have hb0 : Hid (Below w.heap.size w W0) := by rw [← hW0]; exact hid (al' w _)
  have hz0 : Hid (W0.heap[w.heap.size]? = some (.cells #[.slice na N.length nc, .slice aa A.length ac] 25)) := by rw [← hW0]; exact hid (heap_new w _)
  obtain ⟨d0, d1, -⟩ := cells2m hz0.out
  have GC := hid (lexCutC _ _ N A s W0 (hD.keep hb0.out) hl hs)
  generalize lexCutB N A s = R at *
  clear hD hl hs
  go_enter Tryz.func11, Tryz.ntmps11
  go_wp2_with (go_at_call 23; refine GC.out.mono ?_; clear GC; rintro e w2 ⟨tv, sv, rfl, hC⟩; have hC := hid hC)
  go_ret2
  exact ⟨_, rfl, (hC.out.base hb0.out).tk, (hC.out.base hb0.out).low⟩
set_option maxRecDepth 20000 in
theorem lexSeenC (nv av : Value) (N : List (List Int)) (A : List Int) (s : Txt) (w : World) (hD : Dfa w nv av N A) (hl : N.length ≤ 9223372036854775807) (hs : s.length ≤ 100000) :
    Calls Tryz.prog 15 #[.agg #[nv, av], .string (strT s)] w fun e w' => ∃ sv, e = .returned sv ∧ Own w' w.heap.size sv (snI (lexCutB N A s).2.1) ∧ Below w.heap.size w w' := by
  obtain ⟨⟨na, nc, rfl⟩, ⟨aa, ac, rfl⟩⟩ := hD.shape
  obtain ⟨W0, hW0⟩ : ∃ W0, w.alloc (.cells #[.slice na N.length nc, .slice aa A.length ac] 25) = W0 := ⟨_, rfl⟩
  have hb0 : Hid (Below w.heap.size w W0) := by rw [← hW0]; exact hid (al' w _)
  have hz0 : Hid (W0.heap[w.heap.size]? = some (.cells #[.slice na N.length nc, .slice aa A.length ac] 25)) := by rw [← hW0]; exact hid (heap_new w _)
  obtain ⟨d0, d1, -⟩ := cells2m hz0.out
  have GC := hid (lexCutC _ _ N A s W0 (hD.keep hb0.out) hl hs)
  generalize lexCutB N A s = R at *
  clear hD hl hs
  go_enter Tryz.func15, Tryz.ntmps15
  go_wp2_with (go_at_call 23; refine GC.out.mono ?_; clear GC; rintro e w2 ⟨tv, sv, rfl, hC⟩; have hC := hid hC)
  go_ret
  exact ⟨_, rfl, (hC.out.base hb0.out).se, (hC.out.base hb0.out).low⟩

/-- three cells stored into a block of three -/
theorem putT3 {u : World} {b t : Nat} {x y z : Value} (h : u.heap[b]? = some (.cells #[x, y, z] t (0, 0))) (v0 v1 v2 : Value) : (u.cell? ⟨b, 0, none⟩ = some x ∧ u.frozen? ⟨b, 0, none⟩ = false) ∧ ((u.setCell ⟨b, 0, none⟩ v0).cell? ⟨b, 1, none⟩ = some y ∧ (u.setCell ⟨b, 0, none⟩ v0).frozen? ⟨b, 1, none⟩ = false) ∧ (((u.setCell ⟨b, 0, none⟩ v0).setCell ⟨b, 1, none⟩ v1).cell? ⟨b, 2, none⟩ = some z ∧ ((u.setCell ⟨b, 0, none⟩ v0).setCell ⟨b, 1, none⟩ v1).frozen? ⟨b, 2, none⟩ = false) ∧ (((u.setCell ⟨b, 0, none⟩ v0).setCell ⟨b, 1, none⟩ v1).setCell ⟨b, 2, none⟩ v2).cell? ⟨b, 0, none⟩ = some v0 ∧ (((u.setCell ⟨b, 0, none⟩ v0).setCell ⟨b, 1, none⟩ v1).setCell ⟨b, 2, none⟩ v2).cell? ⟨b, 1, none⟩ = some v1 ∧ (((u.setCell ⟨b, 0, none⟩ v0).setCell ⟨b, 1, none⟩ v1).setCell ⟨b, 2, none⟩ v2).cell? ⟨b, 2, none⟩ = some v2 := by
  have s1 := set3_0 (v := v0) h
  have s2 := set3_1 (v := v1) s1
  have s3 := set3_2 (v := v2) s2
  exact ⟨(cells3m h).1, (cells3m s1).2.1, (cells3m s2).2.2, (cells3m s3).1.1, (cells3m s3).2.1.1, (cells3m s3).2.2.1⟩
theorem belowT3 {W0 W1 u : World} (h0 : Below W0.heap.size W0 W1) (h : Below W1.heap.size W1 u) (v0 v1 v2 : Value) : Below W0.heap.size W0 (((u.setCell ⟨W0.heap.size, 0, none⟩ v0).setCell ⟨W0.heap.size, 1, none⟩ v1).setCell ⟨W0.heap.size, 2, none⟩ v2) := bl_set (bl_set (bl_set (bl_step h0 h) _ _ _ (Nat.le_refl _)) _ _ _ (Nat.le_refl _)) _ _ _ (Nat.le_refl _)
/-- what One answers: a token, what was seen, an error -/
def lexOneB (N : List (List Int)) (A : List Int) (s : Txt) (a : Int) : (Int × Int × Int) × Int × Int :=
  if rgtB N A = false ∨ a < 0 ∨ (s.length : Int) < a then ((0, 0, 0), 0, 10)
  else if (lngR N A (s.drop a.toNat)).1.2 = 0 then ((0, 0, 0), ((a.toNat + (lngR N A (s.drop a.toNat)).2 : Nat) : Int), 4)
  else (((lngR N A (s.drop a.toNat)).1.1, a, ((lngR N A (s.drop a.toNat)).1.2 : Int)), ((a.toNat + (lngR N A (s.drop a.toNat)).2 : Nat) : Int), 0)
set_option maxRecDepth 20000 in
set_option maxHeartbeats 4000000 in
theorem lexOneC (nv av : Value) (N : List (List Int)) (A : List Int) (s : Txt) (a : Int) (w : World) (hD : Dfa w nv av N A) (hl : N.length ≤ 9223372036854775807) (hs : s.length ≤ 100000) :
    Calls Tryz.prog 8 #[.agg #[nv, av], .string (strT s), .int .i64 a] w fun e w' => e = .returned (.tuple #[.agg #[.int .i64 (lexOneB N A s a).1.1, .int .i64 (lexOneB N A s a).1.2.1, .int .i64 (lexOneB N A s a).1.2.2], .int .i64 (lexOneB N A s a).2.1, .int .i64 (lexOneB N A s a).2.2]) ∧ Below w.heap.size w w' := by
  obtain ⟨⟨na, nc, rfl⟩, ⟨aa, ac, rfl⟩⟩ := hD.shape
  obtain ⟨W0, hW0⟩ : ∃ W0, w.alloc (.cells #[.slice na N.length nc, .slice aa A.length ac] 25) = W0 := ⟨_, rfl⟩
  have hb0 : Hid (Below w.heap.size w W0) := by rw [← hW0]; exact hid (al' w _)
  have hz0 : Hid (W0.heap[w.heap.size]? = some (.cells #[.slice na N.length nc, .slice aa A.length ac] 25)) := by rw [← hW0]; exact hid (heap_new w _)
  obtain ⟨W1, hW1⟩ : ∃ x, W0.alloc (.cells #[.int .i64 0, .int .i64 0, .int .i64 0] 28) = x := ⟨_, rfl⟩
  have hb1 : Hid (Below W0.heap.size W0 W1) := by rw [← hW1]; exact hid (al' W0 _)
  have hz1 : Hid (W1.heap[W0.heap.size]? = some (.cells #[.int .i64 0, .int .i64 0, .int .i64 0] 28)) := by rw [← hW1]; exact hid (heap_new W0 _)
  have hD1 := hid ((hD.keep hb0.out).keep hb1.out)
  have hbx : Hid (∀ u, Below W1.heap.size W1 u → u.cell? ⟨w.heap.size, 0, none⟩ = some (.slice na N.length nc) ∧ u.cell? ⟨w.heap.size, 1, none⟩ = some (.slice aa A.length ac)) := hid (fun u hu => by
    obtain ⟨d0, d1, -⟩ := cells2m (hs_keep (hs_keep hz0.out hb1.out) hu)
    exact ⟨d0, d1⟩)
  have GR := hid (rightA _ _ N A W1 hD1.out hl)
  obtain ⟨c0, c1⟩ := hbx.out W1 (Below.refl _ _)
  have hsz := strT_size s
  clear hD
  cases h1 : rgtB N A with
  | false =>
    rw [h1] at GR
    have e9 : lexOneB N A s a = ((0, 0, 0), 0, 10) := if_pos (Or.inl h1)
    rw [e9]
    clear h1 e9
    go_enter Tryz.func8, Tryz.ntmps8
    go_wp2_with (go_at_call 20; refine GR.out.mono ?_; clear GR; rintro e w2 ⟨rfl, hb2⟩; have hb2 := hid hb2; obtain ⟨⟨r0, r1⟩, ⟨r2, r3⟩, ⟨r4, r5⟩, v0, v1, v2⟩ := putT3 (hs_keep hz1.out hb2.out) (.int .i64 0) (.int .i64 0) (.int .i64 0))
    exact bodyPost_ret (v := .tuple #[.agg #[.int .i64 0, .int .i64 0, .int .i64 0], .int .i64 0, .int .i64 10]) (by simp [results, Tryz.results8, go_sem, v0, v1, v2]) rfl ⟨rfl, bl_step hb0.out (belowT3 hb1.out hb2.out _ _ _)⟩
  | true =>
    rw [h1] at GR
    by_cases h2 : a < 0 ∨ (s.length : Int) < a
    · have e9 : lexOneB N A s a = ((0, 0, 0), 0, 10) := if_pos (Or.inr h2)
      rw [e9]
      rcases h2 with h2 | h2
      · clear h1 e9
        go_enter Tryz.func8, Tryz.ntmps8
        go_wp2_with (go_at_call 20; refine GR.out.mono ?_; clear GR; rintro e w2 ⟨rfl, hb2⟩; have hb2 := hid hb2; obtain ⟨⟨r0, r1⟩, ⟨r2, r3⟩, ⟨r4, r5⟩, v0, v1, v2⟩ := putT3 (hs_keep hz1.out hb2.out) (.int .i64 0) (.int .i64 0) (.int .i64 0))
        exact bodyPost_ret (v := .tuple #[.agg #[.int .i64 0, .int .i64 0, .int .i64 0], .int .i64 0, .int .i64 10]) (by simp [results, Tryz.results8, go_sem, v0, v1, v2]) rfl ⟨rfl, bl_step hb0.out (belowT3 hb1.out hb2.out _ _ _)⟩
      · have h3 : ¬ a < 0 := by omega
        clear h1 e9
        go_enter Tryz.func8, Tryz.ntmps8
        go_wp2_with (go_at_call 20; refine GR.out.mono ?_; clear GR; rintro e w2 ⟨rfl, hb2⟩; have hb2 := hid hb2; obtain ⟨⟨r0, r1⟩, ⟨r2, r3⟩, ⟨r4, r5⟩, v0, v1, v2⟩ := putT3 (hs_keep hz1.out hb2.out) (.int .i64 0) (.int .i64 0) (.int .i64 0))
        exact bodyPost_ret (v := .tuple #[.agg #[.int .i64 0, .int .i64 0, .int .i64 0], .int .i64 0, .int .i64 10]) (by simp [results, Tryz.results8, go_sem, v0, v1, v2]) rfl ⟨rfl, bl_step hb0.out (belowT3 hb1.out hb2.out _ _ _)⟩
    · have h3 : ¬ a < 0 := fun h => h2 (Or.inl h)
      have h4 : ¬ (s.length : Int) < a := fun h => h2 (Or.inr h)
      obtain ⟨k, rfl⟩ : ∃ k : Nat, a = (k : Int) := ⟨a.toNat, by omega⟩
      have e9 : lexOneB N A s (k : Int) = if (lngR N A (s.drop k)).1.2 = 0 then ((0, 0, 0), ((k + (lngR N A (s.drop k)).2 : Nat) : Int), 4) else (((lngR N A (s.drop k)).1.1, (k : Int), ((lngR N A (s.drop k)).1.2 : Int)), ((k + (lngR N A (s.drop k)).2 : Nat) : Int), 0) := by
        unfold lexOneB
        rw [if_neg (fun h => h.elim (fun h => by rw [h1] at h; cases h) h2), Int.toNat_natCast]
      rw [e9]
      have GL := hid (fun u (hu : Below W1.heap.size W1 u) => longestC _ _ N A s k u (hD1.out.keep hu) (rgtA_of h1) (by omega) (by omega))
      unfold tkC tkI at GL
      clear h1 h2 e9
      generalize lngR N A (s.drop k) = R at *
      obtain ⟨⟨mr, ml⟩, se⟩ := R
      obtain ⟨q, hq⟩ : ∃ x : Nat, k + se = x := ⟨_, rfl⟩
      by_cases hz : ml = 0
      · subst hz
        rw [if_pos rfl]
        rw [if_pos rfl] at GL
        dsimp only at GL ⊢
        rw [hq] at GL ⊢
        go_enter Tryz.func8, Tryz.ntmps8
        go_wp2_with (first
          | (go_at_call 20; refine GR.out.mono ?_; clear GR; rintro e w2 ⟨rfl, hb2⟩; have hb2 := hid hb2; obtain ⟨d0, d1⟩ := hbx.out w2 hb2.out)
          | (go_at_call 21; refine (GL.out w2 hb2.out).mono ?_; clear GL; rintro e w3 ⟨rfl, hb3⟩; have hb3 := hid (bl_step (bl_step hb2.out hb3) (al' w3 (.cells #[.int .i64 mr, .int .i64 0, .int .i64 0] 28))); obtain ⟨⟨x0, -⟩, ⟨x1, -⟩, ⟨x2, -⟩⟩ := cells3m (heap_new w3 (.cells #[.int .i64 mr, .int .i64 0, .int .i64 0] 28)); obtain ⟨⟨r0, r1⟩, ⟨r2, r3⟩, ⟨r4, r5⟩, v0, v1, v2⟩ := putT3 (hs_keep hz1.out hb3.out) (.int .i64 0) (.int .i64 0) (.int .i64 0)))
        exact bodyPost_ret (v := .tuple #[.agg #[.int .i64 0, .int .i64 0, .int .i64 0], .int .i64 (q : Int), .int .i64 4]) (by simp [results, Tryz.results8, go_sem, v0, v1, v2]) rfl ⟨rfl, bl_step hb0.out (belowT3 hb1.out hb3.out _ _ _)⟩
      · rw [if_neg hz]
        have hmz : ((ml : Int) == 0) = false := by rw [beq_eq_false_iff_ne]; omega
        rw [if_neg hz] at GL
        dsimp only at GL ⊢
        rw [hq] at GL ⊢
        go_enter Tryz.func8, Tryz.ntmps8
        go_wp2_with (first
          | (go_at_call 20; refine GR.out.mono ?_; clear GR; rintro e w2 ⟨rfl, hb2⟩; have hb2 := hid hb2; obtain ⟨d0, d1⟩ := hbx.out w2 hb2.out)
          | (go_at_call 21; refine (GL.out w2 hb2.out).mono ?_; clear GL; rintro e w3 ⟨rfl, hb3⟩; have hb3 := hid (bl_step (bl_step hb2.out hb3) (al' w3 (.cells #[.int .i64 mr, .int .i64 (k : Int), .int .i64 (ml : Int)] 28))); obtain ⟨⟨x0, -⟩, ⟨x1, -⟩, ⟨x2, -⟩⟩ := cells3m (heap_new w3 (.cells #[.int .i64 mr, .int .i64 (k : Int), .int .i64 (ml : Int)] 28)); obtain ⟨⟨r0, r1⟩, ⟨r2, r3⟩, ⟨r4, r5⟩, v0, v1, v2⟩ := putT3 (hs_keep hz1.out hb3.out) (.int .i64 mr) (.int .i64 (k : Int)) (.int .i64 (ml : Int))))
        exact bodyPost_ret (v := .tuple #[.agg #[.int .i64 mr, .int .i64 (k : Int), .int .i64 (ml : Int)], .int .i64 (q : Int), .int .i64 0]) (by simp [results, Tryz.results8, go_sem, v0, v1, v2]) rfl ⟨rfl, bl_step hb0.out (belowT3 hb1.out hb3.out _ _ _)⟩

end Go.Proofs.YtonlcnmlklaicaaGreatDoor
