/- dfa.rowOf. sets.Has; append in a region that draws its order; (*dfa.places).add. (*dfa.places).add. -/
import Derived.Test.YtjelgphhlcecoaaGreatDoorJ37
import Derived.Test.YtjelgphhlcecoaaGreatDoorJ36
import Derived.Test.YtjelgphhlcecoaaGreatDoorShelf
import Derived.Test.YtjelgphhlcecoaaGreatDoorJ21
import Derived.Test.YtjelgphhlcecoaaGreatDoorJ24
import Derived.Deep.RegionHeld3
import Derived.Deep.AppendLies
import Derived.Deep.RegionLaw
namespace Go.Proofs.YtjelgphhlcecoaaGreatDoor
open Go.RowKit

theorem wrap_u8 {b : Nat} (h : b < 256) : IntKind.u8.wrap (b : Int) = (b : Int) := by
  simp [IntKind.wrap, IntKind.signed, IntKind.bits]
  omega
/-- what rowOf answers and leaves -/
def RowRes (B mb mm : Nat) (F : Nat → Prop) (w w' : World) (L : List Txt) (rv : Value) (row : List Int) : Prop := Own w' w.heap.size rv row ∧ ∃ F' tv', MeO B mb F' w' tv' mm L ∧ Mvd F F' w w' ∧ Off F' rv
set_option maxRecDepth 20000 in
theorem make256 (w : World) : (Instr.makeSlice 23 (.int .i64 256) (.int .i64 256)).run Tryz.prog w = .ok (.slice (some ⟨w.heap.size, 0, none⟩) 256 256) (w.alloc (.cells (madeCells #[.int .i64 0] 256) 3)) :=
  run_make_row' (P := Tryz.prog) 23 3 (.int .i64 0) 8 Tryz.underlying23 Tryz.info3 rfl .i64 .i64 256 (by omega) (by omega) w
set_option maxRecDepth 20000 in
set_option maxHeartbeats 4000000 in
theorem rowOfW {mets : Nat → List St} {rows : Nat → List Int → Prop} {P : Nat → W4} {r : Nat → Nat} {to : Nat → St} {m : Nat} {S0 : List St} {q : List St × List Int} (Q : RowQ mets rows P r to m S0 q)
    (tx : St → Txt) (T0 : Txt) (e : Int) (sa ba fa pa : Option Addr) (sn sc bn bc fn fc pc : Nat) (tv : Value) (B mb mm n : Nat) (F : Nat → Prop) (w0 w : World) (h0 : Below w0.heap.size w0 w)
    (GB : ∀ k, k < m → ∀ u, Below w0.heap.size w0 u → Calls Tryz.prog 55 #[.agg #[.int .i64 e, .slice sa sn sc, .slice ba bn bc, .slice fa fn fc], .string (strT T0), .int .u8 (r k : Int)] u fun z w' => z = .returned (.tuple #[.string (strT (tx (to k))), .bool (!decide (to k = []))]) ∧ Below u.heap.size u w')
    (GL : ∀ a0 a1 a2 a3 u, Fit4 ⟨a0, a1, a2, a3⟩ → Below w0.heap.size w0 u → Calls Tryz.prog 54 #[valB ⟨a0, a1, a2, a3⟩] u fun e w' => e = .returned (.int .i64 (leastB ⟨a0, a1, a2, a3⟩)) ∧ Below u.heap.size u w')
    (GN : ∀ k F' tv' u, k < m → to k ≠ [] → MeO B mb F' u tv' mm ((mets k).map tx) → Calls Tryz.prog 41 #[.pointer (some ⟨mb, 0, none⟩), .string (strT (tx (to k)))] u fun e w' => ∃ nx : Int, e = .returned (.int .i64 nx) ∧ RowOK (mets (k + 1)) (to k) nx ∧ ∃ F'' tv'', MeO B mb F'' w' tv'' mm ((mets (k + 1)).map tx) ∧ Mvd F' F'' u w' ∧ (∀ k, F' k → F'' k))
    (hM : MeO B mb F w tv mm (S0.map tx)) (hF0 : ∀ k, F k → w0.heap.size ≤ k) (hn : (S0.map tx)[n]? = some T0) (_hS0 : S0.length ≤ 240)
    (hP : ∀ k, k < m → ∃ b o, pa = some ⟨b, o, none⟩ ∧ b < w.heap.size ∧ ¬ F b ∧ At4 w b (o + k * 4) (P k)) :
    Calls Tryz.prog 44 #[.agg #[.int .i64 e, .slice sa sn sc, .slice ba bn bc, .slice fa fn fc], .pointer (some ⟨mb, 0, none⟩), .int .i64 (n : Int), .slice pa m pc] w fun z w' => ∃ rv, z = .returned rv ∧ RowRes B mb mm F w w' (q.1.map tx) rv q.2 := by
  have hm := Q.m256
  have hmk := make256
  obtain ⟨W0, hW0⟩ : ∃ W0, W0 = w.alloc (.cells #[.int .i64 e, .slice sa sn sc, .slice ba bn bc, .slice fa fn fc] 76) := ⟨_, rfl⟩
  have hb0 : Below w.heap.size w W0 := by rw [hW0]; exact al' w _
  have hs0 : W0.heap.size = w.heap.size + 1 := by rw [hW0]; simp
  have hq0 : W0.heap[w.heap.size]? = some (.cells #[.int .i64 e, .slice sa sn sc, .slice ba bn bc, .slice fa fn fc] 76) := by rw [hW0]; exact heap_new w _
  have hO0 := made_ints W0 256 (by omega)
  have hb1 := al' W0 (.cells (madeCells #[.int .i64 0] 256) 3)
  obtain ⟨W1, hW1⟩ : ∃ W1, W1 = W0.alloc (.cells (madeCells #[.int .i64 0] 256) 3) := ⟨_, rfl⟩
  have hs1 : W1.heap.size = w.heap.size + 2 := by rw [hW1]; simp [hs0]
  rw [← hW1] at hO0 hb1
  rw [hs0] at hO0
  have hbW : Hid (Below w.heap.size w W1) := hid (bl_step hb0 hb1)
  have hq1 := hid (hs_keep hq0 hb1)
  have hM1 := hid (hM.keep hbW.out)
  have hFlt := hid hM.lt
  have hs1' := hid hs1
  have hO0' := hid hO0
  have hP' : Hid (∀ k, k < m → ∃ b o, pa = some ⟨b, o, none⟩ ∧ b < w.heap.size ∧ ¬ F b ∧ At4 W1 b (o + k * 4) (P k)) := hid (fun k hk => by
    obtain ⟨b, o, h1, h2, h3, h4⟩ := hP k hk
    exact ⟨b, o, h1, h2, h3, h4.keep hbW.out⟩)
  have h0' := hid h0
  have GB' := hid GB
  have GL' := hid GL
  have GN' := hid GN
  have hF0' := hid hF0
  have hT' : Hid (∀ k, ((mets k).map tx)[n]? = some T0) := hid (fun k => by
    obtain ⟨U, hU⟩ := Q.pre k
    have hnl : n < (S0.map tx).length := by
      rcases Nat.lt_or_ge n (S0.map tx).length with h | h
      · exact h
      · rw [List.getElem?_eq_none h] at hn; cases hn
    rw [hU, List.map_append, List.getElem?_append_left hnl, hn])
  have hnl : Hid (∀ k, n < ((mets k).map tx).length) := hid (fun k => by
    rcases Nat.lt_or_ge n ((mets k).map tx).length with h | h
    · exact h
    · have := hT'.out k
      rw [List.getElem?_eq_none h] at this
      cases this)
  have hwS : Hid (w0.heap.size ≤ w.heap.size) := hid h0.size
  have hQ := hid Q
  rw [← Q.zero] at hM1
  have hr0 := hid Q.row0
  clear Q hM hF0 hn hP h0 GB GL GN hb0 hb1 hq0 hO0 hs1 hs0
  go_enter Tryz.func44, Tryz.ntmps44
  go_wp2
  clear hmk
  rw [← hW0, ← hW1]
  clear hW0 hW1 W0
  go_loopw [19] (fun i wr => ∃ (k : Nat) (rw : List Int) (F' : Nat → Prop) (tv' : Value), k ≤ m ∧ i = .int .i64 k ∧ Hid (rows k rw) ∧ Hid (Own wr (w.heap.size + 1) (.slice (some ⟨w.heap.size + 1, 0, none⟩) 256 256) rw) ∧ Hid (MeO B mb F' wr tv' mm ((mets k).map tx)) ∧ Hid (∀ k, F' k → F k ∨ W1.heap.size ≤ k) ∧ Kept (fun k => F k ∨ k = w.heap.size + 1) W1 wr) (fun i _ => m - (intOf i).toNat)
  case atStart => exact ⟨0, _, F, tv, Nat.zero_le _, rfl, hr0, hO0', hM1, hid (fun k h => Or.inl h), Kept.refl _ _⟩
  case round =>
    obtain ⟨k, rw, F', tv', hk, rfl, hrow, hO, hMe, hF', hkp⟩ := hrel
    have hkp' := hid hkp
    have hsz1 := hkp.size
    have hnF : Hid (∀ j, j < W1.heap.size → ¬ F j → ¬ F' j) := hid (fun j hj hf h => by
      rcases hF'.out j h with h' | h'
      · exact hf h'
      · omega)
    have hFw : Hid (∀ j, F j → j < w.heap.size) := hFlt
    have h0r : Hid (Below w0.heap.size w0 wr) := hid (((h0'.out.trans (hbW.out.mono hwS.out))).trans (hkp.below (fun j hj => by
      rcases hj with hj | hj
      · exact hF0'.out j hj
      · have := hwS.out; omega) (by have := hwS.out; have := hs1'.out; omega)))
    by_cases hlt : k < m
    · have hltz : (k : Int) < (m : Int) := by omega
      obtain ⟨b1, o1, rfl, hb1, hnb, hat⟩ := hP'.out k hlt
      have hb1W : b1 < W1.heap.size := by have := hs1'.out; omega
      have hnb' : ¬ (F b1 ∨ b1 = w.heap.size + 1) := fun h => by
        rcases h with h | h
        · exact hnb h
        · omega
      obtain ⟨z0, z1, z2, z3⟩ := hat
      have y0 := hkp.cell z0 hb1W hnb'
      have y1 := hkp.cell z1 hb1W hnb'
      have y2 := hkp.cell z2 hb1W hnb'
      have y3 := hkp.cell z3 hb1W hnb'
      clear z0 z1 z2 z3
      have hfit := hQ.out.fit k hlt
      have hlst := hQ.out.least k hlt
      have hstep := hid (fun nx => hQ.out.step k rw nx hlt hrow.out)
      have hsucc := hid (hQ.out.succ k hlt)
      have hlen := hid (hQ.out.len k rw hrow.out)
      have GBk := hid (GB'.out k hlt)
      obtain ⟨lv, hlv⟩ : ∃ lv : Bool, Hid (lv = !decide (to k = [])) := ⟨_, hid rfl⟩
      rw [← hlv.out] at GBk
      have GNk := hid (fun tv' u => GN'.out k F' tv' u hlt)
      generalize P k = Pk at y0 y1 y2 y3 hfit hlst hstep
      obtain ⟨pa, pb, pc', pd⟩ := Pk
      simp only at y0 y1 y2 y3
      have GLk := hid (fun u => GL'.out pa pb pc' pd u hfit)
      rw [hlst.2] at GLk
      have hr256 := hlst.1
      have hwrap := wrap_u8 hr256
      generalize r k = rk at GBk GLk hr256 hwrap
      clear hlst
      have hGH : Hid (∀ b u, b < 256 → Calls Tryz.prog 56 #[valB ⟨pa, pb, pc', pd⟩, .int .u8 ((b : Nat) : Int)] u fun e w' => e = .returned (.bool (hasB ⟨pa, pb, pc', pd⟩ b)) ∧ Below u.heap.size u w') := hid (fun b u hb => hasC' pa pb pc' pd b u hfit hb)
      -- the set's own block
      have hal := hid (al' wr (.cells #[.int .u64 (pa : Int), .int .u64 (pb : Int), .int .u64 (pc' : Int), .int .u64 (pd : Int)] 97))
      have hsb := hid (heap_new wr (.cells #[.int .u64 (pa : Int), .int .u64 (pb : Int), .int .u64 (pc' : Int), .int .u64 (pd : Int)] 97))
      have hpb : Hid ((wr.alloc (.cells #[.int .u64 (pa : Int), .int .u64 (pb : Int), .int .u64 (pc' : Int), .int .u64 (pd : Int)] 97)).heap[w.heap.size]? = some (.cells #[.int .i64 e, .slice sa sn sc, .slice ba bn bc, .slice fa fn fc] 76)) := hid (hs_keep (hkp.blk hq1.out (fun h => by
        rcases h with h | h
        · have := hFw.out _ h; omega
        · omega)) hal.out)
      have hM2 := hid (hMe.out.keep hal.out)
      obtain ⟨g, c, rfl, hgb, hgl, hgc⟩ := ownStr_at hM2.out.row (hT'.out k)
      have hnlk := hnl.out k
      have hnz : (n : Int) < (((mets k).map tx).length : Int) := by omega
      have hsW2 : wr.heap.size < (wr.alloc (.cells #[.int .u64 (pa : Int), .int .u64 (pb : Int), .int .u64 (pc' : Int), .int .u64 (pd : Int)] 97)).heap.size := by simp
      generalize hnlen : ((mets k).map tx).length = nl at *
      have hcells : Hid (∀ u, Below (wr.alloc (.cells #[.int .u64 (pa : Int), .int .u64 (pb : Int), .int .u64 (pc' : Int), .int .u64 (pd : Int)] 97)).heap.size (wr.alloc (.cells #[.int .u64 (pa : Int), .int .u64 (pb : Int), .int .u64 (pc' : Int), .int .u64 (pd : Int)] 97)) u →
          ((u.cell? ⟨w.heap.size, 0, none⟩ = some (.int .i64 e) ∧ u.cell? ⟨w.heap.size, 1, none⟩ = some (.slice sa sn sc) ∧ u.cell? ⟨w.heap.size, 2, none⟩ = some (.slice ba bn bc) ∧ u.cell? ⟨w.heap.size, 3, none⟩ = some (.slice fa fn fc)) ∧ u.cell? ⟨mb, 0, none⟩ = some (.slice (some ⟨g, 0, none⟩) nl c) ∧ u.cell? ⟨g, n, none⟩ = some (.string (strT T0)) ∧
          (u.cell? ⟨wr.heap.size, 0, none⟩ = some (.int .u64 (pa : Int)) ∧ u.cell? ⟨wr.heap.size, 1, none⟩ = some (.int .u64 (pb : Int)) ∧ u.cell? ⟨wr.heap.size, 2, none⟩ = some (.int .u64 (pc' : Int)) ∧ u.cell? ⟨wr.heap.size, 3, none⟩ = some (.int .u64 (pd : Int))))) := hid (fun u hu => by
        obtain ⟨a0, a1, a2, a3, -⟩ := cells4p (hs_keep hpb.out hu)
        obtain ⟨e0, -⟩ := cells2m (hs_keep hM2.out.blk hu)
        obtain ⟨s0, s1, s2, s3, -⟩ := cells4p (hs_keep hsb.out hu)
        exact ⟨⟨a0, a1, a2, a3⟩, e0, keep_cell hu hgc, s0, s1, s2, s3⟩)
      have h0u := hid (bl_step h0r.out hal.out)
      clear hgc hM2
      have hMk := hid (fun u (hu : Below wr.heap.size wr u) => hMe.out.keep hu)
      have hOk := hid (fun u (hu : Below wr.heap.size wr u) => own_below hO.out hu)
      go_wp2_with fail
      clear y0 y1 y2 y3
      generalize hW2 : wr.alloc (.cells #[.int .u64 (pa : Int), .int .u64 (pb : Int), .int .u64 (pc' : Int), .int .u64 (pd : Int)] 97) = W2 at *
      obtain ⟨⟨a0, a1, a2, a3⟩, c0, c1, s0, s1, s2, s3⟩ := hcells.out W2.drew (Below.refl _ _).drew
      go_region_held3 (fun w' => (w'.cell? ⟨w.heap.size, 0, none⟩ = some (.int .i64 e) ∧ w'.cell? ⟨w.heap.size, 1, none⟩ = some (.slice sa sn sc) ∧ w'.cell? ⟨w.heap.size, 2, none⟩ = some (.slice ba bn bc) ∧ w'.cell? ⟨w.heap.size, 3, none⟩ = some (.slice fa fn fc)) ∧ w'.cell? ⟨mb, 0, none⟩ = some (.slice (some ⟨g, 0, none⟩) nl c) ∧ w'.cell? ⟨g, n, none⟩ = some (.string (strT T0)) ∧
          (w'.cell? ⟨wr.heap.size, 0, none⟩ = some (.int .u64 (pa : Int)) ∧ w'.cell? ⟨wr.heap.size, 1, none⟩ = some (.int .u64 (pb : Int)) ∧ w'.cell? ⟨wr.heap.size, 2, none⟩ = some (.int .u64 (pc' : Int)) ∧ w'.cell? ⟨wr.heap.size, 3, none⟩ = some (.int .u64 (pd : Int))))
        (go_keep)
        ((first
          | (go_at_call 54; refine (GLk.out _ (bl_step h0u.out (Below.refl _ _).drew)).mono ?_; rintro e' w3 ⟨rfl, hb3⟩; have hb3' : Below W2.heap.size W2 w3 := bl_step (Below.refl _ _).drew hb3; obtain ⟨⟨b0, b1', b2, b3⟩, d0, d1, t0, t1, t2, t3⟩ := hcells.out w3 hb3')
          | (go_at_call 55; refine (GBk.out _ (bl_step h0u.out hb3')).mono ?_; rintro e' w4 ⟨rfl, hb4⟩; have hb4' : Below W2.heap.size W2 w4 := bl_step hb3' hb4; obtain ⟨⟨f0, f1, f2, f3⟩, g0, g1, v0, v1, v2, v3⟩ := hcells.out w4 hb4')))
      have hrbF : Hid (¬ F' (w.heap.size + 1)) := hid (fun h => by
        rcases hF'.out _ h with h' | h'
        · have := hFw.out _ h'; omega
        · have := hs1'.out; omega)
      have hsbF : Hid (¬ F' wr.heap.size) := hid (fun h => by have := hMe.out.lt _ h; omega)
      have hb4w : Hid (Below wr.heap.size wr w4) := hid (bl_step hal.out hb4')
      have hset4 := hid (hs_keep hsb.out hb4')
      have hwrs : w.heap.size + 1 < wr.heap.size := by have := hs1'.out; omega
      clear a0 a1 a2 a3 c0 c1 s0 s1 s2 s3 b0 b1' b2 b3 d0 d1 t0 t1 t2 t3 f0 f1 f2 f3 g0 g1 v0 v1 v2 v3 hcells hb3 hb3' hb4
      by_cases hto : to k = []
      · have hok : Hid (RowOK (mets (k + 1)) (to k) (-1)) := hid (Or.inl ⟨hto, rfl⟩)
        have hOn := hid (hOk.out w4 hb4w.out)
        have hset := hset4
        have hsne : Hid (¬ wr.heap.size = w.heap.size + 1) := hid (by omega)
        have hMn : Hid (MeO B mb F' w4 (.slice (some ⟨g, 0, none⟩) nl c) mm ((mets (k + 1)).map tx)) := hid (by rw [hsucc.out, hto, metS_nil]; exact hMk.out w4 hb4w.out)
        have hFrb : Hid (∀ j, F' j → ¬ j = w.heap.size + 1) := hid (fun j hj e0 => hrbF.out (by rw [← e0]; exact hj))
        have hFn := hF'
        have hkn : Hid (Kept (fun k => F k ∨ k = w.heap.size + 1) W1 w4) := hid (hkp'.out.step (Kept.of_below hb4w.out (F := noBlk)) (fun _ _ h => h.elim))
        have hlv' : lv = false := by rw [hlv.out, hto]; rfl
        clear hlv hto
        subst hlv'
        go_wp2
        generalize (-1 : Int) = nx at hok ⊢

        obtain ⟨wo, hwo⟩ : ∃ x, x = wr := ⟨_, rfl⟩
        subst hwo
        have hput := hid (fun c (hc : c < 256) => putB8_yes (P := ⟨pa, pb, pc', pd⟩) (nx := nx) (rw := rw) hc)
        have hnop := hid (fun c => putB8_no (P := ⟨pa, pb, pc', pd⟩) (nx := nx) (rw := rw) (c := c))
        have hz0 := hid (putB8_zero ⟨pa, pb, pc', pd⟩ nx hlen.out)
        have hpl := hid (fun c => putB8_len ⟨pa, pb, pc', pd⟩ nx rw c)
        have hrow2 := hid (hstep.out nx hok.out)
        generalize hpc : putB8 ⟨pa, pb, pc', pd⟩ nx rw = X at hput hnop hz0 hpl hrow2
        clear hpc
        go_loopw [44] (fun i wr2 => ∃ b : Nat, b ≤ 256 ∧ i = .int .i64 b ∧ Hid (Own wr2 (w.heap.size + 1) (.slice (some ⟨w.heap.size + 1, 0, none⟩) 256 256) (X b)) ∧ Kept (fun k => k = w.heap.size + 1) w4 wr2) (fun i _ => 256 - (intOf i).toNat)
        case atStart => exact ⟨0, Nat.zero_le _, rfl, hid (by rw [hz0.out]; exact hOn.out), Kept.refl _ _⟩
        case round =>
          obtain ⟨b, hb, rfl, hO2, hk2⟩ := hrel
          by_cases hbl : b < 256
          · have hbz : (b : Int) < 256 := by omega
            have hbw := wrap_u8 hbl
            obtain ⟨x0, x1, x2, x3, -⟩ := cells4p (hk2.blk hset.out hsne.out)
            have G1 := hid (fun u => hGH.out b u hbl)
            have hyes := hid (hput.out b hbl)
            have hno := hid (hnop.out b)
            generalize hasB ⟨pa, pb, pc', pd⟩ b = hv at G1 hyes hno
            have hxl : b < (X b).length := by rw [hpl.out]; exact hbl
            cases hv with
            | false =>
              have hX := hid (hno.out rfl)
              go_wp2_with (go_at_call 56; refine (G1.out _).mono ?_; rintro e' w6 ⟨rfl, hb6⟩)
              go_roundw
              case rel => exact ⟨b + 1, by omega, by go_num, hid (by rw [hX.out]; exact own_below hO2.out hb6), hk2.step (Kept.of_below hb6 (F := noBlk)) (fun _ _ h => h.elim)⟩
              case measure => simp [intOf]; omega
            | true =>
              have hX := hid (hyes.out rfl)
              have hbr := hk2.size
              go_wp2_with (go_at_call 56; refine (G1.out _).mono ?_; rintro e' w6 ⟨rfl, hb6⟩; have hO6 := hid (own_below hO2.out hb6); have i0 := own_num_at hO6.out hxl; have i1 := own_num_free hO6.out (hpl.out b).symm b; have hO7 := hid (own_num_put (k := b) nx hO6.out (hpl.out b).symm))
              go_roundw
              case rel => exact ⟨b + 1, by omega, by go_num, hid (by rw [hX.out]; exact hO7.out), (hk2.step (Kept.of_below hb6 (F := noBlk)) (fun _ _ h => h.elim)).setCell (fun _ => rfl)⟩
              case measure => simp [intOf]; omega
          · have hbz : ¬ (b : Int) < 256 := by omega
            obtain rfl : b = 256 := by omega
            have hMz := hid (MeO.kept hMn.out hk2 (fun j hj e0 => hFrb.out j hj e0))
            have hkz : Hid (Kept (fun k => F k ∨ k = w.heap.size + 1) W1 wr) := hid (hkn.out.step hk2 (fun j _ h => Or.inr h))
            go_wp2
            go_roundw
            case rel => exact ⟨k + 1, _, _, _, by omega, by go_num, hrow2, hO2, hMz, hFn, hkz.out⟩
            case measure => simp [intOf]; omega
      · have hlv' : lv = true := by rw [hlv.out, decide_eq_false hto]; rfl
        clear hlv
        subst hlv'
        have G5 := hid (GNk.out _ w4 hto (hMk.out w4 hb4w.out))
        go_wp2_with (go_at_call 41; refine G5.out.mono ?_; rintro e' w5 ⟨nx, rfl, hok, hnew⟩; have hok := hid hok; have hnew := hid hnew)
        obtain ⟨F5, tv5, hM5, hv5, -⟩ := hnew.out
        have hOn : Hid (Own w5 (w.heap.size + 1) (.slice (some ⟨w.heap.size + 1, 0, none⟩) 256 256) rw) := hid (own_kept (hOk.out w4 hb4w.out) hv5.kept (fun j e0 hf => hrbF.out (by have e1 : w.heap.size + 1 = j := (by injection e0); rw [e1]; exact hf)))
        have hset := hid (hv5.kept.blk hset4.out hsbF.out)
        have hsne : Hid (¬ wr.heap.size = w.heap.size + 1) := hid (by omega)
        have hMn := hid hM5
        have hFrb : Hid (∀ j, F5 j → ¬ j = w.heap.size + 1) := hid (fun j hj e0 => by
          rcases hv5.new j hj with h | h
          · exact hrbF.out (by rw [← e0]; exact h)
          · have := hb4w.out.size; omega)
        have hFn : Hid (∀ j, F5 j → F j ∨ W1.heap.size ≤ j) := hid (fun j hj => by
          rcases hv5.new j hj with h | h
          · exact hF'.out j h
          · exact Or.inr (by have := hb4w.out.size; omega))
        have hkn : Hid (Kept (fun k => F k ∨ k = w.heap.size + 1) W1 w5) := hid ((hkp'.out.step (Kept.of_below hb4w.out (F := noBlk)) (fun _ _ h => h.elim)).step hv5.kept (fun j hj h => by
          rcases hF'.out j h with h' | h'
          · exact Or.inl h'
          · omega))
        clear hM5 hv5 hnew G5

        obtain ⟨wo, hwo⟩ : ∃ x, x = wr := ⟨_, rfl⟩
        subst hwo
        have hput := hid (fun c (hc : c < 256) => putB8_yes (P := ⟨pa, pb, pc', pd⟩) (nx := nx) (rw := rw) hc)
        have hnop := hid (fun c => putB8_no (P := ⟨pa, pb, pc', pd⟩) (nx := nx) (rw := rw) (c := c))
        have hz0 := hid (putB8_zero ⟨pa, pb, pc', pd⟩ nx hlen.out)
        have hpl := hid (fun c => putB8_len ⟨pa, pb, pc', pd⟩ nx rw c)
        have hrow2 := hid (hstep.out nx hok.out)
        generalize hpc : putB8 ⟨pa, pb, pc', pd⟩ nx rw = X at hput hnop hz0 hpl hrow2
        clear hpc
        go_loopw [44] (fun i wr2 => ∃ b : Nat, b ≤ 256 ∧ i = .int .i64 b ∧ Hid (Own wr2 (w.heap.size + 1) (.slice (some ⟨w.heap.size + 1, 0, none⟩) 256 256) (X b)) ∧ Kept (fun k => k = w.heap.size + 1) w5 wr2) (fun i _ => 256 - (intOf i).toNat)
        case atStart => exact ⟨0, Nat.zero_le _, rfl, hid (by rw [hz0.out]; exact hOn.out), Kept.refl _ _⟩
        case round =>
          obtain ⟨b, hb, rfl, hO2, hk2⟩ := hrel
          by_cases hbl : b < 256
          · have hbz : (b : Int) < 256 := by omega
            have hbw := wrap_u8 hbl
            obtain ⟨x0, x1, x2, x3, -⟩ := cells4p (hk2.blk hset.out hsne.out)
            have G1 := hid (fun u => hGH.out b u hbl)
            have hyes := hid (hput.out b hbl)
            have hno := hid (hnop.out b)
            generalize hasB ⟨pa, pb, pc', pd⟩ b = hv at G1 hyes hno
            have hxl : b < (X b).length := by rw [hpl.out]; exact hbl
            cases hv with
            | false =>
              have hX := hid (hno.out rfl)
              go_wp2_with (go_at_call 56; refine (G1.out _).mono ?_; rintro e' w6 ⟨rfl, hb6⟩)
              go_roundw
              case rel => exact ⟨b + 1, by omega, by go_num, hid (by rw [hX.out]; exact own_below hO2.out hb6), hk2.step (Kept.of_below hb6 (F := noBlk)) (fun _ _ h => h.elim)⟩
              case measure => simp [intOf]; omega
            | true =>
              have hX := hid (hyes.out rfl)
              have hbr := hk2.size
              go_wp2_with (go_at_call 56; refine (G1.out _).mono ?_; rintro e' w6 ⟨rfl, hb6⟩; have hO6 := hid (own_below hO2.out hb6); have i0 := own_num_at hO6.out hxl; have i1 := own_num_free hO6.out (hpl.out b).symm b; have hO7 := hid (own_num_put (k := b) nx hO6.out (hpl.out b).symm))
              go_roundw
              case rel => exact ⟨b + 1, by omega, by go_num, hid (by rw [hX.out]; exact hO7.out), (hk2.step (Kept.of_below hb6 (F := noBlk)) (fun _ _ h => h.elim)).setCell (fun _ => rfl)⟩
              case measure => simp [intOf]; omega
          · have hbz : ¬ (b : Int) < 256 := by omega
            obtain rfl : b = 256 := by omega
            have hMz := hid (MeO.kept hMn.out hk2 (fun j hj e0 => hFrb.out j hj e0))
            have hkz : Hid (Kept (fun k => F k ∨ k = w.heap.size + 1) W1 wr) := hid (hkn.out.step hk2 (fun j _ h => Or.inr h))
            go_wp2
            go_roundw
            case rel => exact ⟨k + 1, _, _, _, by omega, by go_num, hrow2, hO2, hMz, hFn, hkz.out⟩
            case measure => simp [intOf]; omega
    · have hltz : ¬ (k : Int) < (m : Int) := by omega
      obtain rfl : k = m := by omega
      obtain ⟨e1, e2⟩ := hQ.out.fin rw hrow.out
      have hO1 : Own wr (w.heap.size + 1) (.slice (some ⟨w.heap.size + 1, 0, none⟩) 256 256) q.2 := by rw [← e1]; exact hO.out
      have hO1 := hid hO1
      have hMf : Hid (MeO B mb F' wr tv' mm (q.1.map tx)) := hid (by rw [← e2]; exact hMe.out)
      clear e1 e2
      go_wp2
      go_ret
      refine ⟨_, rfl, own_base hO1.out (by omega), F', tv', hMf.out, ⟨(Kept.of_below hbW.out (F := F)).step hkp (fun j hj h => ?_), fun j h => ?_⟩, fun ad nn cc e0 h1 h2 => ?_⟩
      · rcases h with h | h
        · exact h
        · omega
      · rcases hF'.out j h with h' | h'
        · exact Or.inl h'
        · exact Or.inr (by have := hs1'.out; omega)
      · have e1 : w.heap.size + 1 = ad.block := by
          injection e0 with e0
          injection e0 with e0
          rw [← e0]
        rcases hF'.out _ h2 with h' | h'
        · have := hFlt.out _ h'; omega
        · have := hs1'.out; omega

end Go.Proofs.YtjelgphhlcecoaaGreatDoor
namespace Go.Proofs.YtjelgphhlcecoaaGreatDoor
open Go.RowKit

set_option maxRecDepth 20000 in
theorem setsHas (v : Value) (l : List Int) (n : Int) (w : World) (hl : l.length ≤ 1000000) (hA : Nums w v l) :
    Calls Tryz.prog 68 #[v, .int .i64 n] w fun e w' => e = .returned (.bool (l.contains n)) ∧ w' = w := by
  have G : Hid (Calls Tryz.prog 83 #[v, .int .i64 n] w fun e w' => e = .returned (.bool (l.contains n)) ∧ w' = w) := by
    by_cases h0 : l = []
    · subst h0
      obtain ⟨aa, ca, rfl, _, _, hA⟩ := hA
      exact hid ((Tryz.slices_Contains_int_empty aa ca n w).mono fun e w' ⟨he, hw⟩ => ⟨he, hw⟩)
    · obtain ⟨b, o, cap, rfl, hcap, hb, hc⟩ := hA.at (List.length_pos_iff.2 h0)
      have := Tryz.slices_Contains_int b o l.length cap l n w (Nat.le_refl _) (by omega) (Nums.getD hc)
      rw [List.take_of_length_le (Nat.le_refl _)] at this
      exact hid this
  generalize l.contains n = r at G ⊢
  clear hA
  go_enter Tryz.func68, Tryz.ntmps68
  go_wp2_with (go_at_call 83; refine (G.out).mono ?_; rintro e w1 ⟨rfl, hw1⟩; subst w1)
  go_ret
  exact ⟨rfl, rfl⟩
theorem grown_refl (w : World) (r : Option Nat) : w.grownBy w r := ⟨rfl, rfl, rfl, Nat.le_refl _, fun _ _ _ => rfl⟩
theorem step_append_none {P : Program} {w : World} {ops : Array Oper} {o : Oper} {a : Act} {K : Act → World → Prop} {Q : Exit → Act → World → Prop} {E : Prop} (hgd : o.guard = none) (s x : Operand) (t : TypeId)
    (ho : o.op = .call { callee := .builtin .append, args := #[s, x], argTypes := #[t, t] })
    (base : Nat) (e : TypeId) (i : TypeInfo) (size : Nat) (ht : P.underlying t = some (.slice e)) (hi : P.info? e = some i)
    (v : Value) (n : Nat) (xs : List Value) (hs : a.eval s = v) (hown : w.ownsRow base e size v n xs) (hx : a.eval x = .slice none 0 0)
    (h : K (a.put o.dst v) w) : if Region.wanted o (yielded ops a.tmps) = true then Oper.wp P o a w K Q else E := by
  have hw : Region.wanted o (yielded ops a.tmps) = true := by simp [Region.wanted, hgd]
  rw [if_pos hw]
  have hrun := run_append_owned_none (P := P) (w := w) base t o.type e i size ht hi v n xs hown
  unfold Oper.wp
  simp [execOp, ho, resolve, invoke, builtin, hs, hx, hrun, Result.andThen]
  exact h
set_option maxRecDepth 20000 in
/-- append of numbers onto a list of one's own, in a region that draws its order -/
theorem step_appN {w : World} {ops : Array Oper} {o : Oper} {a : Act} {K : Act → World → Prop} {Q : Exit → Act → World → Prop} {E : Prop} (hgd : o.guard = none) (s x : Operand)
    (ho : o.op = .call { callee := .builtin .append, args := #[s, x], argTypes := #[23, 23] })
    (B : Nat) (l1 l2 : List Int) (v vx : Value) (hs : a.eval s = v) (hx : a.eval x = vx) (hown : Own w B v l1) (hN : Nums w vx l2) (hN0 : l2 = [] → vx = .slice none 0 0) (hl : l1.length + l2.length ≤ 4000000) (hB : B ≤ w.heap.size)
    (h : ∀ av c w', Own w' B (.slice av (l1.length + l2.length) c) (l1 ++ l2) → w.grownBy w' v.ownBlock → (∀ k, (Value.slice av (l1.length + l2.length) c).ownBlock = some k → v.ownBlock = some k ∨ w.heap.size ≤ k) → K (a.put o.dst (.slice av (l1.length + l2.length) c)) w') :
    if Region.wanted o (yielded ops a.tmps) = true then Oper.wp Tryz.prog o a w K Q else E := by
  obtain ⟨i0, hi, hz0, hz1, hz2⟩ := info_parts Tryz.info3
  by_cases h0 : l2 = []
  · subst h0
    have hv := hN0 rfl
    subst hv
    obtain ⟨av, c, rfl⟩ := own_shape hown
    refine step_append_none hgd s x 23 ho B 3 i0 1 Tryz.underlying23 hi _ _ _ hs hown hx ?_
    have := h av c w (by rw [List.append_nil]; exact hown) (grown_refl _ _) (fun k hk => Or.inl hk)
    exact this
  · have hpos := List.length_pos_iff.2 h0
    obtain ⟨b, o', cap, rfl, hcap, hb, hc⟩ := hN.at hpos
    refine step_append_lies w hgd s x 23 ho B 3 i0 (.int .i64 0) 1 8 Tryz.underlying23 hi hz0 hz1 hz2 rfl (by decide) v _ _ hs hown ⟨b, o', none⟩ l2.length cap (numCells l2) hx (by rw [numCells_len]; omega) (Nums.news hc) (numCells_one l2) hpos (by unfold maxLen; omega) (by omega) hB w.heap.size rfl ?_
    intro g cap' w' hO hg hat _
    refine h _ _ w' ?_ hg ?_
    · unfold Own
      rw [numCells_app, List.length_append]
      exact hO
    · intro k hk
      have e1 : g = k := by injection hk
      subst e1
      rcases hat with h1 | h1
      · exact Or.inl h1
      · exact Or.inr (by omega)

end Go.Proofs.YtjelgphhlcecoaaGreatDoor
namespace Go.Proofs.YtjelgphhlcecoaaGreatDoor
open Go.RowKit

/-- places in memory, wherever their rows lie -/
def PlX (B pb e : Nat) (w : World) (S : List W4) (G : List (List Int)) (f : List Int) : Prop := ∃ F sv bv fv gs, PlO B pb e F w sv bv fv S gs G f
/-- what a rule adds to what is behind its spots: the first k of them -/
def begB (from' end' : Nat) (p : Sp) : Nat → List (List Int)
  | 0 => []
  | k + 1 => begB from' end' p k ++ [movL from' (p.follow.getD k []) ++ (if p.last.contains (k : Int) then [(end' : Int)] else [])]
theorem begB_is (from' end' : Nat) (p : Sp) : ∀ k, begB from' end' p k = (List.range k).map fun j => movL from' (p.follow.getD j []) ++ (if p.last.contains (j : Int) then [(end' : Int)] else [])
  | 0 => rfl
  | k + 1 => by rw [begB, begB_is from' end' p k, List.range_succ, List.map_append]; rfl
theorem kept_lowP {s : Nat} {F : Nat → Prop} {W w u : World} {r : Option Nat} (h : Kept (fun k => k < s) W w) (hg : w.grownBy u r) (hr : ∀ k, r = some k → F k) (hF : ∀ k, F k → k < s ∨ W.heap.size ≤ k) : Kept (fun k => k < s) W u :=
  h.step (Kept.of_grown hg) fun k hk e => by
    rcases hF k (hr k e) with h1 | h1
    · exact h1
    · omega
/-- what is left to be shown, whatever the order in which a region was gone through -/
structure RestOf (R : Prop) : Prop where
  out : R
theorem collapse {R G : Prop} (h : RestOf R → G) (pf : R) : G := h ⟨pf⟩
theorem off_more {F : Nat → Prop} {u : World} {B' : Nat} {v v5 : Value} {l : List Int} (hO : Own u B' v l) (hF : ∀ k, F k → k < B') (hat : ∀ k, v5.ownBlock = some k → F k ∨ u.heap.size ≤ k) : Off (fun k => F k ∨ v5.ownBlock = some k) v := fun ad n c e h0 hf => by
  have hl := hO.lt
  rcases hO.2 with ⟨rfl, _⟩ | ⟨g, cap, cur, rfl, hb, _⟩
  · cases e
  · injection e with e1
    cases e1
    have h1 : B' ≤ g := hb
    have h2 : g < u.heap.size := (hl g rfl).2
    have key : ¬ F g := fun h => by have := hF g h; omega
    rcases hf with h | h
    · exact key h
    · rcases hat g h with h3 | h3
      · exact key h3
      · omega
theorem ownS_snoc {w : World} {B g n cap : Nat} {S : List W4} {a b c d : Nat} (h : w.ownsRow B 97 4 (.slice (some ⟨g, 0, none⟩) (S.length + 1) cap) (S.length + 1) (flatS S ++ [.int .u64 (a : Int), .int .u64 (b : Int), .int .u64 (c : Int), .int .u64 (d : Int)])) (_hn : n = S.length) : OwnS w B (.slice (some ⟨g, 0, none⟩) (S.length + 1) cap) (S ++ [⟨a, b, c, d⟩]) := by
  unfold OwnS
  rw [flatS_app, List.length_append]
  exact h
set_option maxRecDepth 20000 in
theorem Tryz.infoNs : (Tryz.prog.info? 23).map (fun i => (i.zero, i.size, i.bytes)) = some (some (.slice none 0 0), 1, 24) := by kernel_rfl
set_option maxRecDepth 20000 in
set_option maxHeartbeats 8000000 in
theorem addC (B pb e s en : Nat) (F : Nat → Prop) (sv bv fv : Value) (S : List W4) (gs : List Value) (G : List (List Int)) (f : List Int) (p : Sp) (rs rf rl rg : Value) (w : World)
    (h : PlO B pb e F w sv bv fv S gs G f) (hs : s ≤ w.heap.size) (hF : ∀ k, F k → k < s) (hr : SpVF (fun k => k < s) w rs rf rl rg p) (hsm : SmlS p) (hS : S.length ≤ 2000) (hgl : gs.length ≤ 2000) (hfl : f.length ≤ 4000) (_hen : en ≤ 100) :
    Calls Tryz.prog 49 #[.pointer (some ⟨pb, 0, none⟩), .agg #[rs, .bool p.null, rf, rl, rg], .int .i64 (en : Int)] w fun z w' => z = .returned (.tuple #[]) ∧ PlX B pb e w' (S ++ p.sets) (G ++ begB S.length en p p.sets.length) (f ++ (movL S.length p.first ++ (if p.null then [(en : Int)] else []))) ∧ Below B w w' := by
  obtain ⟨rsa, rsc, rfl⟩ : ∃ a c, rs = .slice a p.sets.length c := by obtain ⟨a, c, e, _⟩ := hr.spv.sets; exact ⟨a, c, e⟩
  obtain ⟨rfa, rfc, rfl⟩ : ∃ a c, rf = .slice a p.first.length c := by obtain ⟨a, c, e, _⟩ := hr.spv.first; exact ⟨a, c, e⟩
  obtain ⟨rla, rlc, rfl⟩ : ∃ a c, rl = .slice a p.last.length c := by obtain ⟨a, c, e, _⟩ := hr.spv.last; exact ⟨a, c, e⟩
  obtain ⟨rga, rgc, rfl⟩ : ∃ a c, rg = .slice a p.sets.length c := by obtain ⟨a, c, e, _⟩ := hr.spv.follow; rw [hsm.flen] at e; exact ⟨a, c, e⟩
  obtain ⟨FF, hFF⟩ : ∃ FF : List Int, Hid (FF = f ++ (movL S.length p.first ++ (if p.null then [(en : Int)] else []))) := ⟨_, hid rfl⟩
  rw [← hFF.out]
  obtain ⟨sa, sc, rfl⟩ := own_shape h.sets
  obtain ⟨ba, bc, rfl⟩ := own_shape h.beh
  obtain ⟨fa, fc, rfl⟩ := own_shape h.fir
  obtain ⟨W0, hW0⟩ : ∃ W0, W0 = w.alloc (.cells #[.slice rsa p.sets.length rsc, .bool p.null, .slice rfa p.first.length rfc, .slice rla p.last.length rlc, .slice rga p.sets.length rgc] 91) := ⟨_, rfl⟩
  have hb0 : Hid (Below w.heap.size w W0) := by rw [hW0]; exact hid (al' w _)
  have hq0 : Hid (W0.heap[w.heap.size]? = some (.cells #[.slice rsa p.sets.length rsc, .bool p.null, .slice rfa p.first.length rfc, .slice rla p.last.length rlc, .slice rga p.sets.length rgc] 91)) := by rw [hW0]; exact hid (heap_new w _)
  have hs0 : Hid (W0.heap.size = w.heap.size + 1) := by rw [hW0]; exact hid (by simp)
  have h0 := hid (h.keep hb0.out)
  have hr0 := hid (hr.keep hb0.out)
  have hBw := h.size
  obtain ⟨c0, c1, c2, c3, f0, f1, f2, f3⟩ := cells4p h.blk
  have hpw := blk_lt h.blk
  have hpn : pb ≠ w.heap.size := by omega
  have hrb : Hid (∀ u, Kept (fun k => k < s) W0 u → u.heap[w.heap.size]? = some (.cells #[.slice rsa p.sets.length rsc, .bool p.null, .slice rfa p.first.length rfc, .slice rla p.last.length rlc, .slice rga p.sets.length rgc] 91)) := hid (fun u hu => hu.blk hq0.out (fun hh => absurd hs (Nat.not_le.2 hh)))
  have GM := hid (fun v l u (h1 : l.length ≤ 100000) (h2 : ∀ x ∈ l, 0 ≤ x ∧ x < 1000000) (h3 : Nums u v l) => movedC S.length v l u (by omega) h1 h2 h3)
  have hsm' := hid hsm
  have hF0 := hid hF
  have hfi := hsm.first
  have hse := hsm.sets
  have hsmF : Hid (∀ x ∈ p.first, 0 ≤ x ∧ x < 1000000) := hid (fun x hx => by have := hsm.firstIn x hx; omega)
  have hfol := hid hsm.flen
  clear h hr hsm hF
  go_enter Tryz.func49, Tryz.ntmps49
  go_wp2_with fail
  rw [← hW0]
  clear hW0 c0 c1 c2 c3 f0 f1 f2 f3
  have hW0d : Below W0.heap.size W0 W0.drew := (Below.refl _ _).drew
  obtain ⟨c0, c1, c2, c3, f0, f1, f2, f3⟩ := cells4p (h0.out.keep hW0d).blk
  obtain ⟨r0, r1, r2, r3, r4, -⟩ := cells5s (hs_keep hq0.out hW0d)
  have hW0d := hid hW0d
  have GM1 := hid (GM.out _ p.first W0.drew (by omega) hsmF.out (hr0.out.spv.first.keep hW0d.out))
  have hml : (movL S.length p.first).length ≤ 60 := by rw [movL_len]; exact hfi
  apply collapse
  case h =>
    intro rest
    go_region_law ((first
      | (refine step_appN (by rfl) (.tmp 19) (.tmp 23) (by rfl) B f (movL S.length p.first) _ _ (by rfl) (by rfl) M1.out.fir (Nums.of_row hO1.out) (fun hh => (hz1.out hh)) (by omega) M1.out.size ?_; intro av c w2 hO2 hg2 hat2; have M2 := hid (M1.out.addFirst hO2 hg2 hat2); obtain ⟨x0, x1, x2, x3, y0, y1, y2, y3⟩ := cells4p (grown_blk hg2 M1.out.blk (fun e0 => (M1.out.fF _ e0).2 rfl)); have hk2 := hid (kept_lowP hk1.out hg2 (fun k e0 => (M1.out.fF k e0).1) hF1.out); have hB2 := hid (bgrow hB1.out hg2 M1.out.size (fun k e0 => (M1.out.fir.lt k e0).1)); have hF2 : Hid (∀ k, (F k ∨ (Value.slice av (f.length + (movL S.length p.first).length) c).ownBlock = some k) → k < s ∨ W0.heap.size ≤ k) := hid (fun k hk => hk.elim (hF1.out k) (fun h1 => (hat2 k h1).elim (fun h2 => hF1.out k (M1.out.fF k h2).1) (fun h2 => Or.inr (Nat.le_trans hb1'.out.size h2)))))
      | (refine step_call (by rfl) 67 #[.slice rfa p.first.length rfc, .int .i64 (S.length : Int)] (by go_simp) GM1.out ?_; rintro z w1 ⟨v1, rfl, hO1, hb1, hz1⟩; refine ⟨_, rfl, ?_⟩; have hO1 := hid hO1; have hz1 := hid (fun (hh : movL S.length p.first = []) => (hz1 (by simpa [movL] using hh)).1); have hb1' := hid (bl_step hW0d.out hb1); have M1 := hid (h0.out.keep hb1'.out); have hk1 : Hid (Kept (fun k => k < s) W0 w1) := hid (Kept.of_below hb1'.out); have hF1 : Hid (∀ k, F k → k < s ∨ W0.heap.size ≤ k) := hid (fun k hk => Or.inl (hF0.out k hk)); have hB1 := hid ((hb0.out.mono hBw).trans (hb1'.out.mono (by have := hs0.out; omega))); obtain ⟨d0, d1, d2, d3, -⟩ := cells4p M1.out.blk; obtain ⟨q0, q1, q2, q3, q4, -⟩ := cells5s (hs_keep hq0.out hb1'.out))))
    all_goals
      have hk3 : Hid (Kept (fun k => k < s) W0 (w2.setCell ⟨pb, 3, none⟩ (.slice av (f.length + (movL S.length p.first).length) c))) := hid (hk2.out.setCell (fun _ => hF0.out _ h0.out.inF))
      have hB3 := hid (bl_set hB2.out pb 3 (.slice av (f.length + (movL S.length p.first).length) c) h0.out.base)
      have M3 := hid M2.out
      have hfl3 : (f ++ movL S.length p.first).length ≤ 4100 := by rw [List.length_append]; omega
      have hlen3 : Hid (f.length + (movL S.length p.first).length = (f ++ movL S.length p.first).length) := hid (by rw [List.length_append])
      obtain ⟨fv3, hfv3⟩ : ∃ v, v = Value.slice av (f.length + (movL S.length p.first).length) c := ⟨_, rfl⟩
      rw [← hfv3] at hk3 hB3 M3 hF2 ⊢
      clear hfv3 M2 hk2 hB2 hO2 hg2 hat2 hO1 hz1 hb1 M1 hk1 hF1 hB1 x0 x1 x2 x3 y0 y1 y2 y3 d0 d1 d2 d3 q0 q1 q2 q3 q4 hb1'
      generalize w2.setCell ⟨pb, 3, none⟩ fv3 = W3 at hk3 hB3 M3 ⊢
      obtain ⟨F3, hF3⟩ : ∃ F3, F3 = (fun k => F k ∨ fv3.ownBlock = some k) := ⟨_, rfl⟩
      rw [← hF3] at M3
      have hF4 : Hid (∀ k, F3 k → k < s ∨ W0.heap.size ≤ k) := hid (fun k hk => hF2.out k (by rw [hF3] at hk; exact hk))
      clear hF3 hF2
      generalize v1 = vv
      revert M3 hk3 hB3 hF4
      revert F3 W3 fv3 vv
      exact rest.out
  case pf =>
    intro fv3 W3 F3 v1 hk3 hB3 M3 hF2
    clear c0 c1 c2 c3 f0 f1 f2 f3 r0 r1 r2 r3 r4
    have hfl3 : (f ++ movL S.length p.first).length ≤ 4100 := by rw [List.length_append]; omega
    generalize hmlq : movL S.length p.first = ml at *
    clear hmlq
    obtain ⟨R0, R1, R2, R3, R4, -⟩ := cells5s (hrb.out W3 hk3.out)
    obtain ⟨iS, hiS, zS0, zS1, zS2⟩ := info_parts Tryz.infoS4
    obtain ⟨iN, hiN, zN0, zN1, zN2⟩ := info_parts Tryz.infoNs
    obtain ⟨i0, hi0, z00, z01, z02⟩ := info_parts Tryz.info3
    cases hnu : p.null with
    | false =>
      rw [hnu] at R1
      have hkX := hk3
      have hBX := hB3
      have hFX := hF2
      have MX : Hid (PlO B pb e _ W3 _ _ fv3 S gs G FF) := hid (by rw [hFF.out, hnu, if_neg Bool.false_ne_true, List.append_nil]; exact M3.out)
      clear R0 R2 R3 R4

      obtain ⟨R0, R1, R2, R3, R4, -⟩ := cells5s (hrb.out W3 hkX.out)
      have hglG := hid MX.out.nums.1
      go_wp2_with fail
      go_loopw [42] (fun i wr => ∃ (k : Nat) (F' : Nat → Prop) (sv' bv' : Value) (gs' : List Value), k ≤ p.sets.length ∧ i = .int .i64 k ∧ Hid (PlO B pb e F' wr sv' bv' fv3 (S ++ p.sets.take k) gs' (G ++ begB S.length en p k) FF) ∧ Hid (∀ k, F' k → k < s ∨ W0.heap.size ≤ k) ∧ Hid (Kept (fun k => k < s) W0 wr) ∧ Below B w wr) (fun i _ => p.sets.length - (intOf i).toNat)
      case atStart => exact ⟨0, _, _, _, _, Nat.zero_le _, rfl, hid (by rw [List.take_zero, List.append_nil, begB, List.append_nil]; exact MX.out), hFX, hkX, hBX.out⟩
      case round =>
        obtain ⟨k, F', sv', bv', gs', hk, rfl, hM, hFr, hkr, hbl⟩ := hrel
        by_cases hlt : k < p.sets.length
        · have hltz : (k : Int) < (p.sets.length : Int) := by omega
          have hsp := hr0.out.kept hkr.out
          have hbox := hid (hrb.out wr hkr.out)
          have hws : w.heap.size < wr.heap.size := by have := hs0.out; have := hkr.out.size; omega
          have hwn : w.heap.size ≠ wr.heap.size := by omega
          obtain ⟨Q0, Q1, Q2, Q3, Q4, -⟩ := cells5s hbox.out
          obtain ⟨sa1, sc1, es, hsat⟩ := sets_at hsp.sets
          injection es with es1 es2 es3
          obtain ⟨b1, o1, hsa1, hb1, hfit, h4⟩ := hsat k hlt
          rw [hsa1] at es1
          obtain ⟨ga1, gc1, eg, hgat⟩ := numss_at hsp.follow
          injection eg with eg1 eg2 eg3
          obtain ⟨b2, o2, x, hga1, hb2, hx, hNx⟩ := hgat k (by rw [hfol.out]; exact hlt)
          rw [hga1] at eg1
          have hNl := hsp.last
          have hfk := (hsm'.out).fol k
          have hll := hsm'.out.last
          have htk : Hid (p.sets.take (k + 1) = p.sets.take k ++ [p.sets.getD k noneB]) := hid (by rw [List.take_succ_eq_append_getElem hlt, List.getD_eq_getElem?_getD, List.getElem?_eq_getElem hlt]; rfl)
          have hbg : Hid (begB S.length en p (k + 1) = begB S.length en p k ++ [movL S.length (p.follow.getD k []) ++ (if p.last.contains (k : Int) then [(en : Int)] else [])]) := hid rfl
          generalize p.sets.getD k noneB = Z at h4 hfit htk
          obtain ⟨za, zb, zc, zd⟩ := Z
          obtain ⟨u0, u1, u2, u3⟩ := h4
          simp only at u0 u1 u2 u3
          have hal := hid (al' wr (.cells #[.int .u64 (za : Int), .int .u64 (zb : Int), .int .u64 (zc : Int), .int .u64 (zd : Int)] 97))
          have hzb := hid (heap_new wr (.cells #[.int .u64 (za : Int), .int .u64 (zb : Int), .int .u64 (zc : Int), .int .u64 (zd : Int)] 97))
          have GMk := hid (GM.out x _ (wr.alloc (.cells #[.int .u64 (za : Int), .int .u64 (zb : Int), .int .u64 (zc : Int), .int .u64 (zd : Int)] 97)) (by have := hfk.1; omega) (fun y hy => by have := hfk.2 y hy; omega) (hNx.keep hal.out))
          have GHk := hid (fun u (hu : Below wr.heap.size wr u) => setsHas _ p.last (k : Int) u (by omega) (hNl.keep hu))
          have hmk60 : (movL S.length (p.follow.getD k [])).length ≤ 60 := by rw [movL_len]; exact hfk.1
          generalize p.last.contains (k : Int) = lt at GHk hbg
          generalize movL S.length (p.follow.getD k []) = mk at GMk hbg hmk60
          have hgl2 : Hid (gs'.length = G.length + k) := hid (by rw [hM.out.nums.1, List.length_append, begB_is, List.length_map, List.length_range])
          have hGl : G.length ≤ 2000 := by have := hglG.out; omega
          have hFb : Hid (∀ k, F' k → k < (wr.alloc (.cells #[.int .u64 (za : Int), .int .u64 (zb : Int), .int .u64 (zc : Int), .int .u64 (zd : Int)] 97)).heap.size) := hid (fun k hk => by have := hM.out.lt k hk; simp; omega)
          obtain ⟨sa', sc', rfl⟩ := own_shape hM.out.sets
          obtain ⟨ba', bc', rfl⟩ := own_shape hM.out.beh
          subst es1 eg1
          clear hsat hgat hNx hNl hsp hfit hsa1 hga1 es2 es3 eg2 eg3 hfk
          cases lt with
          | false =>
            go_wp2_with (first
              | (go_at_call 67; refine GMk.out.mono ?_; rintro z w7 ⟨v7, rfl, hO2, hUz, -⟩; have hUb := hUz; obtain ⟨T0, T1, T2, T3, T4, -⟩ := cells5s (hs_keep hbox.out (bl_step hal.out hUz)))
              | (go_at_call 68; refine (GHk.out w7 (bl_step hal.out hUz)).mono ?_; rintro z u7 ⟨rfl, hu7⟩; subst u7))
            have hbg' : Hid (begB S.length en p (k + 1) = begB S.length en p k ++ [mk]) := hid (by rw [hbg.out, if_neg Bool.false_ne_true, List.append_nil])
            obtain ⟨va, vc, rfl⟩ := own_shape hO2
            -- one set more, one list more
            have hO2 := hid hO2
            have hUb := hid (bl_step hal.out hUz)
            have Mu := hid (hM.out.keep hUb.out)
            have hub : Hid (w7.heap[wr.heap.size]? = some (.cells #[.int .u64 (za : Int), .int .u64 (zb : Int), .int .u64 (zc : Int), .int .u64 (zd : Int)] 97)) := hid (hs_keep hzb.out hUz)
            have hUd : Hid (Below w7.heap.size w7 w7.drew) := hid (Below.refl _ _).drew
            have Md := hid (Mu.out.keep hUd.out)
            obtain ⟨c0, c1, c2, c3, f0, f1, f2, f3⟩ := cells4p Md.out.blk
            obtain ⟨z0, z1, z2, z3, -⟩ := cells4p (hs_keep hub.out hUd.out)
            have hUl : Hid (Below w7.heap.size w7 (w7.alloc (.cells #[.int .u64 (za : Int), .int .u64 (zb : Int), .int .u64 (zc : Int), .int .u64 (zd : Int)] 97)).drew) := hid (bl_step (al' w7 (.cells #[.int .u64 (za : Int), .int .u64 (zb : Int), .int .u64 (zc : Int), .int .u64 (zd : Int)] 97)) (Below.refl _ _).drew)
            have Ml := hid (Mu.out.keep hUl.out)
            obtain ⟨l0, l1, l2, l3, m0, m1, m2, m3⟩ := cells4p Ml.out.blk
            have hsl : (S ++ p.sets.take k).length ≤ 2100 := by rw [List.length_append, List.length_take]; omega
            have hgsl : gs'.length ≤ 2100 := by
              have := hgl2.out
              omega
            have hkU : Hid (Kept (fun k => k < s) W0 ((w7.alloc (.cells #[.int .u64 (za : Int), .int .u64 (zb : Int), .int .u64 (zc : Int), .int .u64 (zd : Int)] 97)).drew)) := hid (hkr.out.step (Kept.of_below (bl_step hUb.out hUl.out) (F := noBlk)) (fun _ _ h => h.elim))
            have hBU : Hid (Below B w ((w7.alloc (.cells #[.int .u64 (za : Int), .int .u64 (zb : Int), .int .u64 (zc : Int), .int .u64 (zd : Int)] 97)).drew)) := hid (bstep hbl (bl_step hUb.out hUl.out) hM.out.size)
            have hsizeU : ((w7.alloc (.cells #[.int .u64 (za : Int), .int .u64 (zb : Int), .int .u64 (zc : Int), .int .u64 (zd : Int)] 97)).drew).heap.size = w7.heap.size + 1 := by simp
            generalize hS1 : S ++ p.sets.take k = S1 at *
            go_wp2_with fail
            apply collapse
            case h =>
              intro rest
              go_region_law ((first
                | (refine step_append_lies _ (by rfl) (.tmp 66) (.tmp 68) 74 (by rfl) B 97 iS (.agg #[.int .u64 0, .int .u64 0, .int .u64 0, .int .u64 0]) 4 32 Tryz.underlying74 hiS zS0 zS1 zS2 rfl (by decide) (.slice sa' S1.length sc') S1.length (flatS S1) (by rfl) Ml.out.sets ⟨w7.heap.size, 0, none⟩ 1 1 [.int .u64 (za : Int), .int .u64 (zb : Int), .int .u64 (zc : Int), .int .u64 (zd : Int)] (by rfl) (by rfl) (World.news_of_block (w := (w7.alloc (.cells #[.int .u64 (za : Int), .int .u64 (zb : Int), .int .u64 (zc : Int), .int .u64 (zd : Int)] 97)).drew) (heap_new w7 (.cells #[.int .u64 (za : Int), .int .u64 (zb : Int), .int .u64 (zc : Int), .int .u64 (zd : Int)] 97))) (by simp [Value.oneCell']) (by omega) (by (unfold maxLen); omega) (by omega) Ml.out.size (w7.heap.size + 1) hsizeU ?_; intro g5 c5 w5 hown5 hgrow5 hat5 hlt5; have hat5' : ∀ k, (Value.slice (some ⟨g5, 0, none⟩) (S1.length + 1) c5).ownBlock = some k → (Value.slice sa' S1.length sc').ownBlock = some k ∨ ((w7.alloc (.cells #[.int .u64 (za : Int), .int .u64 (zb : Int), .int .u64 (zc : Int), .int .u64 (zd : Int)] 97)).drew).heap.size ≤ k := (fun k e0 => hat5.elim (fun e1 => Or.inl (e1.trans e0)) (fun e1 => Or.inr (by (have e2 : g5 = k := (by injection e0)); omega))); have M5 := hid (Ml.out.addSet (ownS_snoc hown5 rfl) hgrow5 hat5'); obtain ⟨x0, x1, x2, x3, y0, y1, y2, y3⟩ := cells4p (grown_blk hgrow5 Ml.out.blk (fun e0 => (Ml.out.sF _ e0).2.1 rfl)); have hk5 := hid (kept_lowP hkU.out hgrow5 (fun k e0 => (Ml.out.sF k e0).1) hFr.out); have hB5 := hid (bgrow hBU.out hgrow5 Ml.out.size (fun k e0 => (Ml.out.sets.lt k e0).1)); have hF5 : Hid (∀ k, (F' k ∨ (Value.slice (some ⟨g5, 0, none⟩) (S1.length + 1) c5).ownBlock = some k) → k < s ∨ W0.heap.size ≤ k) := hid (fun k hk => hk.elim (hFr.out k) (fun h1 => (hat5' k h1).elim (fun h2 => hFr.out k (Ml.out.sF k h2).1) (fun h2 => Or.inr (Nat.le_trans hkU.out.size h2)))); have hO5 := hid (own_set (pb := pb) (o := 1) (x := .slice (some ⟨g5, 0, none⟩) (S1.length + 1) c5) (own_kept (own_below hO2.out hUl.out) (Kept.of_grown hgrow5) (fun j e0 e1 => Nat.lt_irrefl _ (Nat.lt_of_lt_of_le (hFb.out j (Ml.out.sF j e1).1) (hO2.out.lt j e0).1))) (fun e0 => Nat.lt_irrefl _ (Nat.lt_of_lt_of_le (hFb.out pb Ml.out.inF) (hO2.out.lt pb e0).1))); have hof5 := hid (off_more (v5 := .slice (some ⟨g5, 0, none⟩) (S1.length + 1) c5) hO2.out hFb.out (fun k h1 => (hat5' k h1).elim (fun h2 => Or.inl (Ml.out.sF k h2).1) (fun h2 => Or.inr (by omega)))))
                | fail))
              all_goals
                have hk5' := hid (hk5.out.setCell (a := ⟨pb, 1, none⟩) (v := .slice (some ⟨g5, 0, none⟩) (S1.length + 1) c5) (fun _ => hF0.out _ h0.out.inF))
                have hB5' := hid (bl_set hB5.out pb 1 (.slice (some ⟨g5, 0, none⟩) (S1.length + 1) c5) Ml.out.base)
                have M5' := hid M5.out
                generalize w5.setCell ⟨pb, 1, none⟩ (.slice (some ⟨g5, 0, none⟩) (S1.length + 1) c5) = W5 at M5' hk5' hB5' hO5 ⊢
                obtain ⟨sv5, hsv5⟩ : ∃ v, v = Value.slice (some ⟨g5, 0, none⟩) (S1.length + 1) c5 := ⟨_, rfl⟩
                rw [← hsv5] at M5' hF5 hof5 ⊢
                clear hsv5
                obtain ⟨F5, hF5e⟩ : ∃ F5, F5 = (fun k => F' k ∨ sv5.ownBlock = some k) := ⟨_, rfl⟩
                rw [← hF5e] at M5' hof5
                have hF6 : Hid (∀ k, F5 k → k < s ∨ W0.heap.size ≤ k) := hid (fun k hk => hF5.out k (by rw [hF5e] at hk; exact hk))
                clear hF5e hF5
                have hall := hid (And.intro hO5.out (And.intro hof5.out (And.intro hk5'.out (And.intro hB5'.out (And.intro M5'.out hF6.out)))))
                clear hO5 hof5 hk5' hB5' M5' hF6
                revert hall
                revert W5 sv5 F5
                exact rest.out
            case pf =>
              intro W5 sv5 F5 hall
              obtain ⟨hO5, hof5, hk5', hB5', M5', hF5⟩ := hall.out
              have hO5 := hid hO5
              have hof5 := hid hof5
              have hk5' := hid hk5'
              have hB5' := hid hB5'
              have M5' := hid M5'
              have hF5 := hid hF5
              clear hall
              clear c0 c1 c2 c3 f0 f1 f2 f3 z0 z1 z2 z3 l0 l1 l2 l3 m0 m1 m2 m3 Ml
              obtain ⟨c0, c1, c2, c3, f0, f1, f2, f3⟩ := cells4p M5'.out.blk
              have hal6 := hid (al' W5 (.cells #[(.slice va mk.length vc)] 23))
              have M6 := hid (M5'.out.keep hal6.out)
              have hN6 := hid ((Nums.of_row hO5.out).keep hal6.out)
              have hk6 : Hid (Kept (fun k => k < s) W0 (W5.alloc (.cells #[(.slice va mk.length vc)] 23))) := hid (hk5'.out.step (Kept.of_below hal6.out (F := noBlk)) (fun _ _ h => h.elim))
              have hB6 := hid (bstep hB5'.out hal6.out M5'.out.size)
              have hpW5 := blk_lt M5'.out.blk
              have hpn5 : pb ≠ W5.heap.size := by omega
              go_wp2_with (at_builtin; refine wpList_append_lies _ (by rfl) _ _ _ (by rfl) B 23 iN (.slice none 0 0) 1 24 Tryz.underlying22 hiN zN0 zN1 zN2 rfl (by decide) (.slice ba' gs'.length bc') gs'.length gs' (by rfl) M6.out.beh ⟨W5.heap.size, 0, none⟩ 1 1 [(.slice va mk.length vc)] (by rfl) (by rfl) (World.news_of_block (heap_new W5 (.cells #[(.slice va mk.length vc)] 23))) (by simp [Value.oneCell']) (by omega) (by (unfold maxLen); omega) (by omega) M6.out.size (World.heap (W5.alloc (.cells #[(.slice va mk.length vc)] 23))).size rfl ?_; intro g6 c6 w6 hown6 hgrow6 hat6 hlt6; have hat6' : ∀ k, (Value.slice (some ⟨g6, 0, none⟩) (gs'.length + 1) c6).ownBlock = some k → (Value.slice ba' gs'.length bc').ownBlock = some k ∨ (W5.alloc (.cells #[(.slice va mk.length vc)] 23)).heap.size ≤ k := (fun k e0 => hat6.elim (fun e1 => Or.inl (e1.trans e0)) (fun e1 => Or.inr (by (have e2 : g6 = k := (by injection e0)); omega))); have M7 := hid (M6.out.addBeh hN6.out hof5.out hown6 hgrow6 hat6'); obtain ⟨x0, x1, x2, x3, y0, y1, y2, y3⟩ := cells4p (grown_blk hgrow6 M6.out.blk (fun e0 => (M6.out.bF _ e0).2.1 rfl)); have hk7 := hid ((kept_lowP hk6.out hgrow6 (fun k e0 => (M6.out.bF k e0).1) hF5.out).setCell (a := ⟨pb, 2, none⟩) (v := .slice (some ⟨g6, 0, none⟩) (gs'.length + 1) c6) (fun _ => hF0.out _ h0.out.inF)); have hB7 := hid (bl_set (bgrow hB6.out hgrow6 M6.out.size (fun k e0 => (M6.out.beh.lt k e0).1)) pb 2 (.slice (some ⟨g6, 0, none⟩) (gs'.length + 1) c6) M6.out.base); have hF7 : Hid (∀ k, (_ ∨ (Value.slice (some ⟨g6, 0, none⟩) (gs'.length + 1) c6).ownBlock = some k) → k < s ∨ W0.heap.size ≤ k) := hid (fun k hk => hk.elim (hF5.out k) (fun h1 => (hat6' k h1).elim (fun h2 => hF5.out k (M6.out.bF k h2).1) (fun h2 => Or.inr (Nat.le_trans hk6.out.size h2)))))
              go_roundw
              case rel => exact ⟨k + 1, _, _, _, _, by omega, by go_num, hid (by rw [htk.out, hbg'.out, ← List.append_assoc, ← List.append_assoc, hS1]; exact M7.out), hF7, hk7, hB7.out⟩
              case measure => simp [intOf]; omega
          | true =>
            go_wp2_with (first
              | (go_at_call 67; refine GMk.out.mono ?_; rintro z w7 ⟨v7, rfl, hO7, hUz7, -⟩; have hO7 := hid hO7; obtain ⟨T0, T1, T2, T3, T4, -⟩ := cells5s (hs_keep hbox.out (bl_step hal.out hUz7)); have hO7a := hid (World.ownsRow.alloc hO7.out (.cells #[.int .i64 (en : Int)] 3)))
              | (go_at_call 68; refine (GHk.out w7 (bl_step hal.out hUz7)).mono ?_; rintro z u7 ⟨rfl, hu7⟩; subst u7)
              | (at_builtin; refine wp_app _ rfl _ _ rfl (wr.alloc (.cells #[.int .u64 (za : Int), .int .u64 (zb : Int), .int .u64 (zc : Int), .int .u64 (zd : Int)] 97)).heap.size _ [(en : Int)] _ _ rfl rfl hO7a.out (Nums.lit1 w7 _) (by simp only [List.length_singleton]; omega) (Nat.le_trans hUz7.size (by simp)) ?_; intro v8 w8 hO2 hb8; have hUz := (hUz7.trans ((al' w7 (.cells #[.int .i64 (en : Int)] 3)).mono hUz7.size)).trans hb8))
            have hbg' : Hid (begB S.length en p (k + 1) = begB S.length en p k ++ [mk ++ [(en : Int)]]) := hid (by rw [hbg.out]; simp)
            generalize mk ++ [(en : Int)] = bl at hO2 hbg'
            obtain ⟨va, vc, rfl⟩ := own_shape hO2
            -- one set more, one list more
            have hO2 := hid hO2
            have hUb := hid (bl_step hal.out hUz)
            have Mu := hid (hM.out.keep hUb.out)
            have hub : Hid (w8.heap[wr.heap.size]? = some (.cells #[.int .u64 (za : Int), .int .u64 (zb : Int), .int .u64 (zc : Int), .int .u64 (zd : Int)] 97)) := hid (hs_keep hzb.out hUz)
            have hUd : Hid (Below w8.heap.size w8 w8.drew) := hid (Below.refl _ _).drew
            have Md := hid (Mu.out.keep hUd.out)
            obtain ⟨c0, c1, c2, c3, f0, f1, f2, f3⟩ := cells4p Md.out.blk
            obtain ⟨z0, z1, z2, z3, -⟩ := cells4p (hs_keep hub.out hUd.out)
            have hUl : Hid (Below w8.heap.size w8 (w8.alloc (.cells #[.int .u64 (za : Int), .int .u64 (zb : Int), .int .u64 (zc : Int), .int .u64 (zd : Int)] 97)).drew) := hid (bl_step (al' w8 (.cells #[.int .u64 (za : Int), .int .u64 (zb : Int), .int .u64 (zc : Int), .int .u64 (zd : Int)] 97)) (Below.refl _ _).drew)
            have Ml := hid (Mu.out.keep hUl.out)
            obtain ⟨l0, l1, l2, l3, m0, m1, m2, m3⟩ := cells4p Ml.out.blk
            have hsl : (S ++ p.sets.take k).length ≤ 2100 := by rw [List.length_append, List.length_take]; omega
            have hgsl : gs'.length ≤ 2100 := by
              have := hgl2.out
              omega
            have hkU : Hid (Kept (fun k => k < s) W0 ((w8.alloc (.cells #[.int .u64 (za : Int), .int .u64 (zb : Int), .int .u64 (zc : Int), .int .u64 (zd : Int)] 97)).drew)) := hid (hkr.out.step (Kept.of_below (bl_step hUb.out hUl.out) (F := noBlk)) (fun _ _ h => h.elim))
            have hBU : Hid (Below B w ((w8.alloc (.cells #[.int .u64 (za : Int), .int .u64 (zb : Int), .int .u64 (zc : Int), .int .u64 (zd : Int)] 97)).drew)) := hid (bstep hbl (bl_step hUb.out hUl.out) hM.out.size)
            have hsizeU : ((w8.alloc (.cells #[.int .u64 (za : Int), .int .u64 (zb : Int), .int .u64 (zc : Int), .int .u64 (zd : Int)] 97)).drew).heap.size = w8.heap.size + 1 := by simp
            generalize hS1 : S ++ p.sets.take k = S1 at *
            go_wp2_with fail
            apply collapse
            case h =>
              intro rest
              go_region_law ((first
                | (refine step_append_lies _ (by rfl) (.tmp 66) (.tmp 68) 74 (by rfl) B 97 iS (.agg #[.int .u64 0, .int .u64 0, .int .u64 0, .int .u64 0]) 4 32 Tryz.underlying74 hiS zS0 zS1 zS2 rfl (by decide) (.slice sa' S1.length sc') S1.length (flatS S1) (by rfl) Ml.out.sets ⟨w8.heap.size, 0, none⟩ 1 1 [.int .u64 (za : Int), .int .u64 (zb : Int), .int .u64 (zc : Int), .int .u64 (zd : Int)] (by rfl) (by rfl) (World.news_of_block (w := (w8.alloc (.cells #[.int .u64 (za : Int), .int .u64 (zb : Int), .int .u64 (zc : Int), .int .u64 (zd : Int)] 97)).drew) (heap_new w8 (.cells #[.int .u64 (za : Int), .int .u64 (zb : Int), .int .u64 (zc : Int), .int .u64 (zd : Int)] 97))) (by simp [Value.oneCell']) (by omega) (by (unfold maxLen); omega) (by omega) Ml.out.size (w8.heap.size + 1) hsizeU ?_; intro g5 c5 w5 hown5 hgrow5 hat5 hlt5; have hat5' : ∀ k, (Value.slice (some ⟨g5, 0, none⟩) (S1.length + 1) c5).ownBlock = some k → (Value.slice sa' S1.length sc').ownBlock = some k ∨ ((w8.alloc (.cells #[.int .u64 (za : Int), .int .u64 (zb : Int), .int .u64 (zc : Int), .int .u64 (zd : Int)] 97)).drew).heap.size ≤ k := (fun k e0 => hat5.elim (fun e1 => Or.inl (e1.trans e0)) (fun e1 => Or.inr (by (have e2 : g5 = k := (by injection e0)); omega))); have M5 := hid (Ml.out.addSet (ownS_snoc hown5 rfl) hgrow5 hat5'); obtain ⟨x0, x1, x2, x3, y0, y1, y2, y3⟩ := cells4p (grown_blk hgrow5 Ml.out.blk (fun e0 => (Ml.out.sF _ e0).2.1 rfl)); have hk5 := hid (kept_lowP hkU.out hgrow5 (fun k e0 => (Ml.out.sF k e0).1) hFr.out); have hB5 := hid (bgrow hBU.out hgrow5 Ml.out.size (fun k e0 => (Ml.out.sets.lt k e0).1)); have hF5 : Hid (∀ k, (F' k ∨ (Value.slice (some ⟨g5, 0, none⟩) (S1.length + 1) c5).ownBlock = some k) → k < s ∨ W0.heap.size ≤ k) := hid (fun k hk => hk.elim (hFr.out k) (fun h1 => (hat5' k h1).elim (fun h2 => hFr.out k (Ml.out.sF k h2).1) (fun h2 => Or.inr (Nat.le_trans hkU.out.size h2)))); have hO5 := hid (own_set (pb := pb) (o := 1) (x := .slice (some ⟨g5, 0, none⟩) (S1.length + 1) c5) (own_kept (own_below hO2.out hUl.out) (Kept.of_grown hgrow5) (fun j e0 e1 => Nat.lt_irrefl _ (Nat.lt_of_lt_of_le (hFb.out j (Ml.out.sF j e1).1) (hO2.out.lt j e0).1))) (fun e0 => Nat.lt_irrefl _ (Nat.lt_of_lt_of_le (hFb.out pb Ml.out.inF) (hO2.out.lt pb e0).1))); have hof5 := hid (off_more (v5 := .slice (some ⟨g5, 0, none⟩) (S1.length + 1) c5) hO2.out hFb.out (fun k h1 => (hat5' k h1).elim (fun h2 => Or.inl (Ml.out.sF k h2).1) (fun h2 => Or.inr (by omega)))))
                | fail))
              all_goals
                have hk5' := hid (hk5.out.setCell (a := ⟨pb, 1, none⟩) (v := .slice (some ⟨g5, 0, none⟩) (S1.length + 1) c5) (fun _ => hF0.out _ h0.out.inF))
                have hB5' := hid (bl_set hB5.out pb 1 (.slice (some ⟨g5, 0, none⟩) (S1.length + 1) c5) Ml.out.base)
                have M5' := hid M5.out
                generalize w5.setCell ⟨pb, 1, none⟩ (.slice (some ⟨g5, 0, none⟩) (S1.length + 1) c5) = W5 at M5' hk5' hB5' hO5 ⊢
                obtain ⟨sv5, hsv5⟩ : ∃ v, v = Value.slice (some ⟨g5, 0, none⟩) (S1.length + 1) c5 := ⟨_, rfl⟩
                rw [← hsv5] at M5' hF5 hof5 ⊢
                clear hsv5
                obtain ⟨F5, hF5e⟩ : ∃ F5, F5 = (fun k => F' k ∨ sv5.ownBlock = some k) := ⟨_, rfl⟩
                rw [← hF5e] at M5' hof5
                have hF6 : Hid (∀ k, F5 k → k < s ∨ W0.heap.size ≤ k) := hid (fun k hk => hF5.out k (by rw [hF5e] at hk; exact hk))
                clear hF5e hF5
                have hall := hid (And.intro hO5.out (And.intro hof5.out (And.intro hk5'.out (And.intro hB5'.out (And.intro M5'.out hF6.out)))))
                clear hO5 hof5 hk5' hB5' M5' hF6
                revert hall
                revert W5 sv5 F5
                exact rest.out
            case pf =>
              intro W5 sv5 F5 hall
              obtain ⟨hO5, hof5, hk5', hB5', M5', hF5⟩ := hall.out
              have hO5 := hid hO5
              have hof5 := hid hof5
              have hk5' := hid hk5'
              have hB5' := hid hB5'
              have M5' := hid M5'
              have hF5 := hid hF5
              clear hall
              clear c0 c1 c2 c3 f0 f1 f2 f3 z0 z1 z2 z3 l0 l1 l2 l3 m0 m1 m2 m3 Ml
              obtain ⟨c0, c1, c2, c3, f0, f1, f2, f3⟩ := cells4p M5'.out.blk
              have hal6 := hid (al' W5 (.cells #[(.slice va bl.length vc)] 23))
              have M6 := hid (M5'.out.keep hal6.out)
              have hN6 := hid ((Nums.of_row hO5.out).keep hal6.out)
              have hk6 : Hid (Kept (fun k => k < s) W0 (W5.alloc (.cells #[(.slice va bl.length vc)] 23))) := hid (hk5'.out.step (Kept.of_below hal6.out (F := noBlk)) (fun _ _ h => h.elim))
              have hB6 := hid (bstep hB5'.out hal6.out M5'.out.size)
              have hpW5 := blk_lt M5'.out.blk
              have hpn5 : pb ≠ W5.heap.size := by omega
              go_wp2_with (at_builtin; refine wpList_append_lies _ (by rfl) _ _ _ (by rfl) B 23 iN (.slice none 0 0) 1 24 Tryz.underlying22 hiN zN0 zN1 zN2 rfl (by decide) (.slice ba' gs'.length bc') gs'.length gs' (by rfl) M6.out.beh ⟨W5.heap.size, 0, none⟩ 1 1 [(.slice va bl.length vc)] (by rfl) (by rfl) (World.news_of_block (heap_new W5 (.cells #[(.slice va bl.length vc)] 23))) (by simp [Value.oneCell']) (by omega) (by (unfold maxLen); omega) (by omega) M6.out.size (World.heap (W5.alloc (.cells #[(.slice va bl.length vc)] 23))).size rfl ?_; intro g6 c6 w6 hown6 hgrow6 hat6 hlt6; have hat6' : ∀ k, (Value.slice (some ⟨g6, 0, none⟩) (gs'.length + 1) c6).ownBlock = some k → (Value.slice ba' gs'.length bc').ownBlock = some k ∨ (W5.alloc (.cells #[(.slice va bl.length vc)] 23)).heap.size ≤ k := (fun k e0 => hat6.elim (fun e1 => Or.inl (e1.trans e0)) (fun e1 => Or.inr (by (have e2 : g6 = k := (by injection e0)); omega))); have M7 := hid (M6.out.addBeh hN6.out hof5.out hown6 hgrow6 hat6'); obtain ⟨x0, x1, x2, x3, y0, y1, y2, y3⟩ := cells4p (grown_blk hgrow6 M6.out.blk (fun e0 => (M6.out.bF _ e0).2.1 rfl)); have hk7 := hid ((kept_lowP hk6.out hgrow6 (fun k e0 => (M6.out.bF k e0).1) hF5.out).setCell (a := ⟨pb, 2, none⟩) (v := .slice (some ⟨g6, 0, none⟩) (gs'.length + 1) c6) (fun _ => hF0.out _ h0.out.inF)); have hB7 := hid (bl_set (bgrow hB6.out hgrow6 M6.out.size (fun k e0 => (M6.out.beh.lt k e0).1)) pb 2 (.slice (some ⟨g6, 0, none⟩) (gs'.length + 1) c6) M6.out.base); have hF7 : Hid (∀ k, (_ ∨ (Value.slice (some ⟨g6, 0, none⟩) (gs'.length + 1) c6).ownBlock = some k) → k < s ∨ W0.heap.size ≤ k) := hid (fun k hk => hk.elim (hF5.out k) (fun h1 => (hat6' k h1).elim (fun h2 => hF5.out k (M6.out.bF k h2).1) (fun h2 => Or.inr (Nat.le_trans hk6.out.size h2)))))
              go_roundw
              case rel => exact ⟨k + 1, _, _, _, _, by omega, by go_num, hid (by rw [htk.out, hbg'.out, ← List.append_assoc, ← List.append_assoc, hS1]; exact M7.out), hF7, hk7, hB7.out⟩
              case measure => simp [intOf]; omega
        · have hltz : ¬ (k : Int) < (p.sets.length : Int) := by omega
          obtain rfl : k = p.sets.length := by omega
          have hfinal : Hid (PlX B pb e wr (S ++ p.sets) (G ++ begB S.length en p p.sets.length) FF) := hid ⟨_, _, _, _, _, by have := hM.out; rw [List.take_length] at this; exact this⟩
          go_wp2
          first | go_end0 | skip
          exact ⟨rfl, hfinal.out, hbl⟩
    | true =>
      rw [hnu] at R1
      obtain ⟨c0, c1, c2, c3, f0, f1, f2, f3⟩ := cells4p M3.out.blk
      have hal3 := hid (al' W3 (.cells #[.int .i64 (en : Int)] 3))
      have M4 := hid (M3.out.keep hal3.out)
      have hpW3 := blk_lt M3.out.blk
      have hpn3 : pb ≠ W3.heap.size := by omega
      have hk4 : Hid (Kept (fun k => k < s) W0 (W3.alloc (.cells #[.int .i64 (en : Int)] 3))) := hid (hk3.out.step (Kept.of_below hal3.out (F := noBlk)) (fun _ _ h => h.elim))
      have hB4 := hid (bstep hB3.out hal3.out M3.out.size)
      obtain ⟨fa3, fc3, rfl⟩ := own_shape M3.out.fir
      have hfir4 : Hid (World.ownsRow (W3.alloc (.cells #[.int .i64 (en : Int)] 3)) B 3 1 (.slice fa3 (f ++ ml).length fc3) (f ++ ml).length (numCells (f ++ ml))) := hid M4.out.fir
      have hsn : Hid (∀ (w4 : World) (g4 c4 : Nat), w4.ownsRow B 3 1 (.slice (some ⟨g4, 0, none⟩) ((f ++ ml).length + 1) c4) ((f ++ ml).length + 1) (numCells (f ++ ml) ++ [.int .i64 (en : Int)]) → Own w4 B (.slice (some ⟨g4, 0, none⟩) ((f ++ ml).length + 1) c4) (f ++ ml ++ [(en : Int)])) := hid (fun w4 g4 c4 h => by have e1 : (f ++ ml ++ [(en : Int)]).length = (f ++ ml).length + 1 := List.length_append; unfold Own; rw [e1, numCells_snoc]; exact h)
      generalize hnf3 : (f ++ ml).length = nf3 at *
      go_wp2_with (at_builtin; refine wpList_append_lies _ (by rfl) _ _ _ (by rfl) B 3 i0 (.int .i64 0) 1 8 Tryz.underlying23 hi0 z00 z01 z02 rfl (by decide) (.slice fa3 nf3 fc3) nf3 (numCells (f ++ ml)) (by rfl) hfir4.out ⟨W3.heap.size, 0, none⟩ 1 1 [.int .i64 (en : Int)] (by rfl) (by rfl) (World.news_of_block (heap_new W3 (.cells #[.int .i64 (en : Int)] 3))) (by simp [Value.oneCell']) (by omega) (by (unfold maxLen); omega) (by omega) M4.out.size (World.heap (W3.alloc (.cells #[.int .i64 (en : Int)] 3))).size rfl ?_; intro g4 c4 w4 hown4 hgrow4 hat4 hlt4; have hat4' : ∀ k, (Value.slice (some ⟨g4, 0, none⟩) (nf3 + 1) c4).ownBlock = some k → (Value.slice fa3 nf3 fc3).ownBlock = some k ∨ (W3.alloc (.cells #[.int .i64 (en : Int)] 3)).heap.size ≤ k := (fun k e0 => hat4.elim (fun e1 => Or.inl (e1.trans e0)) (fun e1 => Or.inr (by (have e2 : g4 = k := (by injection e0)); omega))); have hown4' : Own w4 B (.slice (some ⟨g4, 0, none⟩) (nf3 + 1) c4) (f ++ ml ++ [(en : Int)]) := hsn.out _ _ _ hown4; have M5 := hid (M4.out.addFirst hown4' hgrow4 hat4'); obtain ⟨x0, x1, x2, x3, y0, y1, y2, y3⟩ := cells4p (grown_blk hgrow4 M4.out.blk (fun e0 => (M4.out.fF _ e0).2 rfl)); have hk5 := hid ((kept_lowP hk4.out hgrow4 (fun k e0 => (M4.out.fF k e0).1) hF2.out).setCell (a := ⟨pb, 3, none⟩) (v := .slice (some ⟨g4, 0, none⟩) (nf3 + 1) c4) (fun _ => hF0.out _ h0.out.inF)); have hB5 := hid (bl_set (bgrow hB4.out hgrow4 M4.out.size (fun k e0 => (M4.out.fir.lt k e0).1)) pb 3 (.slice (some ⟨g4, 0, none⟩) (nf3 + 1) c4) M4.out.base); have hF5 : Hid (∀ k, (F3 k ∨ (Value.slice (some ⟨g4, 0, none⟩) (nf3 + 1) c4).ownBlock = some k) → k < s ∨ W0.heap.size ≤ k) := hid (fun k hk => hk.elim (hF2.out k) (fun h1 => (hat4' k h1).elim (fun h2 => hF2.out k (M4.out.fF k h2).1) (fun h2 => Or.inr (Nat.le_trans hk4.out.size h2)))); obtain ⟨V0, V1, V2, V3, -⟩ := cells4p M5.out.blk; obtain ⟨U0, U1, U2, U3, U4, -⟩ := cells5s (hrb.out _ hk5.out))
      clear x0 x1 x2 x3 y0 y1 y2 y3 c0 c1 c2 c3 f0 f1 f2 f3 R0 R1 R2 R3 R4 V0 V1 V2 V3 U0 U1 U2 U3 U4
      obtain ⟨fv4, hfv4⟩ : ∃ v, v = Value.slice (some ⟨g4, 0, none⟩) (nf3 + 1) c4 := ⟨_, rfl⟩
      rw [← hfv4] at hk5 hB5 M5 hF5 ⊢
      clear hfv4
      generalize w4.setCell ⟨pb, 3, none⟩ fv4 = W6 at hk5 hB5 M5 ⊢
      have hkX := hk5
      have hBX := hB5
      have hFX := hF5
      have MX : Hid (PlO B pb e _ W6 _ _ fv4 S gs G FF) := hid (by rw [hFF.out, hnu, if_pos rfl, ← List.append_assoc]; exact M5.out)

      obtain ⟨R0, R1, R2, R3, R4, -⟩ := cells5s (hrb.out W6 hkX.out)
      have hglG := hid MX.out.nums.1
      go_wp2_with fail
      go_loopw [42] (fun i wr => ∃ (k : Nat) (F' : Nat → Prop) (sv' bv' : Value) (gs' : List Value), k ≤ p.sets.length ∧ i = .int .i64 k ∧ Hid (PlO B pb e F' wr sv' bv' fv4 (S ++ p.sets.take k) gs' (G ++ begB S.length en p k) FF) ∧ Hid (∀ k, F' k → k < s ∨ W0.heap.size ≤ k) ∧ Hid (Kept (fun k => k < s) W0 wr) ∧ Below B w wr) (fun i _ => p.sets.length - (intOf i).toNat)
      case atStart => exact ⟨0, _, _, _, _, Nat.zero_le _, rfl, hid (by rw [List.take_zero, List.append_nil, begB, List.append_nil]; exact MX.out), hFX, hkX, hBX.out⟩
      case round =>
        obtain ⟨k, F', sv', bv', gs', hk, rfl, hM, hFr, hkr, hbl⟩ := hrel
        by_cases hlt : k < p.sets.length
        · have hltz : (k : Int) < (p.sets.length : Int) := by omega
          have hsp := hr0.out.kept hkr.out
          have hbox := hid (hrb.out wr hkr.out)
          have hws : w.heap.size < wr.heap.size := by have := hs0.out; have := hkr.out.size; omega
          have hwn : w.heap.size ≠ wr.heap.size := by omega
          obtain ⟨Q0, Q1, Q2, Q3, Q4, -⟩ := cells5s hbox.out
          obtain ⟨sa1, sc1, es, hsat⟩ := sets_at hsp.sets
          injection es with es1 es2 es3
          obtain ⟨b1, o1, hsa1, hb1, hfit, h4⟩ := hsat k hlt
          rw [hsa1] at es1
          obtain ⟨ga1, gc1, eg, hgat⟩ := numss_at hsp.follow
          injection eg with eg1 eg2 eg3
          obtain ⟨b2, o2, x, hga1, hb2, hx, hNx⟩ := hgat k (by rw [hfol.out]; exact hlt)
          rw [hga1] at eg1
          have hNl := hsp.last
          have hfk := (hsm'.out).fol k
          have hll := hsm'.out.last
          have htk : Hid (p.sets.take (k + 1) = p.sets.take k ++ [p.sets.getD k noneB]) := hid (by rw [List.take_succ_eq_append_getElem hlt, List.getD_eq_getElem?_getD, List.getElem?_eq_getElem hlt]; rfl)
          have hbg : Hid (begB S.length en p (k + 1) = begB S.length en p k ++ [movL S.length (p.follow.getD k []) ++ (if p.last.contains (k : Int) then [(en : Int)] else [])]) := hid rfl
          generalize p.sets.getD k noneB = Z at h4 hfit htk
          obtain ⟨za, zb, zc, zd⟩ := Z
          obtain ⟨u0, u1, u2, u3⟩ := h4
          simp only at u0 u1 u2 u3
          have hal := hid (al' wr (.cells #[.int .u64 (za : Int), .int .u64 (zb : Int), .int .u64 (zc : Int), .int .u64 (zd : Int)] 97))
          have hzb := hid (heap_new wr (.cells #[.int .u64 (za : Int), .int .u64 (zb : Int), .int .u64 (zc : Int), .int .u64 (zd : Int)] 97))
          have GMk := hid (GM.out x _ (wr.alloc (.cells #[.int .u64 (za : Int), .int .u64 (zb : Int), .int .u64 (zc : Int), .int .u64 (zd : Int)] 97)) (by have := hfk.1; omega) (fun y hy => by have := hfk.2 y hy; omega) (hNx.keep hal.out))
          have GHk := hid (fun u (hu : Below wr.heap.size wr u) => setsHas _ p.last (k : Int) u (by omega) (hNl.keep hu))
          have hmk60 : (movL S.length (p.follow.getD k [])).length ≤ 60 := by rw [movL_len]; exact hfk.1
          generalize p.last.contains (k : Int) = lt at GHk hbg
          generalize movL S.length (p.follow.getD k []) = mk at GMk hbg hmk60
          have hgl2 : Hid (gs'.length = G.length + k) := hid (by rw [hM.out.nums.1, List.length_append, begB_is, List.length_map, List.length_range])
          have hGl : G.length ≤ 2000 := by have := hglG.out; omega
          have hFb : Hid (∀ k, F' k → k < (wr.alloc (.cells #[.int .u64 (za : Int), .int .u64 (zb : Int), .int .u64 (zc : Int), .int .u64 (zd : Int)] 97)).heap.size) := hid (fun k hk => by have := hM.out.lt k hk; simp; omega)
          obtain ⟨sa', sc', rfl⟩ := own_shape hM.out.sets
          obtain ⟨ba', bc', rfl⟩ := own_shape hM.out.beh
          subst es1 eg1
          clear hsat hgat hNx hNl hsp hfit hsa1 hga1 es2 es3 eg2 eg3 hfk
          cases lt with
          | false =>
            go_wp2_with (first
              | (go_at_call 67; refine GMk.out.mono ?_; rintro z w7 ⟨v7, rfl, hO2, hUz, -⟩; have hUb := hUz; obtain ⟨T0, T1, T2, T3, T4, -⟩ := cells5s (hs_keep hbox.out (bl_step hal.out hUz)))
              | (go_at_call 68; refine (GHk.out w7 (bl_step hal.out hUz)).mono ?_; rintro z u7 ⟨rfl, hu7⟩; subst u7))
            have hbg' : Hid (begB S.length en p (k + 1) = begB S.length en p k ++ [mk]) := hid (by rw [hbg.out, if_neg Bool.false_ne_true, List.append_nil])
            obtain ⟨va, vc, rfl⟩ := own_shape hO2
            -- one set more, one list more
            have hO2 := hid hO2
            have hUb := hid (bl_step hal.out hUz)
            have Mu := hid (hM.out.keep hUb.out)
            have hub : Hid (w7.heap[wr.heap.size]? = some (.cells #[.int .u64 (za : Int), .int .u64 (zb : Int), .int .u64 (zc : Int), .int .u64 (zd : Int)] 97)) := hid (hs_keep hzb.out hUz)
            have hUd : Hid (Below w7.heap.size w7 w7.drew) := hid (Below.refl _ _).drew
            have Md := hid (Mu.out.keep hUd.out)
            obtain ⟨c0, c1, c2, c3, f0, f1, f2, f3⟩ := cells4p Md.out.blk
            obtain ⟨z0, z1, z2, z3, -⟩ := cells4p (hs_keep hub.out hUd.out)
            have hUl : Hid (Below w7.heap.size w7 (w7.alloc (.cells #[.int .u64 (za : Int), .int .u64 (zb : Int), .int .u64 (zc : Int), .int .u64 (zd : Int)] 97)).drew) := hid (bl_step (al' w7 (.cells #[.int .u64 (za : Int), .int .u64 (zb : Int), .int .u64 (zc : Int), .int .u64 (zd : Int)] 97)) (Below.refl _ _).drew)
            have Ml := hid (Mu.out.keep hUl.out)
            obtain ⟨l0, l1, l2, l3, m0, m1, m2, m3⟩ := cells4p Ml.out.blk
            have hsl : (S ++ p.sets.take k).length ≤ 2100 := by rw [List.length_append, List.length_take]; omega
            have hgsl : gs'.length ≤ 2100 := by
              have := hgl2.out
              omega
            have hkU : Hid (Kept (fun k => k < s) W0 ((w7.alloc (.cells #[.int .u64 (za : Int), .int .u64 (zb : Int), .int .u64 (zc : Int), .int .u64 (zd : Int)] 97)).drew)) := hid (hkr.out.step (Kept.of_below (bl_step hUb.out hUl.out) (F := noBlk)) (fun _ _ h => h.elim))
            have hBU : Hid (Below B w ((w7.alloc (.cells #[.int .u64 (za : Int), .int .u64 (zb : Int), .int .u64 (zc : Int), .int .u64 (zd : Int)] 97)).drew)) := hid (bstep hbl (bl_step hUb.out hUl.out) hM.out.size)
            have hsizeU : ((w7.alloc (.cells #[.int .u64 (za : Int), .int .u64 (zb : Int), .int .u64 (zc : Int), .int .u64 (zd : Int)] 97)).drew).heap.size = w7.heap.size + 1 := by simp
            generalize hS1 : S ++ p.sets.take k = S1 at *
            go_wp2_with fail
            apply collapse
            case h =>
              intro rest
              go_region_law ((first
                | (refine step_append_lies _ (by rfl) (.tmp 66) (.tmp 68) 74 (by rfl) B 97 iS (.agg #[.int .u64 0, .int .u64 0, .int .u64 0, .int .u64 0]) 4 32 Tryz.underlying74 hiS zS0 zS1 zS2 rfl (by decide) (.slice sa' S1.length sc') S1.length (flatS S1) (by rfl) Ml.out.sets ⟨w7.heap.size, 0, none⟩ 1 1 [.int .u64 (za : Int), .int .u64 (zb : Int), .int .u64 (zc : Int), .int .u64 (zd : Int)] (by rfl) (by rfl) (World.news_of_block (w := (w7.alloc (.cells #[.int .u64 (za : Int), .int .u64 (zb : Int), .int .u64 (zc : Int), .int .u64 (zd : Int)] 97)).drew) (heap_new w7 (.cells #[.int .u64 (za : Int), .int .u64 (zb : Int), .int .u64 (zc : Int), .int .u64 (zd : Int)] 97))) (by simp [Value.oneCell']) (by omega) (by (unfold maxLen); omega) (by omega) Ml.out.size (w7.heap.size + 1) hsizeU ?_; intro g5 c5 w5 hown5 hgrow5 hat5 hlt5; have hat5' : ∀ k, (Value.slice (some ⟨g5, 0, none⟩) (S1.length + 1) c5).ownBlock = some k → (Value.slice sa' S1.length sc').ownBlock = some k ∨ ((w7.alloc (.cells #[.int .u64 (za : Int), .int .u64 (zb : Int), .int .u64 (zc : Int), .int .u64 (zd : Int)] 97)).drew).heap.size ≤ k := (fun k e0 => hat5.elim (fun e1 => Or.inl (e1.trans e0)) (fun e1 => Or.inr (by (have e2 : g5 = k := (by injection e0)); omega))); have M5 := hid (Ml.out.addSet (ownS_snoc hown5 rfl) hgrow5 hat5'); obtain ⟨x0, x1, x2, x3, y0, y1, y2, y3⟩ := cells4p (grown_blk hgrow5 Ml.out.blk (fun e0 => (Ml.out.sF _ e0).2.1 rfl)); have hk5 := hid (kept_lowP hkU.out hgrow5 (fun k e0 => (Ml.out.sF k e0).1) hFr.out); have hB5 := hid (bgrow hBU.out hgrow5 Ml.out.size (fun k e0 => (Ml.out.sets.lt k e0).1)); have hF5 : Hid (∀ k, (F' k ∨ (Value.slice (some ⟨g5, 0, none⟩) (S1.length + 1) c5).ownBlock = some k) → k < s ∨ W0.heap.size ≤ k) := hid (fun k hk => hk.elim (hFr.out k) (fun h1 => (hat5' k h1).elim (fun h2 => hFr.out k (Ml.out.sF k h2).1) (fun h2 => Or.inr (Nat.le_trans hkU.out.size h2)))); have hO5 := hid (own_set (pb := pb) (o := 1) (x := .slice (some ⟨g5, 0, none⟩) (S1.length + 1) c5) (own_kept (own_below hO2.out hUl.out) (Kept.of_grown hgrow5) (fun j e0 e1 => Nat.lt_irrefl _ (Nat.lt_of_lt_of_le (hFb.out j (Ml.out.sF j e1).1) (hO2.out.lt j e0).1))) (fun e0 => Nat.lt_irrefl _ (Nat.lt_of_lt_of_le (hFb.out pb Ml.out.inF) (hO2.out.lt pb e0).1))); have hof5 := hid (off_more (v5 := .slice (some ⟨g5, 0, none⟩) (S1.length + 1) c5) hO2.out hFb.out (fun k h1 => (hat5' k h1).elim (fun h2 => Or.inl (Ml.out.sF k h2).1) (fun h2 => Or.inr (by omega)))))
                | fail))
              all_goals
                have hk5' := hid (hk5.out.setCell (a := ⟨pb, 1, none⟩) (v := .slice (some ⟨g5, 0, none⟩) (S1.length + 1) c5) (fun _ => hF0.out _ h0.out.inF))
                have hB5' := hid (bl_set hB5.out pb 1 (.slice (some ⟨g5, 0, none⟩) (S1.length + 1) c5) Ml.out.base)
                have M5' := hid M5.out
                generalize w5.setCell ⟨pb, 1, none⟩ (.slice (some ⟨g5, 0, none⟩) (S1.length + 1) c5) = W5 at M5' hk5' hB5' hO5 ⊢
                obtain ⟨sv5, hsv5⟩ : ∃ v, v = Value.slice (some ⟨g5, 0, none⟩) (S1.length + 1) c5 := ⟨_, rfl⟩
                rw [← hsv5] at M5' hF5 hof5 ⊢
                clear hsv5
                obtain ⟨F5, hF5e⟩ : ∃ F5, F5 = (fun k => F' k ∨ sv5.ownBlock = some k) := ⟨_, rfl⟩
                rw [← hF5e] at M5' hof5
                have hF6 : Hid (∀ k, F5 k → k < s ∨ W0.heap.size ≤ k) := hid (fun k hk => hF5.out k (by rw [hF5e] at hk; exact hk))
                clear hF5e hF5
                have hall := hid (And.intro hO5.out (And.intro hof5.out (And.intro hk5'.out (And.intro hB5'.out (And.intro M5'.out hF6.out)))))
                clear hO5 hof5 hk5' hB5' M5' hF6
                revert hall
                revert W5 sv5 F5
                exact rest.out
            case pf =>
              intro W5 sv5 F5 hall
              obtain ⟨hO5, hof5, hk5', hB5', M5', hF5⟩ := hall.out
              have hO5 := hid hO5
              have hof5 := hid hof5
              have hk5' := hid hk5'
              have hB5' := hid hB5'
              have M5' := hid M5'
              have hF5 := hid hF5
              clear hall
              clear c0 c1 c2 c3 f0 f1 f2 f3 z0 z1 z2 z3 l0 l1 l2 l3 m0 m1 m2 m3 Ml
              obtain ⟨c0, c1, c2, c3, f0, f1, f2, f3⟩ := cells4p M5'.out.blk
              have hal6 := hid (al' W5 (.cells #[(.slice va mk.length vc)] 23))
              have M6 := hid (M5'.out.keep hal6.out)
              have hN6 := hid ((Nums.of_row hO5.out).keep hal6.out)
              have hk6 : Hid (Kept (fun k => k < s) W0 (W5.alloc (.cells #[(.slice va mk.length vc)] 23))) := hid (hk5'.out.step (Kept.of_below hal6.out (F := noBlk)) (fun _ _ h => h.elim))
              have hB6 := hid (bstep hB5'.out hal6.out M5'.out.size)
              have hpW5 := blk_lt M5'.out.blk
              have hpn5 : pb ≠ W5.heap.size := by omega
              go_wp2_with (at_builtin; refine wpList_append_lies _ (by rfl) _ _ _ (by rfl) B 23 iN (.slice none 0 0) 1 24 Tryz.underlying22 hiN zN0 zN1 zN2 rfl (by decide) (.slice ba' gs'.length bc') gs'.length gs' (by rfl) M6.out.beh ⟨W5.heap.size, 0, none⟩ 1 1 [(.slice va mk.length vc)] (by rfl) (by rfl) (World.news_of_block (heap_new W5 (.cells #[(.slice va mk.length vc)] 23))) (by simp [Value.oneCell']) (by omega) (by (unfold maxLen); omega) (by omega) M6.out.size (World.heap (W5.alloc (.cells #[(.slice va mk.length vc)] 23))).size rfl ?_; intro g6 c6 w6 hown6 hgrow6 hat6 hlt6; have hat6' : ∀ k, (Value.slice (some ⟨g6, 0, none⟩) (gs'.length + 1) c6).ownBlock = some k → (Value.slice ba' gs'.length bc').ownBlock = some k ∨ (W5.alloc (.cells #[(.slice va mk.length vc)] 23)).heap.size ≤ k := (fun k e0 => hat6.elim (fun e1 => Or.inl (e1.trans e0)) (fun e1 => Or.inr (by (have e2 : g6 = k := (by injection e0)); omega))); have M7 := hid (M6.out.addBeh hN6.out hof5.out hown6 hgrow6 hat6'); obtain ⟨x0, x1, x2, x3, y0, y1, y2, y3⟩ := cells4p (grown_blk hgrow6 M6.out.blk (fun e0 => (M6.out.bF _ e0).2.1 rfl)); have hk7 := hid ((kept_lowP hk6.out hgrow6 (fun k e0 => (M6.out.bF k e0).1) hF5.out).setCell (a := ⟨pb, 2, none⟩) (v := .slice (some ⟨g6, 0, none⟩) (gs'.length + 1) c6) (fun _ => hF0.out _ h0.out.inF)); have hB7 := hid (bl_set (bgrow hB6.out hgrow6 M6.out.size (fun k e0 => (M6.out.beh.lt k e0).1)) pb 2 (.slice (some ⟨g6, 0, none⟩) (gs'.length + 1) c6) M6.out.base); have hF7 : Hid (∀ k, (_ ∨ (Value.slice (some ⟨g6, 0, none⟩) (gs'.length + 1) c6).ownBlock = some k) → k < s ∨ W0.heap.size ≤ k) := hid (fun k hk => hk.elim (hF5.out k) (fun h1 => (hat6' k h1).elim (fun h2 => hF5.out k (M6.out.bF k h2).1) (fun h2 => Or.inr (Nat.le_trans hk6.out.size h2)))))
              go_roundw
              case rel => exact ⟨k + 1, _, _, _, _, by omega, by go_num, hid (by rw [htk.out, hbg'.out, ← List.append_assoc, ← List.append_assoc, hS1]; exact M7.out), hF7, hk7, hB7.out⟩
              case measure => simp [intOf]; omega
          | true =>
            go_wp2_with (first
              | (go_at_call 67; refine GMk.out.mono ?_; rintro z w7 ⟨v7, rfl, hO7, hUz7, -⟩; have hO7 := hid hO7; obtain ⟨T0, T1, T2, T3, T4, -⟩ := cells5s (hs_keep hbox.out (bl_step hal.out hUz7)); have hO7a := hid (World.ownsRow.alloc hO7.out (.cells #[.int .i64 (en : Int)] 3)))
              | (go_at_call 68; refine (GHk.out w7 (bl_step hal.out hUz7)).mono ?_; rintro z u7 ⟨rfl, hu7⟩; subst u7)
              | (at_builtin; refine wp_app _ rfl _ _ rfl (wr.alloc (.cells #[.int .u64 (za : Int), .int .u64 (zb : Int), .int .u64 (zc : Int), .int .u64 (zd : Int)] 97)).heap.size _ [(en : Int)] _ _ rfl rfl hO7a.out (Nums.lit1 w7 _) (by simp only [List.length_singleton]; omega) (Nat.le_trans hUz7.size (by simp)) ?_; intro v8 w8 hO2 hb8; have hUz := (hUz7.trans ((al' w7 (.cells #[.int .i64 (en : Int)] 3)).mono hUz7.size)).trans hb8))
            have hbg' : Hid (begB S.length en p (k + 1) = begB S.length en p k ++ [mk ++ [(en : Int)]]) := hid (by rw [hbg.out]; simp)
            generalize mk ++ [(en : Int)] = bl at hO2 hbg'
            obtain ⟨va, vc, rfl⟩ := own_shape hO2
            -- one set more, one list more
            have hO2 := hid hO2
            have hUb := hid (bl_step hal.out hUz)
            have Mu := hid (hM.out.keep hUb.out)
            have hub : Hid (w8.heap[wr.heap.size]? = some (.cells #[.int .u64 (za : Int), .int .u64 (zb : Int), .int .u64 (zc : Int), .int .u64 (zd : Int)] 97)) := hid (hs_keep hzb.out hUz)
            have hUd : Hid (Below w8.heap.size w8 w8.drew) := hid (Below.refl _ _).drew
            have Md := hid (Mu.out.keep hUd.out)
            obtain ⟨c0, c1, c2, c3, f0, f1, f2, f3⟩ := cells4p Md.out.blk
            obtain ⟨z0, z1, z2, z3, -⟩ := cells4p (hs_keep hub.out hUd.out)
            have hUl : Hid (Below w8.heap.size w8 (w8.alloc (.cells #[.int .u64 (za : Int), .int .u64 (zb : Int), .int .u64 (zc : Int), .int .u64 (zd : Int)] 97)).drew) := hid (bl_step (al' w8 (.cells #[.int .u64 (za : Int), .int .u64 (zb : Int), .int .u64 (zc : Int), .int .u64 (zd : Int)] 97)) (Below.refl _ _).drew)
            have Ml := hid (Mu.out.keep hUl.out)
            obtain ⟨l0, l1, l2, l3, m0, m1, m2, m3⟩ := cells4p Ml.out.blk
            have hsl : (S ++ p.sets.take k).length ≤ 2100 := by rw [List.length_append, List.length_take]; omega
            have hgsl : gs'.length ≤ 2100 := by
              have := hgl2.out
              omega
            have hkU : Hid (Kept (fun k => k < s) W0 ((w8.alloc (.cells #[.int .u64 (za : Int), .int .u64 (zb : Int), .int .u64 (zc : Int), .int .u64 (zd : Int)] 97)).drew)) := hid (hkr.out.step (Kept.of_below (bl_step hUb.out hUl.out) (F := noBlk)) (fun _ _ h => h.elim))
            have hBU : Hid (Below B w ((w8.alloc (.cells #[.int .u64 (za : Int), .int .u64 (zb : Int), .int .u64 (zc : Int), .int .u64 (zd : Int)] 97)).drew)) := hid (bstep hbl (bl_step hUb.out hUl.out) hM.out.size)
            have hsizeU : ((w8.alloc (.cells #[.int .u64 (za : Int), .int .u64 (zb : Int), .int .u64 (zc : Int), .int .u64 (zd : Int)] 97)).drew).heap.size = w8.heap.size + 1 := by simp
            generalize hS1 : S ++ p.sets.take k = S1 at *
            go_wp2_with fail
            apply collapse
            case h =>
              intro rest
              go_region_law ((first
                | (refine step_append_lies _ (by rfl) (.tmp 66) (.tmp 68) 74 (by rfl) B 97 iS (.agg #[.int .u64 0, .int .u64 0, .int .u64 0, .int .u64 0]) 4 32 Tryz.underlying74 hiS zS0 zS1 zS2 rfl (by decide) (.slice sa' S1.length sc') S1.length (flatS S1) (by rfl) Ml.out.sets ⟨w8.heap.size, 0, none⟩ 1 1 [.int .u64 (za : Int), .int .u64 (zb : Int), .int .u64 (zc : Int), .int .u64 (zd : Int)] (by rfl) (by rfl) (World.news_of_block (w := (w8.alloc (.cells #[.int .u64 (za : Int), .int .u64 (zb : Int), .int .u64 (zc : Int), .int .u64 (zd : Int)] 97)).drew) (heap_new w8 (.cells #[.int .u64 (za : Int), .int .u64 (zb : Int), .int .u64 (zc : Int), .int .u64 (zd : Int)] 97))) (by simp [Value.oneCell']) (by omega) (by (unfold maxLen); omega) (by omega) Ml.out.size (w8.heap.size + 1) hsizeU ?_; intro g5 c5 w5 hown5 hgrow5 hat5 hlt5; have hat5' : ∀ k, (Value.slice (some ⟨g5, 0, none⟩) (S1.length + 1) c5).ownBlock = some k → (Value.slice sa' S1.length sc').ownBlock = some k ∨ ((w8.alloc (.cells #[.int .u64 (za : Int), .int .u64 (zb : Int), .int .u64 (zc : Int), .int .u64 (zd : Int)] 97)).drew).heap.size ≤ k := (fun k e0 => hat5.elim (fun e1 => Or.inl (e1.trans e0)) (fun e1 => Or.inr (by (have e2 : g5 = k := (by injection e0)); omega))); have M5 := hid (Ml.out.addSet (ownS_snoc hown5 rfl) hgrow5 hat5'); obtain ⟨x0, x1, x2, x3, y0, y1, y2, y3⟩ := cells4p (grown_blk hgrow5 Ml.out.blk (fun e0 => (Ml.out.sF _ e0).2.1 rfl)); have hk5 := hid (kept_lowP hkU.out hgrow5 (fun k e0 => (Ml.out.sF k e0).1) hFr.out); have hB5 := hid (bgrow hBU.out hgrow5 Ml.out.size (fun k e0 => (Ml.out.sets.lt k e0).1)); have hF5 : Hid (∀ k, (F' k ∨ (Value.slice (some ⟨g5, 0, none⟩) (S1.length + 1) c5).ownBlock = some k) → k < s ∨ W0.heap.size ≤ k) := hid (fun k hk => hk.elim (hFr.out k) (fun h1 => (hat5' k h1).elim (fun h2 => hFr.out k (Ml.out.sF k h2).1) (fun h2 => Or.inr (Nat.le_trans hkU.out.size h2)))); have hO5 := hid (own_set (pb := pb) (o := 1) (x := .slice (some ⟨g5, 0, none⟩) (S1.length + 1) c5) (own_kept (own_below hO2.out hUl.out) (Kept.of_grown hgrow5) (fun j e0 e1 => Nat.lt_irrefl _ (Nat.lt_of_lt_of_le (hFb.out j (Ml.out.sF j e1).1) (hO2.out.lt j e0).1))) (fun e0 => Nat.lt_irrefl _ (Nat.lt_of_lt_of_le (hFb.out pb Ml.out.inF) (hO2.out.lt pb e0).1))); have hof5 := hid (off_more (v5 := .slice (some ⟨g5, 0, none⟩) (S1.length + 1) c5) hO2.out hFb.out (fun k h1 => (hat5' k h1).elim (fun h2 => Or.inl (Ml.out.sF k h2).1) (fun h2 => Or.inr (by omega)))))
                | fail))
              all_goals
                have hk5' := hid (hk5.out.setCell (a := ⟨pb, 1, none⟩) (v := .slice (some ⟨g5, 0, none⟩) (S1.length + 1) c5) (fun _ => hF0.out _ h0.out.inF))
                have hB5' := hid (bl_set hB5.out pb 1 (.slice (some ⟨g5, 0, none⟩) (S1.length + 1) c5) Ml.out.base)
                have M5' := hid M5.out
                generalize w5.setCell ⟨pb, 1, none⟩ (.slice (some ⟨g5, 0, none⟩) (S1.length + 1) c5) = W5 at M5' hk5' hB5' hO5 ⊢
                obtain ⟨sv5, hsv5⟩ : ∃ v, v = Value.slice (some ⟨g5, 0, none⟩) (S1.length + 1) c5 := ⟨_, rfl⟩
                rw [← hsv5] at M5' hF5 hof5 ⊢
                clear hsv5
                obtain ⟨F5, hF5e⟩ : ∃ F5, F5 = (fun k => F' k ∨ sv5.ownBlock = some k) := ⟨_, rfl⟩
                rw [← hF5e] at M5' hof5
                have hF6 : Hid (∀ k, F5 k → k < s ∨ W0.heap.size ≤ k) := hid (fun k hk => hF5.out k (by rw [hF5e] at hk; exact hk))
                clear hF5e hF5
                have hall := hid (And.intro hO5.out (And.intro hof5.out (And.intro hk5'.out (And.intro hB5'.out (And.intro M5'.out hF6.out)))))
                clear hO5 hof5 hk5' hB5' M5' hF6
                revert hall
                revert W5 sv5 F5
                exact rest.out
            case pf =>
              intro W5 sv5 F5 hall
              obtain ⟨hO5, hof5, hk5', hB5', M5', hF5⟩ := hall.out
              have hO5 := hid hO5
              have hof5 := hid hof5
              have hk5' := hid hk5'
              have hB5' := hid hB5'
              have M5' := hid M5'
              have hF5 := hid hF5
              clear hall
              clear c0 c1 c2 c3 f0 f1 f2 f3 z0 z1 z2 z3 l0 l1 l2 l3 m0 m1 m2 m3 Ml
              obtain ⟨c0, c1, c2, c3, f0, f1, f2, f3⟩ := cells4p M5'.out.blk
              have hal6 := hid (al' W5 (.cells #[(.slice va bl.length vc)] 23))
              have M6 := hid (M5'.out.keep hal6.out)
              have hN6 := hid ((Nums.of_row hO5.out).keep hal6.out)
              have hk6 : Hid (Kept (fun k => k < s) W0 (W5.alloc (.cells #[(.slice va bl.length vc)] 23))) := hid (hk5'.out.step (Kept.of_below hal6.out (F := noBlk)) (fun _ _ h => h.elim))
              have hB6 := hid (bstep hB5'.out hal6.out M5'.out.size)
              have hpW5 := blk_lt M5'.out.blk
              have hpn5 : pb ≠ W5.heap.size := by omega
              go_wp2_with (at_builtin; refine wpList_append_lies _ (by rfl) _ _ _ (by rfl) B 23 iN (.slice none 0 0) 1 24 Tryz.underlying22 hiN zN0 zN1 zN2 rfl (by decide) (.slice ba' gs'.length bc') gs'.length gs' (by rfl) M6.out.beh ⟨W5.heap.size, 0, none⟩ 1 1 [(.slice va bl.length vc)] (by rfl) (by rfl) (World.news_of_block (heap_new W5 (.cells #[(.slice va bl.length vc)] 23))) (by simp [Value.oneCell']) (by omega) (by (unfold maxLen); omega) (by omega) M6.out.size (World.heap (W5.alloc (.cells #[(.slice va bl.length vc)] 23))).size rfl ?_; intro g6 c6 w6 hown6 hgrow6 hat6 hlt6; have hat6' : ∀ k, (Value.slice (some ⟨g6, 0, none⟩) (gs'.length + 1) c6).ownBlock = some k → (Value.slice ba' gs'.length bc').ownBlock = some k ∨ (W5.alloc (.cells #[(.slice va bl.length vc)] 23)).heap.size ≤ k := (fun k e0 => hat6.elim (fun e1 => Or.inl (e1.trans e0)) (fun e1 => Or.inr (by (have e2 : g6 = k := (by injection e0)); omega))); have M7 := hid (M6.out.addBeh hN6.out hof5.out hown6 hgrow6 hat6'); obtain ⟨x0, x1, x2, x3, y0, y1, y2, y3⟩ := cells4p (grown_blk hgrow6 M6.out.blk (fun e0 => (M6.out.bF _ e0).2.1 rfl)); have hk7 := hid ((kept_lowP hk6.out hgrow6 (fun k e0 => (M6.out.bF k e0).1) hF5.out).setCell (a := ⟨pb, 2, none⟩) (v := .slice (some ⟨g6, 0, none⟩) (gs'.length + 1) c6) (fun _ => hF0.out _ h0.out.inF)); have hB7 := hid (bl_set (bgrow hB6.out hgrow6 M6.out.size (fun k e0 => (M6.out.beh.lt k e0).1)) pb 2 (.slice (some ⟨g6, 0, none⟩) (gs'.length + 1) c6) M6.out.base); have hF7 : Hid (∀ k, (_ ∨ (Value.slice (some ⟨g6, 0, none⟩) (gs'.length + 1) c6).ownBlock = some k) → k < s ∨ W0.heap.size ≤ k) := hid (fun k hk => hk.elim (hF5.out k) (fun h1 => (hat6' k h1).elim (fun h2 => hF5.out k (M6.out.bF k h2).1) (fun h2 => Or.inr (Nat.le_trans hk6.out.size h2)))))
              go_roundw
              case rel => exact ⟨k + 1, _, _, _, _, by omega, by go_num, hid (by rw [htk.out, hbg'.out, ← List.append_assoc, ← List.append_assoc, hS1]; exact M7.out), hF7, hk7, hB7.out⟩
              case measure => simp [intOf]; omega
        · have hltz : ¬ (k : Int) < (p.sets.length : Int) := by omega
          obtain rfl : k = p.sets.length := by omega
          have hfinal : Hid (PlX B pb e wr (S ++ p.sets) (G ++ begB S.length en p p.sets.length) FF) := hid ⟨_, _, _, _, _, by have := hM.out; rw [List.take_length] at this; exact this⟩
          go_wp2
          first | go_end0 | skip
          exact ⟨rfl, hfinal.out, hbl⟩

end Go.Proofs.YtjelgphhlcecoaaGreatDoor
