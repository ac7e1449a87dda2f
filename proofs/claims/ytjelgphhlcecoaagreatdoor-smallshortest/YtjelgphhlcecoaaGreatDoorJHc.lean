/- topiaryref09.Shortest: the least text that is accepted by a rule, of those up to the number of states, or none. SmallShortest's walk. -/
import Derived.Test.YtjelgphhlcecoaaGreatDoorJHb
import Derived.Test.YtjelgphhlcecoaaGreatDoorJSl
import Derived.Test.YtjelgphhlcecoaaGreatDoorJSa
import Derived.BigRegion
namespace Go.Proofs.YtjelgphhlcecoaaGreatDoor
open Go.RowKit Go.Maps

/-- what the reference's Shortest answers of a right automaton -/
def RsR (N : List (List Int)) (A : List Int) (r : Int) (t : Txt) (z : Int) : Prop := (z = 0 ∧ BestT N A r t) ∨ (z = 4 ∧ t = [] ∧ ∀ u : Txt, u.length < N.length + 1 → doA N A 0 u ≠ r)

theorem strT_toL (s : Txt) : (strT s).toList = s := by rw [ByteArray.toList_eq]; rfl
set_option maxRecDepth 20000 in
theorem conv_oneD (b : Nat) (hb : b < 256) (w : World) : (convert 60 9 (.slice (some ⟨w.heap.size, 0, none⟩) 1 1)).run Tryz.prog (w.alloc (.cells #[.int .u8 (b : Int)] 5)).drew = .ok (.string (strT [UInt8.ofNat b])) (w.alloc (.cells #[.int .u8 (b : Int)] 5)).drew := by
  refine run_convert_bytes_back _ 60 9 5 _ 1 [UInt8.ofNat b] Tryz.underlying60 Tryz.underlying5 Tryz.underlying9 ?_
  intro j hj
  have hj0 : j = 0 := by simp at hj; omega
  subst hj0
  simp [Addr.add, ofNat_toNat hb, go_sem]
set_option maxRecDepth 20000 in
set_option maxHeartbeats 8000000 in
theorem refShortBad (nv av : Value) (N : List (List Int)) (A : List Int) (r : Int) (w : World) (hD : Dfa w nv av N A) (hl : N.length ≤ 9223372036854775807) (hr : rgtB N A = false ∨ r < 0) :
    Calls Tryz.prog 17 #[.agg #[nv, av], .int .i64 r] w fun e w' => e = .returned (.tuple #[.string ⟨#[]⟩, .int .i64 10]) ∧ Below w.heap.size w w' := by
  obtain ⟨⟨na, nc, rfl⟩, ⟨aa, ac, rfl⟩⟩ := hD.shape
  obtain ⟨W0, hW0⟩ : ∃ W0, w.alloc (.cells #[.slice na N.length nc, .slice aa A.length ac] 25) = W0 := ⟨_, rfl⟩
  have hb0 : Hid (Below w.heap.size w W0) := by rw [← hW0]; exact hid (al' w _)
  have hz0 : Hid (W0.heap[w.heap.size]? = some (.cells #[.slice na N.length nc, .slice aa A.length ac] 25)) := by rw [← hW0]; exact hid (heap_new w _)
  obtain ⟨d0, d1, -⟩ := cells2m hz0.out
  have GR := hid (refRightA _ _ N A W0 (hD.keep hb0.out) hl)
  clear hD hl
  cases h1 : rgtB N A with
  | false =>
    rw [h1] at GR
    clear hr
    go_enter Tryz.func17, Tryz.ntmps17
    go_wp2_with (go_at_call 13; refine GR.out.mono ?_; clear GR; rintro e w2 ⟨rfl, hb2⟩; have hb2 := hid hb2)
    go_ret2
    exact ⟨rfl, bl_step hb0.out hb2.out⟩
  | true =>
    have h2 : r < 0 := hr.resolve_left (by rw [h1]; simp)
    rw [h1] at GR
    clear hr
    go_enter Tryz.func17, Tryz.ntmps17
    go_wp2_with (go_at_call 13; refine GR.out.mono ?_; clear GR; rintro e w2 ⟨rfl, hb2⟩; have hb2 := hid hb2)
    go_ret2
    exact ⟨rfl, bl_step hb0.out hb2.out⟩

set_option maxRecDepth 20000 in
set_option maxHeartbeats 16000000 in
theorem refShortGood (nv av : Value) (N : List (List Int)) (A : List Int) (r : Int) (w : World) (hD : Dfa w nv av N A) (hr : RgtA N A) (hr0 : 0 ≤ r) :
    Calls Tryz.prog 17 #[.agg #[nv, av], .int .i64 r] w fun e w' => ∃ t z, e = .returned (.tuple #[.string (strT t), .int .i64 z]) ∧ RsR N A r t z ∧ Below w.heap.size w w' := by
  obtain ⟨⟨na, nc, rfl⟩, ⟨aa, ac, rfl⟩⟩ := hD.shape
  obtain ⟨W0, hW0⟩ : ∃ W0, w.alloc (.cells #[.slice na N.length nc, .slice aa A.length ac] 25) = W0 := ⟨_, rfl⟩
  have hb0 : Hid (Below w.heap.size w W0) := by rw [← hW0]; exact hid (al' w _)
  have hz0 : Hid (W0.heap[w.heap.size]? = some (.cells #[.slice na N.length nc, .slice aa A.length ac] 25)) := by rw [← hW0]; exact hid (heap_new w _)
  have hD0 := hid (hD.keep hb0.out)
  have hbx : Hid (∀ u, Below W0.heap.size W0 u → u.cell? ⟨w.heap.size, 0, none⟩ = some (.slice na N.length nc) ∧ u.cell? ⟨w.heap.size, 1, none⟩ = some (.slice aa A.length ac)) := hid (fun u hu => by
    obtain ⟨d0, d1, -⟩ := cells2m (hs_keep hz0.out hu)
    exact ⟨d0, d1⟩)
  have GR := hid (refRightA _ _ N A W0 hD0.out (by have := hr.few; omega))
  rw [rgtB_of hr] at GR
  have hrH := hid hr
  have hpos := hr.pos
  have hf := hr.few
  have hlen := hr.len
  obtain ⟨n, hn⟩ : ∃ n : Nat, Hid (N.length = n) := ⟨_, hid rfl⟩
  have hmk := run_make_row' (P := Tryz.prog) 43 4 (.bool false) 1 Tryz.underlying43 Tryz.infoBo rfl .i64 .i64 n (by have := hn.out; omega) (by have := hn.out; omega)
  have hms := run_make_row' (P := Tryz.prog) 61 9 (.string ⟨#[]⟩) 16 Tryz.underlying61 Tryz.infoStr rfl .i64 .i64 n (by have := hn.out; omega) (by have := hn.out; omega)
  have hnz : Hid (0 < n ∧ n ≤ 240) := hid (by have := hn.out; omega)
  rw [hn.out] at hbx hz0 GR hW0 ⊢
  have hAl : Hid (A.length = n) := hid (by have := hn.out; omega)
  rw [hAl.out] at hbx hz0 GR hW0 ⊢
  obtain ⟨c0, c1⟩ := hbx.out W0 (Below.refl _ _)
  have hnp : (0 : Int) < (n : Int) := by have := hnz.out; omega
  have hn0 : n ≤ 240 := hnz.out.2
  have hrf : ¬ r < 0 := by omega
  rw [hn.out, hAl.out] at hD0
  clear hD hr hlen hf hpos
  go_enter Tryz.func17, Tryz.ntmps17
  go_wp2_with (go_at_call 13; refine GR.out.mono ?_; clear GR; rintro e w2 ⟨rfl, hb2⟩; have hb2 := hid hb2; obtain ⟨x0, x1⟩ := hbx.out w2 hb2.out; obtain ⟨X1, hX1⟩ : ∃ x, w2.alloc (.cells (madeCells #[.string ⟨#[]⟩] n) 9) = x := ⟨_, rfl⟩; obtain ⟨X2, hX2⟩ : ∃ x, X1.alloc (.cells (madeCells #[.bool false] n) 4) = x := ⟨_, rfl⟩; have hS := hid (RsP.made (W0 := W0) hb2.out (by omega) hX1 hX2); obtain ⟨y0, y1⟩ := hS.out.1.flag hnz.out.1; have hl1 := hid (bl_step (bl_step hb2.out hS.out.2.1) hS.out.2.2.1); obtain ⟨X3, hX3⟩ : ∃ x, X2.setCell ⟨X1.heap.size, 0, none⟩ (.bool true) = x := ⟨_, rfl⟩)
  have hbe : Hid (∀ u, Below W0.heap.size W0 u → Below w.heap.size w u) := hid (fun u hu => bl_step hb0.out hu)
  have hne0 : Hid (w2.heap.size ≠ X1.heap.size ∧ W0.heap.size ≤ X1.heap.size) := hid (by have h1 := hS.out.2.2.2; have h2 := hb2.out.size; exact ⟨by omega, by omega⟩)
  have hP0 : Hid (RsP n W0 X3 w2.heap.size X1.heap.size (List.replicate n []) ((List.replicate n false).set 0 true)) := hid (by rw [← hX3]; exact hS.out.1.flag1 hne0.out.1 0)
  have hlow0 : Hid (Below W0.heap.size W0 X3) := hid (by rw [← hX3]; exact bl_set hl1.out _ _ _ hne0.out.2)
  have hLv0 : Hid (LevI N 0 ((List.replicate n false).set 0 true) (List.replicate n [])) := hid (by
    have hl : (List.replicate n false).length = n := List.length_replicate
    refine LevI.start (by rw [hn.out]; exact hnz.out.1) ?_ (fun i hi => ?_) ?_
    · rw [getD_set' _ _ _ _ (by rw [hl]; exact hnz.out.1), if_pos rfl]
    · rw [getD_set' _ _ _ _ (by rw [hl]; exact hnz.out.1), if_neg (by omega), List.getD_eq_getElem?_getD, List.getElem?_replicate]
      split <;> rfl
    · rw [List.getD_eq_getElem?_getD, List.getElem?_replicate]
      split <;> rfl)
  clear hS hl1 hX1 hX2 hX3 y0 y1 x0 x1 c0 c1 hb2 hW0 hz0
  generalize w2.heap.size = bt at hP0 hne0 ⊢
  generalize X1.heap.size = ba at hP0 hne0 ⊢
  go_loopw [7, 8, 9] (fun tv fv x wr => ∃ (L bt ba : Nat) (tx : List Txt) (fl : List Bool), L ≤ n + 1 ∧ x = .int .i64 (L : Int) ∧ tv = .slice (some ⟨bt, 0, none⟩) n n ∧ fv = .slice (some ⟨ba, 0, none⟩) n n ∧ bt ≠ ba ∧ Hid (RsP n W0 wr bt ba tx fl) ∧ Hid (LevI N L fl tx) ∧ Hid (∀ u : Txt, u.length < L → doA N A 0 u ≠ r) ∧ Hid (Below W0.heap.size W0 wr)) (fun _ _ x _ => n + 1 - (intOf x).toNat)
  case atStart => exact ⟨0, bt, ba, _, _, by omega, rfl, rfl, rfl, hne0.out.1, hP0, hLv0, hid (fun u hu => absurd hu (Nat.not_lt_zero _)), hlow0⟩
  case round =>
    clear hne0 hP0 hLv0 hlow0
    obtain ⟨L, bt, ba, tx, fl, hL, rfl, rfl, rfl, hne, hP, hLv, hsh, hlow⟩ := hrel
    by_cases hlt : L ≤ n
    · have hltz : (L : Int) ≤ (n : Int) := by omega
      obtain ⟨d0, d1⟩ := hbx.out wr hlow.out
      go_wp2_with fail
      obtain ⟨W1, hW1⟩ : ∃ x, wr = x := ⟨_, rfl⟩
      rw [hW1] at hP hlow d0 d1 ⊢
      clear hW1
      go_loopw [10, 11, 12] (fun bv fv x wr => ∃ (i : Nat) (f : Bool) (best : Txt), i ≤ n ∧ x = .int .i64 (i : Int) ∧ fv = .bool f ∧ bv = .string (strT best) ∧ Hid (BesI N A r fl tx i f best) ∧ wr = W1) (fun _ _ x _ => n - (intOf x).toNat)
      case atStart => exact ⟨0, false, [], by omega, rfl, rfl, rfl, hid (BesI.start N A r fl tx []), rfl⟩
      case round =>
        obtain ⟨i, f, best, hi, rfl, rfl, rfl, hB, rfl⟩ := hrel
        by_cases hin : i < n
        · have hiz : (i : Int) < (n : Int) := by omega
          obtain ⟨e0, -⟩ := hP.out.flag hin
          obtain ⟨f0, -⟩ := hP.out.text hin
          obtain ⟨b3, o3, e3, hb3, hc3⟩ := nums_cell (hD0.out.keep hlow.out).acc i (by rw [hAl.out]; exact hin)
          subst e3
          have hacA : acA N A i = A.getD i 0 := acA_some (by rw [hn.out]; exact hin)
          cases hfl : fl.getD i false with
          | false =>
            rw [hfl] at e0
            have hB1 := hid (hB.out.skip (fun h => by rw [hfl] at h; cases h))
            clear hfl hacA hc3 hb3
            go_wp2
            go_roundw
            case rel => exact ⟨i + 1, f, best, by omega, by go_num, rfl, rfl, hB1, by first | rfl | trivial⟩
            case measure => simp [intOf]; omega
          | true =>
            rw [hfl] at e0
            by_cases hacc : A.getD i 0 = r
            · rw [hacc] at hc3
              cases f with
              | false =>
                have hB1 := hid (hB.out.take hfl (by rw [hacA]; exact hacc) (fun h => by cases h))
                clear hfl hacA hacc hb3
                generalize tx.getD i [] = ti at *
                go_wp2
                go_roundw
                case rel => exact ⟨i + 1, true, ti, by omega, by go_num, rfl, rfl, hB1, by first | rfl | trivial⟩
                case measure => simp [intOf]; omega
              | true =>
                have hlen : (tx.getD i []).length = best.length := by
                  obtain ⟨⟨j, hj, h1, h2, h3⟩, -⟩ := hB.out.1 rfl
                  rw [h3, (hLv.out.yes i (by rw [hn.out]; exact hin) hfl).2.1, (hLv.out.yes j (by rw [hn.out]; omega) h1).2.1]
                have hls := lessT hlen
                rcases hc : Go.Op.bytesLess (tx.getD i []) best with _ | _
                · rw [hc] at hls
                  have hB1 := hid (hB.out.skip (fun _ _ => ⟨rfl, by have := of_decide_eq_false hls.symm; omega⟩))
                  have hcc : Go.Op.bytesLess (strT (tx.getD i [])).toList (strT best).toList = false := by rw [strT_toL, strT_toL]; exact hc
                  clear hfl hacA hacc hb3 hlen hls hc
                  generalize tx.getD i [] = ti at *
                  go_wp2
                  go_roundw
                  case rel => exact ⟨i + 1, true, best, by omega, by go_num, rfl, rfl, hB1, by first | rfl | trivial⟩
                  case measure => simp [intOf]; omega
                · rw [hc] at hls
                  have hB1 := hid (hB.out.take hfl (by rw [hacA]; exact hacc) (fun _ => by have := of_decide_eq_true hls.symm; omega))
                  have hcc : Go.Op.bytesLess (strT (tx.getD i [])).toList (strT best).toList = true := by rw [strT_toL, strT_toL]; exact hc
                  clear hfl hacA hacc hb3 hlen hls hc
                  generalize tx.getD i [] = ti at *
                  go_wp2
                  go_roundw
                  case rel => exact ⟨i + 1, true, ti, by omega, by go_num, rfl, rfl, hB1, by first | rfl | trivial⟩
                  case measure => simp [intOf]; omega
            · have hB1 := hid (hB.out.skip (fun _ h => by rw [hacA] at h; exact absurd h hacc))
              have haf : (A.getD i 0 == r) = false := beq_eq_false_iff_ne.2 hacc
              clear hfl hacA hb3
              generalize A.getD i 0 = acv at *
              go_wp2
              go_roundw
              case rel => exact ⟨i + 1, f, best, by omega, by go_num, rfl, rfl, hB1, by first | rfl | trivial⟩
              case measure => simp [intOf]; omega
        · have hiz : ¬ (i : Int) < (n : Int) := by omega
          have hin' : n = i := by omega
          subst hin'
          cases f with
          | true =>
            have hfin := hid (BesI.found hr0 hLv.out (by rw [hn.out]; exact hB.out) hsh.out)
            go_wp2
            go_ret2
            exact ⟨best, 0, rfl, Or.inl ⟨rfl, hfin.out⟩, hbe.out _ hlow.out⟩
          | false =>
            have hsh1 := hid (BesI.none hr0 hLv.out (by rw [hn.out]; exact hB.out) hsh.out)
            clear hB hsh hiz
            obtain ⟨X1, hX1⟩ : ∃ x, wr.alloc (.cells (madeCells #[.string ⟨#[]⟩] n) 9) = x := ⟨_, rfl⟩
            obtain ⟨X2, hX2⟩ : ∃ x, X1.alloc (.cells (madeCells #[.bool false] n) 4) = x := ⟨_, rfl⟩
            have hS := hid (RsP.made (W0 := W0) hlow.out (by omega) hX1 hX2)
            have hP2 := hid ((hP.out.keep hS.out.2.1).keep hS.out.2.2.1)
            have hl2 := hid (bl_step (bl_step hlow.out hS.out.2.1) hS.out.2.2.1)
            have hnb : Hid (wr.heap.size ≠ X1.heap.size ∧ (wr.heap.size ≠ bt ∧ wr.heap.size ≠ ba) ∧ (X1.heap.size ≠ bt ∧ X1.heap.size ≠ ba) ∧ W0.heap.size ≤ wr.heap.size ∧ W0.heap.size ≤ X1.heap.size) := hid (by
              have h1 := hS.out.2.2.2
              have h2 := hlow.out.size
              have h3 := (hP.out.t.lt bt rfl).2
              have h4 := (hP.out.f.lt ba rfl).2
              exact ⟨by omega, ⟨by omega, by omega⟩, ⟨by omega, by omega⟩, h2, by omega⟩)
            have hS1 := hid hS.out.1
            have hA0 : Hid (ParI N L fl tx (0 * 256) (List.replicate n false) (List.replicate n [])) := hid (ParI.start (fun j => by
              rw [List.getD_eq_getElem?_getD, List.getElem?_replicate]
              split <;> rfl))
            clear hS
            go_wp2_with fail
            clear hX1 hX2 hP hlow d0 d1
            generalize wr.heap.size = bm at *
            generalize X1.heap.size = bo at *
            go_loopw [15] (fun x wr => ∃ (i : Nat) (on : List Bool) (more : List Txt), i ≤ n ∧ x = .int .i64 (i : Int) ∧ Hid (RsP n W0 wr bt ba tx fl) ∧ Hid (RsP n W0 wr bm bo more on) ∧ Hid (ParI N L fl tx (i * 256) on more) ∧ Hid (Below W0.heap.size W0 wr)) (fun x _ => n - (intOf x).toNat)
            case atStart => exact ⟨0, _, _, by omega, rfl, hP2, hS1, hA0, hl2⟩
            case round =>
              obtain ⟨i, on, more, hi, rfl, hP3, hP4, hA, hl3⟩ := hrel
              by_cases hin : i < n
              · have hiz : (i : Int) < (n : Int) := by omega
                go_wp2_with fail
                have hA : Hid (ParI N L fl tx (i * 256 + 0) on more) := hid (by rw [Nat.add_zero]; exact hA.out)
                go_loopw [16] (fun x wr => ∃ (b : Nat) (on : List Bool) (more : List Txt), b ≤ 256 ∧ x = .int .i64 (b : Int) ∧ Hid (RsP n W0 wr bt ba tx fl) ∧ Hid (RsP n W0 wr bm bo more on) ∧ Hid (ParI N L fl tx (i * 256 + b) on more) ∧ Hid (Below W0.heap.size W0 wr) ∧ Hid (fl.getD i false = false → b = 0)) (fun x _ => 256 - (intOf x).toNat)
                case atStart => exact ⟨0, on, more, by omega, rfl, hP3, hP4, hA, hl3, hid (fun _ => rfl)⟩
                case round =>
                  obtain ⟨b, on, more, hb, rfl, hP5, hP6, hA5, hl5, hz5⟩ := hrel
                  obtain ⟨e0, -⟩ := hP5.out.flag hin
                  by_cases hbt : b < 256
                  · have hbz : (b : Int) < 256 := by omega
                    cases hfl : fl.getD i false with
                    | false =>
                      rw [hfl] at e0
                      have hb0' := hz5.out hfl
                      subst hb0'
                      have hA6 := hid (ParI.pass (by have := hA5.out; rw [Nat.add_zero] at this; exact this) hfl)
                      clear hfl
                      go_wp2
                      go_roundw
                      case rel => exact ⟨i + 1, on, more, by omega, by go_num, hP5, hP6, hA6, hl5⟩
                      case measure => simp [intOf]; omega
                    | true =>
                      rw [hfl] at e0
                      obtain ⟨b1, o1, x, e1', hb1, hc1, hN1⟩ := numss_get (hD0.out.keep hl5.out).nxt (show i < N.length by rw [hn.out]; exact hin)
                      subst e1'
                      have hlen := (hrH.out.rgt i (by rw [hn.out]; exact hin)).1
                      obtain ⟨b2, o2, c2, e2, hb2, hc2⟩ := nums_get hN1 (c := b) (by omega)
                      subst e2
                      rw [hlen] at hc1
                      obtain ⟨d0, d1⟩ := hbx.out wr hl5.out
                      have hnx := nxA_some hrH.out.rgt (show i < N.length by rw [hn.out]; exact hin) hbt
                      rw [← hnx] at hc2
                      have hnle := nxA_le hrH.out.rgt i hbt
                      have hskip := hid (hA5.out.skip hbt)
                      have hkeep := hid (hA5.out.keep hbt)
                      have hput := hid (ParI.put hLv.out hA5.out hbt (by rw [hn.out]; exact hin) hfl)
                      have hyes := hid (fun to h1 h2 => (hA5.out.yes to h1 h2).2.1)
                      clear hnx hN1 hlen
                      rw [hn.out] at hc2 hnle hskip hkeep hput hyes
                      generalize nxA N i b = to at *
                      obtain ⟨f0, -⟩ := hP5.out.text hin
                      have htl := (hLv.out.yes i (by rw [hn.out]; exact hin) hfl).2.1
                      rcases Nat.lt_or_ge to n with hto | hto
                      · rw [inI_some hto] at hc2
                        have htoz : (to : Int) < (n : Int) := by omega
                        have hton : ¬ (to : Int) < 0 := by omega
                        obtain ⟨W2, hW2⟩ : ∃ x, (wr.alloc (.cells #[.int .u8 (b : Int)] 5)).drew = x := ⟨_, rfl⟩
                        have hb12 : Hid (Below wr.heap.size wr W2) := by rw [← hW2]; exact hid ((al' wr (.cells #[.int .u8 (b : Int)] 5)).drew)
                        have hcv := conv_oneD b hbt wr
                        rw [hW2] at hcv
                        obtain ⟨T1, hT1⟩ : ∃ x, strT [UInt8.ofNat b] = x := ⟨_, rfl⟩
                        have hT1s : T1.size = 1 := by rw [← hT1, strT_size]; rfl
                        rw [hT1] at hcv
                        obtain ⟨S, hS⟩ : ∃ x, strT (tx.getD i []) ++ T1 = x := ⟨_, rfl⟩
                        have hSe : Hid (S = strT (tx.getD i [] ++ [UInt8.ofNat b])) := hid (by rw [← hS, ← hT1, strT_app])
                        have hts : (strT (tx.getD i [])).size ≤ 240 := by rw [strT_size, htl]; omega
                        have hwr8 : IntKind.u8.wrap (b : Int) = (b : Int) := by rw [IntKind.wrap_u8]; omega
                        have hP7 := hid (hP5.out.keep hb12.out)
                        have hP7b := hid (hP6.out.keep hb12.out)
                        have hl7 := hid (bl_step hl5.out hb12.out)
                        obtain ⟨g0, g1⟩ := hP7b.out.flag hto
                        obtain ⟨m0, m1⟩ := hP7b.out.text hto
                        obtain ⟨m4, -⟩ := hP7.out.text hin
                        have hnat : (UInt8.ofNat b).toNat = b := by rw [UInt8.toNat_ofNat', Nat.mod_eq_of_lt hbt]
                        clear hT1
                        cases hon : on.getD to false with
                        | false =>
                          rw [hon] at g0
                          have hA6 : Hid (ParI N L fl tx (i * 256 + (b + 1)) (on.set to true) (more.set to (tx.getD i [] ++ [UInt8.ofNat b]))) := hid (hput.out hto (by rw [hP6.out.fl_len]; exact hto) (by rw [hP6.out.tx_len]; exact hto) (fun h => by rw [hon] at h; cases h))
                          have hP8 := hid (hP7b.out.put hnb.out.1 to (tx.getD i [] ++ [UInt8.ofNat b]))
                          have hP9 := hid ((hP7.out.other hnb.out.2.2.1.1 hnb.out.2.2.1.2 to (.bool true)).other hnb.out.2.1.1 hnb.out.2.1.2 to (.string (strT (tx.getD i [] ++ [UInt8.ofNat b]))))
                          have hl8 := hid (bl_set (bl_set hl7.out bo to (.bool true) hnb.out.2.2.2.2) bm to (.string (strT (tx.getD i [] ++ [UInt8.ofNat b]))) hnb.out.2.2.2.1)
                          rw [← hSe.out] at hP8 hP9 hl8
                          obtain ⟨W3, hW3⟩ : ∃ x, W2.setCell ⟨bo, to, none⟩ (.bool true) = x := ⟨_, rfl⟩
                          have hm2 := (hP7b.out.flag1 hnb.out.1 to).text hto
                          rw [hW3] at hm2 hP8 hP9 hl8
                          obtain ⟨m2, m3⟩ := hm2
                          clear hskip hkeep hput hyes hSe hnat hon
                          generalize tx.getD i [] = ti at *
                          generalize more.getD to [] = mi at *
                          go_wp2_with fail
                          go_region
                          go_wp2
                          go_roundw
                          case rel => exact ⟨b + 1, _, _, by omega, by go_num, hP9, hP8, hA6, hl8, hid (fun h => by first | cases h | (rw [hfl] at h; cases h))⟩
                          case measure => simp [intOf]; omega
                        | true =>
                          rw [hon] at g0
                          have hln : (tx.getD i [] ++ [UInt8.ofNat b]).length = (more.getD to []).length := by rw [List.length_append, htl, hyes.out to hto hon]; rfl
                          have hls := lessT hln
                          rw [skT_snoc, hnat] at hls
                          rcases hc : Go.Op.bytesLess (tx.getD i [] ++ [UInt8.ofNat b]) (more.getD to []) with _ | _
                          · rw [hc] at hls
                            have hcc : Go.Op.bytesLess S.toList (strT (more.getD to [])).toList = false := by rw [hSe.out, strT_toL, strT_toL]; exact hc
                            have hA6 : Hid (ParI N L fl tx (i * 256 + (b + 1)) on more) := hid (hkeep.out hto hon (by have := of_decide_eq_false hls.symm; omega))
                            clear hskip hkeep hput hyes hSe hnat hon hls hln hc
                            generalize tx.getD i [] = ti at *
                            generalize more.getD to [] = mi at *
                            go_wp2_with fail
                            go_region
                            go_wp2
                            go_roundw
                            case rel => exact ⟨b + 1, on, more, by omega, by go_num, hP7, hP7b, hA6, hl7, hid (fun h => by first | cases h | (rw [hfl] at h; cases h))⟩
                            case measure => simp [intOf]; omega
                          · rw [hc] at hls
                            have hcc : Go.Op.bytesLess S.toList (strT (more.getD to [])).toList = true := by rw [hSe.out, strT_toL, strT_toL]; exact hc
                            have hA6 : Hid (ParI N L fl tx (i * 256 + (b + 1)) (on.set to true) (more.set to (tx.getD i [] ++ [UInt8.ofNat b]))) := hid (hput.out hto (by rw [hP6.out.fl_len]; exact hto) (by rw [hP6.out.tx_len]; exact hto) (fun _ => by have := of_decide_eq_true hls.symm; omega))
                            have hP8 := hid (hP7b.out.put hnb.out.1 to (tx.getD i [] ++ [UInt8.ofNat b]))
                            have hP9 := hid ((hP7.out.other hnb.out.2.2.1.1 hnb.out.2.2.1.2 to (.bool true)).other hnb.out.2.1.1 hnb.out.2.1.2 to (.string (strT (tx.getD i [] ++ [UInt8.ofNat b]))))
                            have hl8 := hid (bl_set (bl_set hl7.out bo to (.bool true) hnb.out.2.2.2.2) bm to (.string (strT (tx.getD i [] ++ [UInt8.ofNat b]))) hnb.out.2.2.2.1)
                            rw [← hSe.out] at hP8 hP9 hl8
                            obtain ⟨W3, hW3⟩ : ∃ x, W2.setCell ⟨bo, to, none⟩ (.bool true) = x := ⟨_, rfl⟩
                            have hm2 := (hP7b.out.flag1 hnb.out.1 to).text hto
                            rw [hW3] at hm2 hP8 hP9 hl8
                            obtain ⟨m2, m3⟩ := hm2
                            clear hskip hkeep hput hyes hSe hnat hon hls hln hc
                            generalize tx.getD i [] = ti at *
                            generalize more.getD to [] = mi at *
                            go_wp2_with fail
                            go_region
                            go_wp2
                            go_roundw
                            case rel => exact ⟨b + 1, _, _, by omega, by go_num, hP9, hP8, hA6, hl8, hid (fun h => by first | cases h | (rw [hfl] at h; cases h))⟩
                            case measure => simp [intOf]; omega
                      · obtain rfl : to = n := by omega
                        rw [inI_none] at hc2
                        have hA6 : Hid (ParI N L fl tx (i * 256 + (b + 1)) on more) := hid (hskip.out (fun _ => Nat.le_refl _))
                        clear hskip hkeep hput hyes
                        go_wp2
                        go_roundw
                        case rel => exact ⟨b + 1, on, more, by omega, by go_num, hP5, hP6, hA6, hl5, hid (fun h => by first | cases h | (rw [hfl] at h; cases h))⟩
                        case measure => simp [intOf]; omega
                  · have hbz : ¬ (b : Int) < 256 := by omega
                    have hbe2 : b = 256 := by omega
                    subst hbe2
                    have hA6 : Hid (ParI N L fl tx ((i + 1) * 256) on more) := hid (by rw [Nat.succ_mul]; exact hA5.out)
                    go_wp2
                    go_roundw
                    case rel => exact ⟨i + 1, on, more, by omega, by go_num, hP5, hP6, hA6, hl5⟩
                    case measure => simp [intOf]; omega
              · have hiz : ¬ (i : Int) < (n : Int) := by omega
                have hin' : n = i := by omega
                subst hin'
                have hLv1 := hid (ParI.fin hLv.out (by rw [hn.out]; exact hA.out))
                go_wp2
                go_roundw
                case rel => exact ⟨L + 1, bm, bo, more, on, by omega, by go_num, rfl, rfl, hnb.out.1, hP4, hLv1, hsh1, hl3⟩
                case measure => simp [intOf]; omega
    · have hltz : ¬ (L : Int) ≤ (n : Int) := by omega
      have hLn : L = n + 1 := by omega
      subst hLn
      go_wp2
      go_ret2
      exact ⟨[], 4, rfl, Or.inr ⟨rfl, rfl, by rw [hn.out]; exact hsh.out⟩, hbe.out _ hlow.out⟩

end Go.Proofs.YtjelgphhlcecoaaGreatDoor
namespace Go.Proofs.YtjelgphhlcecoaaGreatDoor
open Go.RowKit Go.Maps

theorem shr_rsr {N : List (List Int)} {A : List Int} {r : Int} {t t' : Txt} {z z' : Int} (h : ShR N A r t z) (h' : RsR N A r t' z') : t = t' ∧ z = z' := by
  rcases h with ⟨rfl, h1, h2⟩ | ⟨rfl, rfl, h1⟩
  · rcases h' with ⟨rfl, h3⟩ | ⟨rfl, rfl, h3⟩
    · exact ⟨h1.uniq h3, rfl⟩
    · exact absurd h1.1 (h3 t (by omega))
  · rcases h' with ⟨rfl, h3⟩ | ⟨rfl, rfl, h3⟩
    · exact absurd h3.1 (h1 t')
    · exact ⟨rfl, rfl⟩

set_option maxRecDepth 20000 in
set_option maxHeartbeats 8000000 in
theorem shortestWalk (nv av : Value) (N : List (List Int)) (A : List Int) (r : Int) (w : World) (hNl : N.length ≤ 9223372036854775807) (hD : Dfa w nv av N A) (hT : Tab w) :
    Calls Tryz.prog 6 #[.agg #[nv, av], .int .i64 r] w fun e w' => e = .returned (.bool true) ∧ Below w.heap.size w w' := by
  obtain ⟨⟨na, nc, rfl⟩, ⟨aa, ac, rfl⟩⟩ := hD.shape
  obtain ⟨W0, hW0⟩ : ∃ W0, w.alloc (.cells #[.slice na N.length nc, .slice aa A.length ac] 25) = W0 := ⟨_, rfl⟩
  have hb0 : Hid (Below w.heap.size w W0) := by rw [← hW0]; exact hid (al' w _)
  have hz0 : Hid (W0.heap[w.heap.size]? = some (.cells #[.slice na N.length nc, .slice aa A.length ac] 25)) := by rw [← hW0]; exact hid (heap_new w _)
  have hD0 := hid (hD.keep hb0.out)
  have hbx : Hid (∀ u, Below W0.heap.size W0 u → u.cell? ⟨w.heap.size, 0, none⟩ = some (.slice na N.length nc) ∧ u.cell? ⟨w.heap.size, 1, none⟩ = some (.slice aa A.length ac)) := hid (fun u hu => by
    obtain ⟨d0, d1, -⟩ := cells2m (hs_keep hz0.out hu)
    exact ⟨d0, d1⟩)
  have GW := hid (wakes9 W0 (hT.keep hb0.out))
  have GH := hid (fun u (hu : Below W0.heap.size W0 u) => heavyC9 _ _ N A u (hD0.out.keep hu) hNl)
  have hend : Hid (∀ u, Below W0.heap.size W0 u → Below w.heap.size w u) := hid (fun u hu => bl_step hb0.out hu)
  clear hD hT
  cases h1 : hvB N A with
  | true =>
    rw [h1] at GH
    clear h1
    go_enter Tryz.func6, Tryz.ntmps6
    go_wp2_with (first
      | (go_at_call 8; refine GW.out.mono ?_; clear GW; rintro e w1 ⟨rfl, hc1⟩; obtain ⟨c0, c1⟩ := hbx.out w1 hc1)
      | (go_at_call 9; refine (GH.out w1 hc1).mono ?_; clear GH; rintro e w2 ⟨rfl, hc2⟩; have k2 := hid (bl_step hc1 hc2)))
    go_ret
    exact ⟨rfl, hend.out _ k2.out⟩
  | false =>
    rw [h1] at GH
    clear h1
    by_cases hbad : rgtB N A = false ∨ r < 0
    · have GS := hid (fun u (hu : Below W0.heap.size W0 u) => shortBad _ _ N A r u (hD0.out.keep hu) hNl hbad)
      have GF := hid (fun u (hu : Below W0.heap.size W0 u) => refShortBad _ _ N A r u (hD0.out.keep hu) hNl hbad)
      clear hbad
      go_enter Tryz.func6, Tryz.ntmps6
      go_wp2_with (first
        | (go_at_call 8; refine GW.out.mono ?_; clear GW; rintro e w1 ⟨rfl, hc1⟩; obtain ⟨c0, c1⟩ := hbx.out w1 hc1)
        | (go_at_call 9; refine (GH.out w1 hc1).mono ?_; clear GH; rintro e w2 ⟨rfl, hc2⟩; have k2 := hid (bl_step hc1 hc2); obtain ⟨d0, d1⟩ := hbx.out w2 k2.out)
        | (go_at_call 16; refine (GS.out w2 k2.out).mono ?_; clear GS; rintro e w3 ⟨rfl, hc3⟩; have k3 := hid (bl_step k2.out hc3); obtain ⟨f0, f1⟩ := hbx.out w3 k3.out)
        | (go_at_call 17; refine (GF.out w3 k3.out).mono ?_; clear GF; rintro e w4 ⟨rfl, hc4⟩; have k4 := hid (bl_step k3.out hc4); obtain ⟨g0, g1⟩ := hbx.out w4 k4.out))
      go_ret
      exact ⟨rfl, hend.out _ k4.out⟩
    · have hrt : rgtB N A = true := by
        cases h9 : rgtB N A with
        | true => rfl
        | false => exact absurd (Or.inl h9) hbad
      have hr0 : 0 ≤ r := by
        rcases Int.lt_or_le r 0 with h9 | h9
        · exact absurd (Or.inr h9) hbad
        · exact h9
      have H := hid (rgtA_of hrt)
      have GS := hid (fun u (hu : Below W0.heap.size W0 u) => shortGood _ _ N A r u (hD0.out.keep hu) H.out hr0)
      have GF := hid (fun u (hu : Below W0.heap.size W0 u) => refShortGood _ _ N A r u (hD0.out.keep hu) H.out hr0)
      have GA : Hid (∀ t, ShR N A r t 0 → ∀ u, Below W0.heap.size W0 u → Calls Tryz.prog 14 #[.agg #[.slice na N.length nc, .slice aa A.length ac], .string (strT t)] u fun e w' => e = .returned (.int .i64 r) ∧ Below u.heap.size u w') := hid (fun t ht u hu => by
        rcases ht with ⟨-, h1, h2⟩ | ⟨h9, -⟩
        · have h3 := acceptsD _ _ N A t u (hD0.out.keep hu).nxt (hD0.out.keep hu).acc (by have := H.out.few; omega) (by have := H.out.few; omega)
          rw [accB_do H.out, h1.1] at h3
          exact h3
        · omega)
      clear hbad hrt hr0 hNl
      go_enter Tryz.func6, Tryz.ntmps6
      go_wp2_with (first
        | (go_at_call 8; refine GW.out.mono ?_; clear GW; rintro e w1 ⟨rfl, hc1⟩; obtain ⟨c0, c1⟩ := hbx.out w1 hc1)
        | (go_at_call 9; refine (GH.out w1 hc1).mono ?_; clear GH; rintro e w2 ⟨rfl, hc2⟩; have k2 := hid (bl_step hc1 hc2); obtain ⟨d0, d1⟩ := hbx.out w2 k2.out)
        | (go_at_call 16; refine (GS.out w2 k2.out).mono ?_; clear GS; rintro e w3 ⟨t3, z3, rfl, hs3, hc3⟩; have hs3 := hid hs3; have k3 := hid (bl_step k2.out hc3); obtain ⟨f0, f1⟩ := hbx.out w3 k3.out)
        | (go_at_call 17; refine (GF.out w3 k3.out).mono ?_; clear GF; rintro e w4 ⟨t4, z4, rfl, hs4, hc4⟩; obtain ⟨rfl, rfl⟩ := shr_rsr hs3.out hs4; have k4 := hid (bl_step k3.out hc4); obtain ⟨g0, g1⟩ := hbx.out w4 k4.out; clear hs4)
        | (go_at_call 14; have hz9 : z3 = 0 := (by first | assumption | simp_all); refine (GA.out t3 (by rw [← hz9]; exact hs3.out) w4 k4.out).mono ?_; clear GA; rintro e w5 ⟨rfl, hc5⟩; have k5 := hid (bl_step k4.out hc5)))
      · go_ret
        exact ⟨by simp, hend.out _ k5.out⟩
      · go_ret
        exact ⟨rfl, hend.out _ k4.out⟩

end Go.Proofs.YtjelgphhlcecoaaGreatDoor
