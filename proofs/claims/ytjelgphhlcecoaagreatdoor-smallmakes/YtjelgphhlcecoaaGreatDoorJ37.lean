/- The contract of math/bits.TrailingZeros64, where its table lies as it was laid. Count and Least of package bytes: a range over the words. What dfa.rowOf leans on. -/
import Derived.Test.YtjelgphhlcecoaaGreatDoorJ2
import Derived.Test.YtjelgphhlcecoaaGreatDoorJ35
import Derived.Test.YtjelgphhlcecoaaGreatDoorJ5
import Derived.Test.YtjelgphhlcecoaaGreatDoorJ36
import Derived.Test.YtjelgphhlcecoaaGreatDoorJ24
import Derived.Deep.RegionHeld3
namespace Go.Proofs.YtjelgphhlcecoaaGreatDoor
open Go.RowKit

set_option maxRecDepth 20000 in
set_option maxHeartbeats 1000000 in
theorem tz_core (x k idx : Nat) (w : World) (hx0 : ((x : Int) == 0) = false)
    (key : IntKind.u64.wrap (bits BinOp.and IntKind.u64 (x : Int) (IntKind.u64.wrap (-(x : Int))) * 285870213051353865) / 288230376151711744 = (idx : Int))
    (hi : idx < 64) (hk : k < 64) (hcell : w.cell? ⟨0, idx, none⟩ = some (.int .u8 k)) :
    Calls Tryz.prog 72 #[.int .u64 x] w fun e w' => e = .returned (.int .i64 k) ∧ w' = w := by
  go_enter Tryz.func72, Tryz.ntmps72
  go_wp2_with (simp only [key])
  go_ret
  exact ⟨rfl, rfl⟩
set_option maxRecDepth 20000 in
theorem tzC (x : Nat) (w : World) (hx : x < 18446744073709551616) (h0 : x ≠ 0) (hT : Tab w) :
    Calls Tryz.prog 72 #[.int .u64 x] w fun e w' => e = .returned (.int .i64 ((Lib.ctz 64 x : Nat) : Int)) ∧ w' = w := by
  obtain ⟨hlow, hk⟩ := Lib.lowest_bit 64 x h0 hx
  obtain ⟨hi, htab⟩ := Lib.deBruijn64_at _ hk
  have hcell := hT _ hi
  rw [htab] at hcell
  exact tz_core x _ _ w (by simp; omega) (tz64_key x _ hx h0 hlow) hi hk hcell

end Go.Proofs.YtjelgphhlcecoaaGreatDoor
namespace Go.Proofs.YtjelgphhlcecoaaGreatDoor
open Go.RowKit

set_option maxRecDepth 20000 in
set_option maxHeartbeats 1000000 in
theorem leastE (sa sb sc sd : Nat) (w : World) (hS : Fit4 ⟨sa, sb, sc, sd⟩) (hT : Tab w) :
    Calls Tryz.prog 54 #[valB ⟨sa, sb, sc, sd⟩] w fun e w' => e = .returned (.int .i64 (leastB ⟨sa, sb, sc, sd⟩)) ∧ w' = w.alloc (.cells #[.int .u64 (sa : Int), .int .u64 (sb : Int), .int .u64 (sc : Int), .int .u64 (sd : Int)] 97) := by
  have hw := hid (fun i => @least_word ⟨sa, sb, sc, sd⟩ hS i)
  have hz := hid (@least_zero ⟨sa, sb, sc, sd⟩)
  have G0 : Hid (∀ u, sa ≠ 0 → Tab u → Lib.ctz 64 sa < 64 ∧ Calls Tryz.prog 72 #[.int .u64 (sa : Int)] u fun e w' => e = .returned (.int .i64 ((Lib.ctz 64 sa : Nat) : Int)) ∧ w' = u) := hid (fun u h0 hu => ⟨(ctz_bits h0 hS.1).1, tzC sa u hS.1 h0 hu⟩)
  have G1 : Hid (∀ u, sb ≠ 0 → Tab u → Lib.ctz 64 sb < 64 ∧ Calls Tryz.prog 72 #[.int .u64 (sb : Int)] u fun e w' => e = .returned (.int .i64 ((Lib.ctz 64 sb : Nat) : Int)) ∧ w' = u) := hid (fun u h0 hu => ⟨(ctz_bits h0 hS.2).1, tzC sb u hS.2 h0 hu⟩)
  have G2 : Hid (∀ u, sc ≠ 0 → Tab u → Lib.ctz 64 sc < 64 ∧ Calls Tryz.prog 72 #[.int .u64 (sc : Int)] u fun e w' => e = .returned (.int .i64 ((Lib.ctz 64 sc : Nat) : Int)) ∧ w' = u) := hid (fun u h0 hu => ⟨(ctz_bits h0 hS.3).1, tzC sc u hS.3 h0 hu⟩)
  have G3 : Hid (∀ u, sd ≠ 0 → Tab u → Lib.ctz 64 sd < 64 ∧ Calls Tryz.prog 72 #[.int .u64 (sd : Int)] u fun e w' => e = .returned (.int .i64 ((Lib.ctz 64 sd : Nat) : Int)) ∧ w' = u) := hid (fun u h0 hu => ⟨(ctz_bits h0 hS.4).1, tzC sd u hS.4 h0 hu⟩)
  have ix0 : ∀ u, (Instr.index 97 (.agg #[.int .u64 (sa : Int), .int .u64 (sb : Int), .int .u64 (sc : Int), .int .u64 (sd : Int)]) (.int .i64 0)).run Tryz.prog u = .ok (.int .u64 (sa : Int)) u := fun u => index4 sa sb sc sd 0 sa u rfl
  have ix1 : ∀ u, (Instr.index 97 (.agg #[.int .u64 (sa : Int), .int .u64 (sb : Int), .int .u64 (sc : Int), .int .u64 (sd : Int)]) (.int .i64 1)).run Tryz.prog u = .ok (.int .u64 (sb : Int)) u := fun u => index4 sa sb sc sd 1 sb u rfl
  have ix2 : ∀ u, (Instr.index 97 (.agg #[.int .u64 (sa : Int), .int .u64 (sb : Int), .int .u64 (sc : Int), .int .u64 (sd : Int)]) (.int .i64 2)).run Tryz.prog u = .ok (.int .u64 (sc : Int)) u := fun u => index4 sa sb sc sd 2 sc u rfl
  have ix3 : ∀ u, (Instr.index 97 (.agg #[.int .u64 (sa : Int), .int .u64 (sb : Int), .int .u64 (sc : Int), .int .u64 (sd : Int)]) (.int .i64 3)).run Tryz.prog u = .ok (.int .u64 (sd : Int)) u := fun u => index4 sa sb sc sd 3 sd u rfl
  have hT0 := hid hT
  generalize leastB ⟨sa, sb, sc, sd⟩ = L at hw hz ⊢
  clear hS hT
  go_enter Tryz.func54, Tryz.ntmps54
  go_wp2
  go_loopw [6] (fun i wr => ∃ k : Nat, k ≤ 4 ∧ i = .int .i64 k ∧ (∀ j, j < k → W4.w ⟨sa, sb, sc, sd⟩ j = 0) ∧ Hid (wr = w.alloc (.cells #[.int .u64 (sa : Int), .int .u64 (sb : Int), .int .u64 (sc : Int), .int .u64 (sd : Int)] 97))) (fun i _ => 4 - (intOf i).toNat)
  case atStart => exact ⟨0, Nat.zero_le _, rfl, fun j hj => absurd hj (Nat.not_lt_zero _), hid rfl⟩
  case round =>
    obtain ⟨k, hk, rfl, hlow, hwr⟩ := hrel
    have hbl : Below w.heap.size w wr := by rw [hwr.out]; exact al' w _
    have hlow := hid hlow
    have hk5 : k = 0 ∨ k = 1 ∨ k = 2 ∨ k = 3 ∨ k = 4 := by omega
    rcases hk5 with rfl | rfl | rfl | rfl | rfl
    · by_cases h0 : sa = 0
      · have hcz : ((sa : Int) == 0) = true := beq_iff_eq.2 (by omega)
        have hlow' : Hid (∀ j, j < 1 → W4.w ⟨sa, sb, sc, sd⟩ j = 0) := hid (fun j hj => by
          rcases Nat.lt_or_ge j 0 with h | h
          · exact hlow.out j h
          · have : j = 0 := by omega
            subst this; exact h0)
        clear h0
        go_wp2
        go_roundw
        case rel => exact ⟨1, by omega, rfl, hlow'.out, hwr⟩
        case measure => simp [intOf]
      · have hcz : ((sa : Int) == 0) = false := beq_eq_false_iff_ne.2 (by omega)
        have hL := hw.out 0 (by omega) h0 hlow.out
        obtain ⟨hc64, GT⟩ := G0.out wr h0 (hT0.out.keep hbl)
        have GT := hid GT
        rw [show W4.w ⟨sa, sb, sc, sd⟩ 0 = sa from rfl] at hL
        generalize Lib.ctz 64 sa = z at hL hc64 GT
        clear hw hz
        go_wp2_with (go_at_call 72; refine GT.out.mono ?_; rintro e u1 ⟨rfl, hu⟩; subst u1)
        go_ret
        exact ⟨by rw [hL]; first | rfl | simp | (congr 2; omega), hwr.out⟩
    · by_cases h0 : sb = 0
      · have hcz : ((sb : Int) == 0) = true := beq_iff_eq.2 (by omega)
        have hlow' : Hid (∀ j, j < 2 → W4.w ⟨sa, sb, sc, sd⟩ j = 0) := hid (fun j hj => by
          rcases Nat.lt_or_ge j 1 with h | h
          · exact hlow.out j h
          · have : j = 1 := by omega
            subst this; exact h0)
        clear h0
        go_wp2
        go_roundw
        case rel => exact ⟨2, by omega, rfl, hlow'.out, hwr⟩
        case measure => simp [intOf]
      · have hcz : ((sb : Int) == 0) = false := beq_eq_false_iff_ne.2 (by omega)
        have hL := hw.out 1 (by omega) h0 hlow.out
        obtain ⟨hc64, GT⟩ := G1.out wr h0 (hT0.out.keep hbl)
        have GT := hid GT
        rw [show W4.w ⟨sa, sb, sc, sd⟩ 1 = sb from rfl] at hL
        generalize Lib.ctz 64 sb = z at hL hc64 GT
        clear hw hz
        go_wp2_with (go_at_call 72; refine GT.out.mono ?_; rintro e u1 ⟨rfl, hu⟩; subst u1)
        go_ret
        exact ⟨by rw [hL]; first | rfl | simp | (congr 2; omega), hwr.out⟩
    · by_cases h0 : sc = 0
      · have hcz : ((sc : Int) == 0) = true := beq_iff_eq.2 (by omega)
        have hlow' : Hid (∀ j, j < 3 → W4.w ⟨sa, sb, sc, sd⟩ j = 0) := hid (fun j hj => by
          rcases Nat.lt_or_ge j 2 with h | h
          · exact hlow.out j h
          · have : j = 2 := by omega
            subst this; exact h0)
        clear h0
        go_wp2
        go_roundw
        case rel => exact ⟨3, by omega, rfl, hlow'.out, hwr⟩
        case measure => simp [intOf]
      · have hcz : ((sc : Int) == 0) = false := beq_eq_false_iff_ne.2 (by omega)
        have hL := hw.out 2 (by omega) h0 hlow.out
        obtain ⟨hc64, GT⟩ := G2.out wr h0 (hT0.out.keep hbl)
        have GT := hid GT
        rw [show W4.w ⟨sa, sb, sc, sd⟩ 2 = sc from rfl] at hL
        generalize Lib.ctz 64 sc = z at hL hc64 GT
        clear hw hz
        go_wp2_with (go_at_call 72; refine GT.out.mono ?_; rintro e u1 ⟨rfl, hu⟩; subst u1)
        go_ret
        exact ⟨by rw [hL]; first | rfl | simp | (congr 2; omega), hwr.out⟩
    · by_cases h0 : sd = 0
      · have hcz : ((sd : Int) == 0) = true := beq_iff_eq.2 (by omega)
        have hlow' : Hid (∀ j, j < 4 → W4.w ⟨sa, sb, sc, sd⟩ j = 0) := hid (fun j hj => by
          rcases Nat.lt_or_ge j 3 with h | h
          · exact hlow.out j h
          · have : j = 3 := by omega
            subst this; exact h0)
        clear h0
        go_wp2
        go_roundw
        case rel => exact ⟨4, by omega, rfl, hlow'.out, hwr⟩
        case measure => simp [intOf]
      · have hcz : ((sd : Int) == 0) = false := beq_eq_false_iff_ne.2 (by omega)
        have hL := hw.out 3 (by omega) h0 hlow.out
        obtain ⟨hc64, GT⟩ := G3.out wr h0 (hT0.out.keep hbl)
        have GT := hid GT
        rw [show W4.w ⟨sa, sb, sc, sd⟩ 3 = sd from rfl] at hL
        generalize Lib.ctz 64 sd = z at hL hc64 GT
        clear hw hz
        go_wp2_with (go_at_call 72; refine GT.out.mono ?_; rintro e u1 ⟨rfl, hu⟩; subst u1)
        go_ret
        exact ⟨by rw [hL]; first | rfl | simp | (congr 2; omega), hwr.out⟩
    · have hL := hz.out (fun j hj => hlow.out j hj)
      clear hw hz
      go_wp2
      go_ret
      exact ⟨by rw [hL]; first | rfl | simp, hwr.out⟩

set_option maxRecDepth 20000 in
theorem leastC (sa sb sc sd : Nat) (w : World) (hS : Fit4 ⟨sa, sb, sc, sd⟩) (hT : Tab w) :
    Calls Tryz.prog 54 #[valB ⟨sa, sb, sc, sd⟩] w fun e w' => e = .returned (.int .i64 (leastB ⟨sa, sb, sc, sd⟩)) ∧ Below w.heap.size w w' :=
  (leastE sa sb sc sd w hS hT).mono fun _ _ ⟨he, hw⟩ => ⟨he, by rw [hw]; exact al' w _⟩

end Go.Proofs.YtjelgphhlcecoaaGreatDoor
namespace Go.Proofs.YtjelgphhlcecoaaGreatDoor
open Go.RowKit

theorem cls_fit' (l : List W4) (r : Nat) : Fit4 (clsB l r) := by unfold clsB; exact mkB_fit _
theorem made_ints (w : World) (N : Nat) (hN : N ≤ 100000) : Own (w.alloc (.cells (madeCells #[.int .i64 0] N) 3)) w.heap.size (.slice (some ⟨w.heap.size, 0, none⟩) N N) (List.replicate N 0) := by
  unfold Own
  have e : (madeCells #[.int .i64 0] N).toList = numCells (List.replicate N 0) := by
    rw [toList_madeCells_one]
    simp [numCells]
  have := World.ownsRow_lit w (e := 3) (size := 1) (madeCells #[.int .i64 0] N) N (Nat.le_refl _) (by unfold maxLen; omega) (by simp [madeCells])
  rw [e] at this
  rw [List.length_replicate]
  exact this
theorem own_num_put {w : World} {B g c n k : Nat} {l : List Int} (x : Int) (h : Own w B (.slice (some ⟨g, 0, none⟩) n c) l) (hn : n = l.length) : Own (w.setCell ⟨g, k, none⟩ (.int .i64 x)) B (.slice (some ⟨g, 0, none⟩) n c) (l.set k x) := by
  subst hn
  have h1 := (h.stored k (.int .i64 x)).1
  unfold Own
  rw [List.length_set, numCells, List.map_set]
  exact h1
theorem own_num_at {w : World} {B g c n : Nat} {l : List Int} (h : Own w B (.slice (some ⟨g, 0, none⟩) n c) l) {j : Nat} (hj : j < l.length) : w.cell? ⟨g, j, none⟩ = some (.int .i64 (l.getD j 0)) := by
  have := h.cells rfl j _ (numCells_at hj)
  rw [Go.WideShapes.add_plain, Nat.zero_add] at this
  rw [this, List.getD_eq_getElem?_getD, List.getElem?_eq_getElem hj]
  rfl
theorem own_num_free {w : World} {B g c n : Nat} {l : List Int} (h : Own w B (.slice (some ⟨g, 0, none⟩) n c) l) (hn : n = l.length) (o : Nat) : w.frozen? ⟨g, o, none⟩ = false := by
  subst hn
  exact h.frozenAt o
theorem ownStr_at {w : World} {B : Nat} {v : Value} {L : List Txt} (h : OwnStr w B v L) {j : Nat} {T : Txt} (hj : L[j]? = some T) : ∃ g c, v = .slice (some ⟨g, 0, none⟩) L.length c ∧ v.ownBlock = some g ∧ g < w.heap.size ∧ w.cell? ⟨g, j, none⟩ = some (.string (strT T)) := by
  have hlt : j < L.length := by
    rcases Nat.lt_or_ge j L.length with h | h
    · exact h
    · rw [List.getElem?_eq_none h] at hj; cases hj
  have h' := h
  rcases h.2 with ⟨rfl, h0⟩ | ⟨g, cap, cur, rfl, _⟩
  · omega
  · refine ⟨g, cap, rfl, rfl, (h'.lt g rfl).2, ?_⟩
    have := h'.cells rfl j (.string (strT T)) (by unfold strCells; rw [List.getElem?_map, hj]; rfl)
    rw [Go.WideShapes.add_plain, Nat.zero_add] at this
    exact this
set_option maxRecDepth 20000 in
theorem byRow {ts : List Rx} {all : List Sp} (R : RuS ts all) (hp : ∀ p ∈ all, SmlS p) (hl : all.length ≤ 16) (e : Int) (sv bv fv : Value) (st : St) (hst : ∀ y ∈ st, FrmS ts y) (b : Nat) (hb : b < 256) (u : World) (hS : Sets u sv (setsP all all.length)) (hG : Numss u bv (behP all all.length)) :
    Calls Tryz.prog 55 #[.agg #[.int .i64 e, sv, bv, fv], .string (strT (txS all st)), .int .u8 (b : Int)] u fun r w' => r = .returned (.tuple #[.string (strT (txS all (byS all st b))), .bool (!decide (byS all st b = []))]) ∧ Below u.heap.size u w' := by
  have htot := totP_max hl hp
  have hslen : (setsP all all.length).length = totP all := setsP_len all _
  have hglen : (behP all all.length).length = totP all := behP_len all _
  have := byTC e sv bv fv (setsP all all.length) (behP all all.length) (txS all st) b u (by omega) (by omega) (by rw [hslen]; exact markT_len _ _) hb (fun l hl => by rw [hslen]; exact behP_in R hp l hl) hS hG
  rw [hslen, byT_is R hst, leT_is R hst] at this
  exact this
theorem tx_inj {ts : List Rx} {all : List Sp} (R : RuS ts all) {x y : St} (hx : (∀ z ∈ x, FrmS ts z) ∧ Up x) (hy : (∀ z ∈ y, FrmS ts z) ∧ Up y) (e : txS all x = txS all y) : x = y := txS_inj (fun z hz => frP_of R (hx.1 z hz)) (fun z hz => frP_of R (hy.1 z hz)) hx.2 hy.2 e
theorem metT_is {ts : List Rx} {all : List Sp} (R : RuS ts all) {L : List St} (hL : ∀ x ∈ L, (∀ y ∈ x, FrmS ts y) ∧ Up x) {to : St} (hto : (∀ y ∈ to, FrmS ts y) ∧ Up to) (hne : to ≠ []) : metT (L.map (txS all)) (txS all to) = (metS L to).map (txS all) := by
  have hin : ∀ x ∈ L, txS all x = txS all to → x = to := fun x hx e => tx_inj R (hL x hx) hto e
  unfold metT
  by_cases hmm : to ∈ L
  · rw [if_pos ((mem_map_inj hin).2 hmm), metS_old hmm]
  · rw [if_neg (fun h => hmm ((mem_map_inj hin).1 h)), metS_new hne hmm, List.map_append]
    rfl
set_option maxRecDepth 20000 in
/-- number, of a state of the rules -/
theorem numRow {ts : List Rx} {all : List Sp} (R : RuS ts all) (htot : totP all ≤ 2000) (B mb mm : Nat) (F : Nat → Prop) (tv : Value) (L : List St) (to : St) (u : World) (hL : ∀ x ∈ L, (∀ y ∈ x, FrmS ts y) ∧ Up x) (hnd : L.Nodup) (hn : L.length ≤ 100000) (hto : (∀ y ∈ to, FrmS ts y) ∧ Up to) (hne : to ≠ [])
    (hm : MeO B mb F u tv mm (L.map (txS all))) :
    Calls Tryz.prog 41 #[.pointer (some ⟨mb, 0, none⟩), .string (strT (txS all to))] u fun e w' => ∃ nx : Int, e = .returned (.int .i64 nx) ∧ RowOK (metS L to) to nx ∧ ∃ F'' tv'', MeO B mb F'' w' tv'' mm ((metS L to).map (txS all)) ∧ Mvd F F'' u w' ∧ (∀ k, F k → F'' k) := by
  have hin : ∀ x ∈ L, txS all x = txS all to → x = to := fun x hx e => tx_inj R (hL x hx) hto e
  have hnd2 : (L.map (txS all)).Nodup := nodup_map hnd (fun x hx y hy e => tx_inj R (hL x hx) (hL y hy) e)
  refine (numberC B mb mm F tv _ (txS all to) u hm hnd2 (by rw [List.length_map]; exact hn) (by unfold txS; rw [markT_len]; exact htot)).mono ?_
  rintro e w' ⟨rfl, F'', tv'', h1, h2, h3⟩
  refine ⟨_, rfl, ?_, F'', tv'', ?_, h2, h3⟩
  · rw [idx_map hin]
    exact rowOK_met _ hne
  · rw [← metT_is R hL hto hne]
    exact h1
/-- what rowOf's walk asks of the parts, the rows and the states: a letter each -/
structure RowQ (mets : Nat → List St) (rows : Nat → List Int → Prop) (P : Nat → W4) (r : Nat → Nat) (to : Nat → St) (m : Nat) (S0 : List St) (q : List St × List Int) : Prop where
  m256 : m ≤ 256
  zero : mets 0 = S0
  row0 : rows 0 (List.replicate 256 0)
  len : ∀ k rw, rows k rw → rw.length = 256
  fit : ∀ k, k < m → Fit4 (P k)
  least : ∀ k, k < m → r k < 256 ∧ leastB (P k) = ((r k : Nat) : Int)
  succ : ∀ k, k < m → mets (k + 1) = metS (mets k) (to k)
  step : ∀ k rw nx, k < m → rows k rw → RowOK (mets (k + 1)) (to k) nx → rows (k + 1) (putB8 (P k) nx rw 256)
  fin : ∀ rw, rows m rw → rw = q.2 ∧ mets m = q.1
  pre : ∀ k, ∃ U, mets k = S0 ++ U
theorem rowQ_of {ts : List Rx} {all : List Sp} (R : RuS ts all) {S0 : List St} {st : St} (hst : ∀ y ∈ st, FrmS ts y) (hnd : S0.Nodup) {q : List St × List Int} (hq : rowK all st S0 256 = q) :
    RowQ (prtK all st S0 (repN (setsP all all.length) 256)) (PrtR all st S0 (setsP all all.length)) (fun k => clsB (setsP all all.length) ((repN (setsP all all.length) 256).getD k 0)) (fun k => (repN (setsP all all.length) 256).getD k 0) (fun k => byS all st ((repN (setsP all all.length) 256).getD k 0)) (repN (setsP all all.length) 256).length S0 q where
  m256 := repN_len _ _
  zero := rfl
  row0 := ⟨List.length_replicate, fun j hj => absurd hj (Nat.not_lt_zero _)⟩
  len := fun k rw h => h.1
  fit := fun k hk => cls_fit' _ _
  least := fun k hk => by
    have hm : (repN (setsP all all.length) 256).getD k 0 ∈ repN (setsP all all.length) 256 := by
      rw [List.getD_eq_getElem?_getD, List.getElem?_eq_getElem hk]
      exact List.getElem_mem hk
    exact ⟨repN_lt _ 256 _ hm, least_cls _ _ hm⟩
  succ := fun k hk => rfl
  step := fun k rw nx hk h1 h2 => by
    rw [putB8_end]
    exact h1.step R hst h2
  fin := fun rw h => by
    rw [← hq]
    exact ⟨h.fin R hst hnd, prt_end R hst hnd⟩
  pre := prtK_pre all st S0 _
theorem partsB_at (S : List W4) : (partsB S).length = (repN S 256).length ∧ ∀ k, k < (repN S 256).length → (partsB S).getD k noneB = clsB S ((repN S 256).getD k 0) := by
  unfold partsB
  refine ⟨List.length_map _, fun k hk => ?_⟩
  rw [List.getD_eq_getElem?_getD, List.getElem?_map, List.getD_eq_getElem?_getD, List.getElem?_eq_getElem hk, Option.map_some, Option.getD_some, Option.getD_some]

end Go.Proofs.YtjelgphhlcecoaaGreatDoor
