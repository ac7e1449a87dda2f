/- Count and Least of package bytes: a range over the words. What dfa.rowOf leans on. dfa.rowOf. spots.Of, of a right rule. -/
import Derived.Test.YtjelgphhlcecoaaGreatDoorJ23
import Derived.Test.YtjelgphhlcecoaaGreatDoorJ4
import Derived.Test.YtjelgphhlcecoaaGreatDoorJ20
import Derived.Test.YtjelgphhlcecoaaGreatDoorJ22
import Derived.Test.YtjelgphhlcecoaaGreatDoorJ19
import Derived.Deep.RegionHeld3
import Derived.BigRegion
namespace Go.Proofs.YtjelgphhlcecoaaGreatDoor
open Go.RowKit

set_option maxRecDepth 20000 in
set_option maxHeartbeats 1000000 in
theorem leastE (sa sb sc sd : Nat) (w : World) (hS : Fit4 ⟨sa, sb, sc, sd⟩) (hT : Tab w) :
    Calls Tryz.prog 54 #[valB ⟨sa, sb, sc, sd⟩] w fun e w' => e = .returned (.int .i64 (leastB ⟨sa, sb, sc, sd⟩)) ∧ w' = w.alloc (.cells #[.int .u64 (sa : Int), .int .u64 (sb : Int), .int .u64 (sc : Int), .int .u64 (sd : Int)] 97) := by
  have hw := hid (fun i => @least_word ⟨sa, sb, sc, sd⟩ hS i)
  have hz := hid (@least_zero ⟨sa, sb, sc, sd⟩)
  have G0 : Hid (∀ u, sa ≠ 0 → Tab u → Lib.ctz 64 sa < 64 ∧ Calls Tryz.prog 72 #[.int .u64 (sa : Int)] u fun e w' => e = .returned (.int .i64 ((Lib.ctz 64 sa : Nat) : Int)) ∧ w' = u) := hid (fun u h0 hu => ⟨(ctz_bits h0 hS.1).1, tzC sa u hS.1 h0 hu⟩)
  have G1 : Hid (∀ u, sb ≠ 0 → Tab u → Lib.ctz 64 sb < 64 ∧ Calls Tryz.prog 72 #[.int .u64 (sb : Int)] u fun e w' => e = .returned (.int .i64 ((Lib.ctz 64 sb : Nat) : Int)) ∧ w' = u) := hid (fun u h0 hu => ⟨(ctz_bits h0 hS.2).1, tzC sb u hS.2 h0 hu⟩)
  have G2 : Hid (∀ u, sc ≠ 0 → Tab u → Lib.ctz 64 sc < 64 ∧ Calls Tryz.prog 72 #[.int .u64 (sc : Int)] u fun e w' => e = .returned (.int .i64 ((Lib.ctz 64 sc : Nat) : Int)) ∧ w' = u) := hid (fun u h0 hu => ⟨(ctz_bits h0 hS.3).1, tzC sc u hS.3 h0 hu⟩)
  have G3 : Hid (∀ u, sd ≠ 0 → Tab u → Lib.ctz 64 sd < 64 ∧ Calls Tryz.prog 72 #[.int .u64 (sd : Int)] u fun e w' => e = .returned (.int .i64 ((Lib.ctz 64 sd : Nat) : Int)) ∧ w' = u) := hid (fun u h0 hu => ⟨(ctz_bits h0 hS.4).1, tzC sd u hS.4 h0 hu⟩)
  have ix0 : ∀ u, (Instr.index 97 (.agg #[.int .u64 (sa : Int), .int .u64 (sb : Int), .int .u64 (sc : Int), .int .u64 (sd : Int)]) (.int .i64 0)).run Tryz.prog u = .ok (.int .u64 (sa : Int)) u := fun u => index4 sa sb sc sd 0 sa u rfl
  have ix1 : ∀ u, (Instr.index 97 (.agg #[.int .u64 (sa : Int), .int .u64 (sb : Int), .int .u64 (sc : Int), .int .u64 (sd : Int)]) (.int .i64 1)).run Tryz.prog u = .ok (.int .u64 (sb : Int)) u := fun u => index4 sa sb sc sd 1 sb u rfl
  have ix2 : ∀ u, (Instr.index 97 (.agg #[.int .u64 (sa : Int), .int .u64 (sb : Int), .int .u64 (sc : Int), .int .u64 (sd : Int)]) (.int .i64 2)).run Tryz.prog u = .ok (.int .u64 (sc : Int)) u := fun u => index4 sa sb sc sd 2 sc u rfl
  have ix3 : ∀ u, (Instr.index 97 (.agg #[.int .u64 (sa : Int), .int .u64 (sb : Int), .int .u64 (sc : Int), .int .u64 (sd : Int)]) (.int .i64 3)).run Tryz.prog u = .ok (.int .u64 (sd : Int)) u := fun u => index4 sa sb sc sd 3 sd u rfl
  have hT0 := hid hT
  generalize leastB ⟨sa, sb, sc, sd⟩ = L at hw hz ⊢
  clear hS hT
  go_enter Tryz.func54, Tryz.ntmps54
  go_wp2
  go_loopw [6] (fun i wr => ∃ k : Nat, k ≤ 4 ∧ i = .int .i64 k ∧ (∀ j, j < k → W4.w ⟨sa, sb, sc, sd⟩ j = 0) ∧ Hid (wr = w.alloc (.cells #[.int .u64 (sa : Int), .int .u64 (sb : Int), .int .u64 (sc : Int), .int .u64 (sd : Int)] 97))) (fun i _ => 4 - (intOf i).toNat)
  case atStart => exact ⟨0, Nat.zero_le _, rfl, fun j hj => absurd hj (Nat.not_lt_zero _), hid rfl⟩
  case round =>
    obtain ⟨k, hk, rfl, hlow, hwr⟩ := hrel
    have hbl : Below w.heap.size w wr := by rw [hwr.out]; exact al' w _
    have hlow := hid hlow
    have hk5 : k = 0 ∨ k = 1 ∨ k = 2 ∨ k = 3 ∨ k = 4 := by omega
    rcases hk5 with rfl | rfl | rfl | rfl | rfl
    · by_cases h0 : sa = 0
      · have hcz : ((sa : Int) == 0) = true := beq_iff_eq.2 (by omega)
        have hlow' : Hid (∀ j, j < 1 → W4.w ⟨sa, sb, sc, sd⟩ j = 0) := hid (fun j hj => by
          rcases Nat.lt_or_ge j 0 with h | h
          · exact hlow.out j h
          · have : j = 0 := by omega
            subst this; exact h0)
        clear h0
        go_wp2
        go_roundw
        case rel => exact ⟨1, by omega, rfl, hlow'.out, hwr⟩
        case measure => simp [intOf]
      · have hcz : ((sa : Int) == 0) = false := beq_eq_false_iff_ne.2 (by omega)
        have hL := hw.out 0 (by omega) h0 hlow.out
        obtain ⟨hc64, GT⟩ := G0.out wr h0 (hT0.out.keep hbl)
        have GT := hid GT
        rw [show W4.w ⟨sa, sb, sc, sd⟩ 0 = sa from rfl] at hL
        generalize Lib.ctz 64 sa = z at hL hc64 GT
        clear hw hz
        go_wp2_with (go_at_call 72; refine GT.out.mono ?_; rintro e u1 ⟨rfl, hu⟩; subst u1)
        go_ret
        exact ⟨by rw [hL]; first | rfl | simp | (congr 2; omega), hwr.out⟩
    · by_cases h0 : sb = 0
      · have hcz : ((sb : Int) == 0) = true := beq_iff_eq.2 (by omega)
        have hlow' : Hid (∀ j, j < 2 → W4.w ⟨sa, sb, sc, sd⟩ j = 0) := hid (fun j hj => by
          rcases Nat.lt_or_ge j 1 with h | h
          · exact hlow.out j h
          · have : j = 1 := by omega
            subst this; exact h0)
        clear h0
        go_wp2
        go_roundw
        case rel => exact ⟨2, by omega, rfl, hlow'.out, hwr⟩
        case measure => simp [intOf]
      · have hcz : ((sb : Int) == 0) = false := beq_eq_false_iff_ne.2 (by omega)
        have hL := hw.out 1 (by omega) h0 hlow.out
        obtain ⟨hc64, GT⟩ := G1.out wr h0 (hT0.out.keep hbl)
        have GT := hid GT
        rw [show W4.w ⟨sa, sb, sc, sd⟩ 1 = sb from rfl] at hL
        generalize Lib.ctz 64 sb = z at hL hc64 GT
        clear hw hz
        go_wp2_with (go_at_call 72; refine GT.out.mono ?_; rintro e u1 ⟨rfl, hu⟩; subst u1)
        go_ret
        exact ⟨by rw [hL]; first | rfl | simp | (congr 2; omega), hwr.out⟩
    · by_cases h0 : sc = 0
      · have hcz : ((sc : Int) == 0) = true := beq_iff_eq.2 (by omega)
        have hlow' : Hid (∀ j, j < 3 → W4.w ⟨sa, sb, sc, sd⟩ j = 0) := hid (fun j hj => by
          rcases Nat.lt_or_ge j 2 with h | h
          · exact hlow.out j h
          · have : j = 2 := by omega
            subst this; exact h0)
        clear h0
        go_wp2
        go_roundw
        case rel => exact ⟨3, by omega, rfl, hlow'.out, hwr⟩
        case measure => simp [intOf]
      · have hcz : ((sc : Int) == 0) = false := beq_eq_false_iff_ne.2 (by omega)
        have hL := hw.out 2 (by omega) h0 hlow.out
        obtain ⟨hc64, GT⟩ := G2.out wr h0 (hT0.out.keep hbl)
        have GT := hid GT
        rw [show W4.w ⟨sa, sb, sc, sd⟩ 2 = sc from rfl] at hL
        generalize Lib.ctz 64 sc = z at hL hc64 GT
        clear hw hz
        go_wp2_with (go_at_call 72; refine GT.out.mono ?_; rintro e u1 ⟨rfl, hu⟩; subst u1)
        go_ret
        exact ⟨by rw [hL]; first | rfl | simp | (congr 2; omega), hwr.out⟩
    · by_cases h0 : sd = 0
      · have hcz : ((sd : Int) == 0) = true := beq_iff_eq.2 (by omega)
        have hlow' : Hid (∀ j, j < 4 → W4.w ⟨sa, sb, sc, sd⟩ j = 0) := hid (fun j hj => by
          rcases Nat.lt_or_ge j 3 with h | h
          · exact hlow.out j h
          · have : j = 3 := by omega
            subst this; exact h0)
        clear h0
        go_wp2
        go_roundw
        case rel => exact ⟨4, by omega, rfl, hlow'.out, hwr⟩
        case measure => simp [intOf]
      · have hcz : ((sd : Int) == 0) = false := beq_eq_false_iff_ne.2 (by omega)
        have hL := hw.out 3 (by omega) h0 hlow.out
        obtain ⟨hc64, GT⟩ := G3.out wr h0 (hT0.out.keep hbl)
        have GT := hid GT
        rw [show W4.w ⟨sa, sb, sc, sd⟩ 3 = sd from rfl] at hL
        generalize Lib.ctz 64 sd = z at hL hc64 GT
        clear hw hz
        go_wp2_with (go_at_call 72; refine GT.out.mono ?_; rintro e u1 ⟨rfl, hu⟩; subst u1)
        go_ret
        exact ⟨by rw [hL]; first | rfl | simp | (congr 2; omega), hwr.out⟩
    · have hL := hz.out (fun j hj => hlow.out j hj)
      clear hw hz
      go_wp2
      go_ret
      exact ⟨by rw [hL]; first | rfl | simp, hwr.out⟩

set_option maxRecDepth 20000 in
theorem leastC (sa sb sc sd : Nat) (w : World) (hS : Fit4 ⟨sa, sb, sc, sd⟩) (hT : Tab w) :
    Calls Tryz.prog 54 #[valB ⟨sa, sb, sc, sd⟩] w fun e w' => e = .returned (.int .i64 (leastB ⟨sa, sb, sc, sd⟩)) ∧ Below w.heap.size w w' :=
  (leastE sa sb sc sd w hS hT).mono fun _ _ ⟨he, hw⟩ => ⟨he, by rw [hw]; exact al' w _⟩

end Go.Proofs.YtjelgphhlcecoaaGreatDoor
namespace Go.Proofs.YtjelgphhlcecoaaGreatDoor
open Go.RowKit

theorem cls_fit' (l : List W4) (r : Nat) : Fit4 (clsB l r) := by unfold clsB; exact mkB_fit _
theorem made_ints (w : World) (N : Nat) (hN : N ≤ 100000) : Own (w.alloc (.cells (madeCells #[.int .i64 0] N) 3)) w.heap.size (.slice (some ⟨w.heap.size, 0, none⟩) N N) (List.replicate N 0) := by
  unfold Own
  have e : (madeCells #[.int .i64 0] N).toList = numCells (List.replicate N 0) := by
    rw [toList_madeCells_one]
    simp [numCells]
  have := World.ownsRow_lit w (e := 3) (size := 1) (madeCells #[.int .i64 0] N) N (Nat.le_refl _) (by unfold maxLen; omega) (by simp [madeCells])
  rw [e] at this
  rw [List.length_replicate]
  exact this
theorem own_num_put {w : World} {B g c n k : Nat} {l : List Int} (x : Int) (h : Own w B (.slice (some ⟨g, 0, none⟩) n c) l) (hn : n = l.length) : Own (w.setCell ⟨g, k, none⟩ (.int .i64 x)) B (.slice (some ⟨g, 0, none⟩) n c) (l.set k x) := by
  subst hn
  have h1 := (h.stored k (.int .i64 x)).1
  unfold Own
  rw [List.length_set, numCells, List.map_set]
  exact h1
theorem own_num_at {w : World} {B g c n : Nat} {l : List Int} (h : Own w B (.slice (some ⟨g, 0, none⟩) n c) l) {j : Nat} (hj : j < l.length) : w.cell? ⟨g, j, none⟩ = some (.int .i64 (l.getD j 0)) := by
  have := h.cells rfl j _ (numCells_at hj)
  rw [Go.WideShapes.add_plain, Nat.zero_add] at this
  rw [this, List.getD_eq_getElem?_getD, List.getElem?_eq_getElem hj]
  rfl
theorem own_num_free {w : World} {B g c n : Nat} {l : List Int} (h : Own w B (.slice (some ⟨g, 0, none⟩) n c) l) (hn : n = l.length) (o : Nat) : w.frozen? ⟨g, o, none⟩ = false := by
  subst hn
  exact h.frozenAt o
theorem ownStr_at {w : World} {B : Nat} {v : Value} {L : List Txt} (h : OwnStr w B v L) {j : Nat} {T : Txt} (hj : L[j]? = some T) : ∃ g c, v = .slice (some ⟨g, 0, none⟩) L.length c ∧ v.ownBlock = some g ∧ g < w.heap.size ∧ w.cell? ⟨g, j, none⟩ = some (.string (strT T)) := by
  have hlt : j < L.length := by
    rcases Nat.lt_or_ge j L.length with h | h
    · exact h
    · rw [List.getElem?_eq_none h] at hj; cases hj
  have h' := h
  rcases h.2 with ⟨rfl, h0⟩ | ⟨g, cap, cur, rfl, _⟩
  · omega
  · refine ⟨g, cap, rfl, rfl, (h'.lt g rfl).2, ?_⟩
    have := h'.cells rfl j (.string (strT T)) (by unfold strCells; rw [List.getElem?_map, hj]; rfl)
    rw [Go.WideShapes.add_plain, Nat.zero_add] at this
    exact this
set_option maxRecDepth 20000 in
theorem byRow {ts : List Rx} {all : List Sp} (R : RuS ts all) (hp : ∀ p ∈ all, SmlS p) (hl : all.length ≤ 16) (e : Int) (sv bv fv : Value) (st : St) (hst : ∀ y ∈ st, FrmS ts y) (b : Nat) (hb : b < 256) (u : World) (hS : Sets u sv (setsP all all.length)) (hG : Numss u bv (behP all all.length)) :
    Calls Tryz.prog 55 #[.agg #[.int .i64 e, sv, bv, fv], .string (strT (txS all st)), .int .u8 (b : Int)] u fun r w' => r = .returned (.tuple #[.string (strT (txS all (byS all st b))), .bool (!decide (byS all st b = []))]) ∧ Below u.heap.size u w' := by
  have htot := totP_max hl hp
  have hslen : (setsP all all.length).length = totP all := setsP_len all _
  have hglen : (behP all all.length).length = totP all := behP_len all _
  have := byTC e sv bv fv (setsP all all.length) (behP all all.length) (txS all st) b u (by omega) (by omega) (by rw [hslen]; exact markT_len _ _) hb (fun l hl => by rw [hslen]; exact behP_in R hp l hl) hS hG
  rw [hslen, byT_is R hst, leT_is R hst] at this
  exact this
theorem tx_inj {ts : List Rx} {all : List Sp} (R : RuS ts all) {x y : St} (hx : (∀ z ∈ x, FrmS ts z) ∧ Up x) (hy : (∀ z ∈ y, FrmS ts z) ∧ Up y) (e : txS all x = txS all y) : x = y := txS_inj (fun z hz => frP_of R (hx.1 z hz)) (fun z hz => frP_of R (hy.1 z hz)) hx.2 hy.2 e
theorem metT_is {ts : List Rx} {all : List Sp} (R : RuS ts all) {L : List St} (hL : ∀ x ∈ L, (∀ y ∈ x, FrmS ts y) ∧ Up x) {to : St} (hto : (∀ y ∈ to, FrmS ts y) ∧ Up to) (hne : to ≠ []) : metT (L.map (txS all)) (txS all to) = (metS L to).map (txS all) := by
  have hin : ∀ x ∈ L, txS all x = txS all to → x = to := fun x hx e => tx_inj R (hL x hx) hto e
  unfold metT
  by_cases hmm : to ∈ L
  · rw [if_pos ((mem_map_inj hin).2 hmm), metS_old hmm]
  · rw [if_neg (fun h => hmm ((mem_map_inj hin).1 h)), metS_new hne hmm, List.map_append]
    rfl
set_option maxRecDepth 20000 in
/-- number, of a state of the rules -/
theorem numRow {ts : List Rx} {all : List Sp} (R : RuS ts all) (htot : totP all ≤ 2000) (B mb mm : Nat) (F : Nat → Prop) (tv : Value) (L : List St) (to : St) (u : World) (hL : ∀ x ∈ L, (∀ y ∈ x, FrmS ts y) ∧ Up x) (hnd : L.Nodup) (hn : L.length ≤ 100000) (hto : (∀ y ∈ to, FrmS ts y) ∧ Up to) (hne : to ≠ [])
    (hm : MeO B mb F u tv mm (L.map (txS all))) :
    Calls Tryz.prog 41 #[.pointer (some ⟨mb, 0, none⟩), .string (strT (txS all to))] u fun e w' => ∃ nx : Int, e = .returned (.int .i64 nx) ∧ RowOK (metS L to) to nx ∧ ∃ F'' tv'', MeO B mb F'' w' tv'' mm ((metS L to).map (txS all)) ∧ Mvd F F'' u w' ∧ (∀ k, F k → F'' k) := by
  have hin : ∀ x ∈ L, txS all x = txS all to → x = to := fun x hx e => tx_inj R (hL x hx) hto e
  have hnd2 : (L.map (txS all)).Nodup := nodup_map hnd (fun x hx y hy e => tx_inj R (hL x hx) (hL y hy) e)
  refine (numberC B mb mm F tv _ (txS all to) u hm hnd2 (by rw [List.length_map]; exact hn) (by unfold txS; rw [markT_len]; exact htot)).mono ?_
  rintro e w' ⟨rfl, F'', tv'', h1, h2, h3⟩
  refine ⟨_, rfl, ?_, F'', tv'', ?_, h2, h3⟩
  · rw [idx_map hin]
    exact rowOK_met _ hne
  · rw [← metT_is R hL hto hne]
    exact h1
/-- what rowOf's walk asks of the parts, the rows and the states: a letter each -/
structure RowQ (mets : Nat → List St) (rows : Nat → List Int → Prop) (P : Nat → W4) (r : Nat → Nat) (to : Nat → St) (m : Nat) (S0 : List St) (q : List St × List Int) : Prop where
  m256 : m ≤ 256
  zero : mets 0 = S0
  row0 : rows 0 (List.replicate 256 0)
  len : ∀ k rw, rows k rw → rw.length = 256
  fit : ∀ k, k < m → Fit4 (P k)
  least : ∀ k, k < m → r k < 256 ∧ leastB (P k) = ((r k : Nat) : Int)
  succ : ∀ k, k < m → mets (k + 1) = metS (mets k) (to k)
  step : ∀ k rw nx, k < m → rows k rw → RowOK (mets (k + 1)) (to k) nx → rows (k + 1) (putB8 (P k) nx rw 256)
  fin : ∀ rw, rows m rw → rw = q.2 ∧ mets m = q.1
  pre : ∀ k, ∃ U, mets k = S0 ++ U
theorem rowQ_of {ts : List Rx} {all : List Sp} (R : RuS ts all) {S0 : List St} {st : St} (hst : ∀ y ∈ st, FrmS ts y) (hnd : S0.Nodup) {q : List St × List Int} (hq : rowK all st S0 256 = q) :
    RowQ (prtK all st S0 (repN (setsP all all.length) 256)) (PrtR all st S0 (setsP all all.length)) (fun k => clsB (setsP all all.length) ((repN (setsP all all.length) 256).getD k 0)) (fun k => (repN (setsP all all.length) 256).getD k 0) (fun k => byS all st ((repN (setsP all all.length) 256).getD k 0)) (repN (setsP all all.length) 256).length S0 q where
  m256 := repN_len _ _
  zero := rfl
  row0 := ⟨List.length_replicate, fun j hj => absurd hj (Nat.not_lt_zero _)⟩
  len := fun k rw h => h.1
  fit := fun k hk => cls_fit' _ _
  least := fun k hk => by
    have hm : (repN (setsP all all.length) 256).getD k 0 ∈ repN (setsP all all.length) 256 := by
      rw [List.getD_eq_getElem?_getD, List.getElem?_eq_getElem hk]
      exact List.getElem_mem hk
    exact ⟨repN_lt _ 256 _ hm, least_cls _ _ hm⟩
  succ := fun k hk => rfl
  step := fun k rw nx hk h1 h2 => by
    rw [putB8_end]
    exact h1.step R hst h2
  fin := fun rw h => by
    rw [← hq]
    exact ⟨h.fin R hst hnd, prt_end R hst hnd⟩
  pre := prtK_pre all st S0 _
theorem partsB_at (S : List W4) : (partsB S).length = (repN S 256).length ∧ ∀ k, k < (repN S 256).length → (partsB S).getD k noneB = clsB S ((repN S 256).getD k 0) := by
  unfold partsB
  refine ⟨List.length_map _, fun k hk => ?_⟩
  rw [List.getD_eq_getElem?_getD, List.getElem?_map, List.getD_eq_getElem?_getD, List.getElem?_eq_getElem hk, Option.map_some, Option.getD_some, Option.getD_some]

end Go.Proofs.YtjelgphhlcecoaaGreatDoor
namespace Go.Proofs.YtjelgphhlcecoaaGreatDoor
open Go.RowKit

theorem wrap_u8 {b : Nat} (h : b < 256) : IntKind.u8.wrap (b : Int) = (b : Int) := by
  simp [IntKind.wrap, IntKind.signed, IntKind.bits]
  omega
/-- what rowOf answers and leaves -/
def RowRes (B mb mm : Nat) (F : Nat → Prop) (w w' : World) (L : List Txt) (rv : Value) (row : List Int) : Prop := Own w' w.heap.size rv row ∧ ∃ F' tv', MeO B mb F' w' tv' mm L ∧ Mvd F F' w w' ∧ Off F' rv
set_option maxRecDepth 20000 in
theorem make256 (w : World) : (Instr.makeSlice 23 (.int .i64 256) (.int .i64 256)).run Tryz.prog w = .ok (.slice (some ⟨w.heap.size, 0, none⟩) 256 256) (w.alloc (.cells (madeCells #[.int .i64 0] 256) 3)) :=
  run_make_row' (P := Tryz.prog) 23 3 (.int .i64 0) 8 Tryz.underlying23 Tryz.info3 rfl .i64 .i64 256 (by omega) (by omega) w
set_option maxRecDepth 20000 in
set_option maxHeartbeats 4000000 in
theorem rowOfW {mets : Nat → List St} {rows : Nat → List Int → Prop} {P : Nat → W4} {r : Nat → Nat} {to : Nat → St} {m : Nat} {S0 : List St} {q : List St × List Int} (Q : RowQ mets rows P r to m S0 q)
    (tx : St → Txt) (T0 : Txt) (e : Int) (sa ba fa pa : Option Addr) (sn sc bn bc fn fc pc : Nat) (tv : Value) (B mb mm n : Nat) (F : Nat → Prop) (w0 w : World) (h0 : Below w0.heap.size w0 w)
    (GB : ∀ k, k < m → ∀ u, Below w0.heap.size w0 u → Calls Tryz.prog 55 #[.agg #[.int .i64 e, .slice sa sn sc, .slice ba bn bc, .slice fa fn fc], .string (strT T0), .int .u8 (r k : Int)] u fun z w' => z = .returned (.tuple #[.string (strT (tx (to k))), .bool (!decide (to k = []))]) ∧ Below u.heap.size u w')
    (GL : ∀ a0 a1 a2 a3 u, Fit4 ⟨a0, a1, a2, a3⟩ → Below w0.heap.size w0 u → Calls Tryz.prog 54 #[valB ⟨a0, a1, a2, a3⟩] u fun e w' => e = .returned (.int .i64 (leastB ⟨a0, a1, a2, a3⟩)) ∧ Below u.heap.size u w')
    (GN : ∀ k F' tv' u, k < m → to k ≠ [] → MeO B mb F' u tv' mm ((mets k).map tx) → Calls Tryz.prog 41 #[.pointer (some ⟨mb, 0, none⟩), .string (strT (tx (to k)))] u fun e w' => ∃ nx : Int, e = .returned (.int .i64 nx) ∧ RowOK (mets (k + 1)) (to k) nx ∧ ∃ F'' tv'', MeO B mb F'' w' tv'' mm ((mets (k + 1)).map tx) ∧ Mvd F' F'' u w' ∧ (∀ k, F' k → F'' k))
    (hM : MeO B mb F w tv mm (S0.map tx)) (hF0 : ∀ k, F k → w0.heap.size ≤ k) (hn : (S0.map tx)[n]? = some T0) (_hS0 : S0.length ≤ 240)
    (hP : ∀ k, k < m → ∃ b o, pa = some ⟨b, o, none⟩ ∧ b < w.heap.size ∧ ¬ F b ∧ At4 w b (o + k * 4) (P k)) :
    Calls Tryz.prog 44 #[.agg #[.int .i64 e, .slice sa sn sc, .slice ba bn bc, .slice fa fn fc], .pointer (some ⟨mb, 0, none⟩), .int .i64 (n : Int), .slice pa m pc] w fun z w' => ∃ rv, z = .returned rv ∧ RowRes B mb mm F w w' (q.1.map tx) rv q.2 := by
  have hm := Q.m256
  have hmk := make256
  obtain ⟨W0, hW0⟩ : ∃ W0, W0 = w.alloc (.cells #[.int .i64 e, .slice sa sn sc, .slice ba bn bc, .slice fa fn fc] 76) := ⟨_, rfl⟩
  have hb0 : Below w.heap.size w W0 := by rw [hW0]; exact al' w _
  have hs0 : W0.heap.size = w.heap.size + 1 := by rw [hW0]; simp
  have hq0 : W0.heap[w.heap.size]? = some (.cells #[.int .i64 e, .slice sa sn sc, .slice ba bn bc, .slice fa fn fc] 76) := by rw [hW0]; exact heap_new w _
  have hO0 := made_ints W0 256 (by omega)
  have hb1 := al' W0 (.cells (madeCells #[.int .i64 0] 256) 3)
  obtain ⟨W1, hW1⟩ : ∃ W1, W1 = W0.alloc (.cells (madeCells #[.int .i64 0] 256) 3) := ⟨_, rfl⟩
  have hs1 : W1.heap.size = w.heap.size + 2 := by rw [hW1]; simp [hs0]
  rw [← hW1] at hO0 hb1
  rw [hs0] at hO0
  have hbW : Hid (Below w.heap.size w W1) := hid (bl_step hb0 hb1)
  have hq1 := hid (hs_keep hq0 hb1)
  have hM1 := hid (hM.keep hbW.out)
  have hFlt := hid hM.lt
  have hs1' := hid hs1
  have hO0' := hid hO0
  have hP' : Hid (∀ k, k < m → ∃ b o, pa = some ⟨b, o, none⟩ ∧ b < w.heap.size ∧ ¬ F b ∧ At4 W1 b (o + k * 4) (P k)) := hid (fun k hk => by
    obtain ⟨b, o, h1, h2, h3, h4⟩ := hP k hk
    exact ⟨b, o, h1, h2, h3, h4.keep hbW.out⟩)
  have h0' := hid h0
  have GB' := hid GB
  have GL' := hid GL
  have GN' := hid GN
  have hF0' := hid hF0
  have hT' : Hid (∀ k, ((mets k).map tx)[n]? = some T0) := hid (fun k => by
    obtain ⟨U, hU⟩ := Q.pre k
    have hnl : n < (S0.map tx).length := by
      rcases Nat.lt_or_ge n (S0.map tx).length with h | h
      · exact h
      · rw [List.getElem?_eq_none h] at hn; cases hn
    rw [hU, List.map_append, List.getElem?_append_left hnl, hn])
  have hnl : Hid (∀ k, n < ((mets k).map tx).length) := hid (fun k => by
    rcases Nat.lt_or_ge n ((mets k).map tx).length with h | h
    · exact h
    · have := hT'.out k
      rw [List.getElem?_eq_none h] at this
      cases this)
  have hwS : Hid (w0.heap.size ≤ w.heap.size) := hid h0.size
  have hQ := hid Q
  rw [← Q.zero] at hM1
  have hr0 := hid Q.row0
  clear Q hM hF0 hn hP h0 GB GL GN hb0 hb1 hq0 hO0 hs1 hs0
  go_enter Tryz.func44, Tryz.ntmps44
  go_wp2
  clear hmk
  rw [← hW0, ← hW1]
  clear hW0 hW1 W0
  go_loopw [19] (fun i wr => ∃ (k : Nat) (rw : List Int) (F' : Nat → Prop) (tv' : Value), k ≤ m ∧ i = .int .i64 k ∧ Hid (rows k rw) ∧ Hid (Own wr (w.heap.size + 1) (.slice (some ⟨w.heap.size + 1, 0, none⟩) 256 256) rw) ∧ Hid (MeO B mb F' wr tv' mm ((mets k).map tx)) ∧ Hid (∀ k, F' k → F k ∨ W1.heap.size ≤ k) ∧ Kept (fun k => F k ∨ k = w.heap.size + 1) W1 wr) (fun i _ => m - (intOf i).toNat)
  case atStart => exact ⟨0, _, F, tv, Nat.zero_le _, rfl, hr0, hO0', hM1, hid (fun k h => Or.inl h), Kept.refl _ _⟩
  case round =>
    obtain ⟨k, rw, F', tv', hk, rfl, hrow, hO, hMe, hF', hkp⟩ := hrel
    have hkp' := hid hkp
    have hsz1 := hkp.size
    have hnF : Hid (∀ j, j < W1.heap.size → ¬ F j → ¬ F' j) := hid (fun j hj hf h => by
      rcases hF'.out j h with h' | h'
      · exact hf h'
      · omega)
    have hFw : Hid (∀ j, F j → j < w.heap.size) := hFlt
    have h0r : Hid (Below w0.heap.size w0 wr) := hid (((h0'.out.trans (hbW.out.mono hwS.out))).trans (hkp.below (fun j hj => by
      rcases hj with hj | hj
      · exact hF0'.out j hj
      · have := hwS.out; omega) (by have := hwS.out; have := hs1'.out; omega)))
    by_cases hlt : k < m
    · have hltz : (k : Int) < (m : Int) := by omega
      obtain ⟨b1, o1, rfl, hb1, hnb, hat⟩ := hP'.out k hlt
      have hb1W : b1 < W1.heap.size := by have := hs1'.out; omega
      have hnb' : ¬ (F b1 ∨ b1 = w.heap.size + 1) := fun h => by
        rcases h with h | h
        · exact hnb h
        · omega
      obtain ⟨z0, z1, z2, z3⟩ := hat
      have y0 := hkp.cell z0 hb1W hnb'
      have y1 := hkp.cell z1 hb1W hnb'
      have y2 := hkp.cell z2 hb1W hnb'
      have y3 := hkp.cell z3 hb1W hnb'
      clear z0 z1 z2 z3
      have hfit := hQ.out.fit k hlt
      have hlst := hQ.out.least k hlt
      have hstep := hid (fun nx => hQ.out.step k rw nx hlt hrow.out)
      have hsucc := hid (hQ.out.succ k hlt)
      have hlen := hid (hQ.out.len k rw hrow.out)
      have GBk := hid (GB'.out k hlt)
      obtain ⟨lv, hlv⟩ : ∃ lv : Bool, Hid (lv = !decide (to k = [])) := ⟨_, hid rfl⟩
      rw [← hlv.out] at GBk
      have GNk := hid (fun tv' u => GN'.out k F' tv' u hlt)
      generalize P k = Pk at y0 y1 y2 y3 hfit hlst hstep
      obtain ⟨pa, pb, pc', pd⟩ := Pk
      simp only at y0 y1 y2 y3
      have GLk := hid (fun u => GL'.out pa pb pc' pd u hfit)
      rw [hlst.2] at GLk
      have hr256 := hlst.1
      have hwrap := wrap_u8 hr256
      generalize r k = rk at GBk GLk hr256 hwrap
      clear hlst
      have hGH : Hid (∀ b u, b < 256 → Calls Tryz.prog 56 #[valB ⟨pa, pb, pc', pd⟩, .int .u8 ((b : Nat) : Int)] u fun e w' => e = .returned (.bool (hasB ⟨pa, pb, pc', pd⟩ b)) ∧ Below u.heap.size u w') := hid (fun b u hb => hasC' pa pb pc' pd b u hfit hb)
      -- the set's own block
      have hal := hid (al' wr (.cells #[.int .u64 (pa : Int), .int .u64 (pb : Int), .int .u64 (pc' : Int), .int .u64 (pd : Int)] 97))
      have hsb := hid (heap_new wr (.cells #[.int .u64 (pa : Int), .int .u64 (pb : Int), .int .u64 (pc' : Int), .int .u64 (pd : Int)] 97))
      have hpb : Hid ((wr.alloc (.cells #[.int .u64 (pa : Int), .int .u64 (pb : Int), .int .u64 (pc' : Int), .int .u64 (pd : Int)] 97)).heap[w.heap.size]? = some (.cells #[.int .i64 e, .slice sa sn sc, .slice ba bn bc, .slice fa fn fc] 76)) := hid (hs_keep (hkp.blk hq1.out (fun h => by
        rcases h with h | h
        · have := hFw.out _ h; omega
        · omega)) hal.out)
      have hM2 := hid (hMe.out.keep hal.out)
      obtain ⟨g, c, rfl, hgb, hgl, hgc⟩ := ownStr_at hM2.out.row (hT'.out k)
      have hnlk := hnl.out k
      have hnz : (n : Int) < (((mets k).map tx).length : Int) := by omega
      have hsW2 : wr.heap.size < (wr.alloc (.cells #[.int .u64 (pa : Int), .int .u64 (pb : Int), .int .u64 (pc' : Int), .int .u64 (pd : Int)] 97)).heap.size := by simp
      generalize hnlen : ((mets k).map tx).length = nl at *
      have hcells : Hid (∀ u, Below (wr.alloc (.cells #[.int .u64 (pa : Int), .int .u64 (pb : Int), .int .u64 (pc' : Int), .int .u64 (pd : Int)] 97)).heap.size (wr.alloc (.cells #[.int .u64 (pa : Int), .int .u64 (pb : Int), .int .u64 (pc' : Int), .int .u64 (pd : Int)] 97)) u →
          ((u.cell? ⟨w.heap.size, 0, none⟩ = some (.int .i64 e) ∧ u.cell? ⟨w.heap.size, 1, none⟩ = some (.slice sa sn sc) ∧ u.cell? ⟨w.heap.size, 2, none⟩ = some (.slice ba bn bc) ∧ u.cell? ⟨w.heap.size, 3, none⟩ = some (.slice fa fn fc)) ∧ u.cell? ⟨mb, 0, none⟩ = some (.slice (some ⟨g, 0, none⟩) nl c) ∧ u.cell? ⟨g, n, none⟩ = some (.string (strT T0)) ∧
          (u.cell? ⟨wr.heap.size, 0, none⟩ = some (.int .u64 (pa : Int)) ∧ u.cell? ⟨wr.heap.size, 1, none⟩ = some (.int .u64 (pb : Int)) ∧ u.cell? ⟨wr.heap.size, 2, none⟩ = some (.int .u64 (pc' : Int)) ∧ u.cell? ⟨wr.heap.size, 3, none⟩ = some (.int .u64 (pd : Int))))) := hid (fun u hu => by
        obtain ⟨a0, a1, a2, a3, -⟩ := cells4p (hs_keep hpb.out hu)
        obtain ⟨e0, -⟩ := cells2m (hs_keep hM2.out.blk hu)
        obtain ⟨s0, s1, s2, s3, -⟩ := cells4p (hs_keep hsb.out hu)
        exact ⟨⟨a0, a1, a2, a3⟩, e0, keep_cell hu hgc, s0, s1, s2, s3⟩)
      have h0u := hid (bl_step h0r.out hal.out)
      clear hgc hM2
      have hMk := hid (fun u (hu : Below wr.heap.size wr u) => hMe.out.keep hu)
      have hOk := hid (fun u (hu : Below wr.heap.size wr u) => own_below hO.out hu)
      go_wp2_with fail
      clear y0 y1 y2 y3
      generalize hW2 : wr.alloc (.cells #[.int .u64 (pa : Int), .int .u64 (pb : Int), .int .u64 (pc' : Int), .int .u64 (pd : Int)] 97) = W2 at *
      obtain ⟨⟨a0, a1, a2, a3⟩, c0, c1, s0, s1, s2, s3⟩ := hcells.out W2.drew (Below.refl _ _).drew
      go_region_held3 (fun w' => (w'.cell? ⟨w.heap.size, 0, none⟩ = some (.int .i64 e) ∧ w'.cell? ⟨w.heap.size, 1, none⟩ = some (.slice sa sn sc) ∧ w'.cell? ⟨w.heap.size, 2, none⟩ = some (.slice ba bn bc) ∧ w'.cell? ⟨w.heap.size, 3, none⟩ = some (.slice fa fn fc)) ∧ w'.cell? ⟨mb, 0, none⟩ = some (.slice (some ⟨g, 0, none⟩) nl c) ∧ w'.cell? ⟨g, n, none⟩ = some (.string (strT T0)) ∧
          (w'.cell? ⟨wr.heap.size, 0, none⟩ = some (.int .u64 (pa : Int)) ∧ w'.cell? ⟨wr.heap.size, 1, none⟩ = some (.int .u64 (pb : Int)) ∧ w'.cell? ⟨wr.heap.size, 2, none⟩ = some (.int .u64 (pc' : Int)) ∧ w'.cell? ⟨wr.heap.size, 3, none⟩ = some (.int .u64 (pd : Int))))
        (go_keep)
        ((first
          | (go_at_call 54; refine (GLk.out _ (bl_step h0u.out (Below.refl _ _).drew)).mono ?_; rintro e' w3 ⟨rfl, hb3⟩; have hb3' : Below W2.heap.size W2 w3 := bl_step (Below.refl _ _).drew hb3; obtain ⟨⟨b0, b1', b2, b3⟩, d0, d1, t0, t1, t2, t3⟩ := hcells.out w3 hb3')
          | (go_at_call 55; refine (GBk.out _ (bl_step h0u.out hb3')).mono ?_; rintro e' w4 ⟨rfl, hb4⟩; have hb4' : Below W2.heap.size W2 w4 := bl_step hb3' hb4; obtain ⟨⟨f0, f1, f2, f3⟩, g0, g1, v0, v1, v2, v3⟩ := hcells.out w4 hb4')))
      have hrbF : Hid (¬ F' (w.heap.size + 1)) := hid (fun h => by
        rcases hF'.out _ h with h' | h'
        · have := hFw.out _ h'; omega
        · have := hs1'.out; omega)
      have hsbF : Hid (¬ F' wr.heap.size) := hid (fun h => by have := hMe.out.lt _ h; omega)
      have hb4w : Hid (Below wr.heap.size wr w4) := hid (bl_step hal.out hb4')
      have hset4 := hid (hs_keep hsb.out hb4')
      have hwrs : w.heap.size + 1 < wr.heap.size := by have := hs1'.out; omega
      clear a0 a1 a2 a3 c0 c1 s0 s1 s2 s3 b0 b1' b2 b3 d0 d1 t0 t1 t2 t3 f0 f1 f2 f3 g0 g1 v0 v1 v2 v3 hcells hb3 hb3' hb4
      by_cases hto : to k = []
      · have hok : Hid (RowOK (mets (k + 1)) (to k) (-1)) := hid (Or.inl ⟨hto, rfl⟩)
        have hOn := hid (hOk.out w4 hb4w.out)
        have hset := hset4
        have hsne : Hid (¬ wr.heap.size = w.heap.size + 1) := hid (by omega)
        have hMn : Hid (MeO B mb F' w4 (.slice (some ⟨g, 0, none⟩) nl c) mm ((mets (k + 1)).map tx)) := hid (by rw [hsucc.out, hto, metS_nil]; exact hMk.out w4 hb4w.out)
        have hFrb : Hid (∀ j, F' j → ¬ j = w.heap.size + 1) := hid (fun j hj e0 => hrbF.out (by rw [← e0]; exact hj))
        have hFn := hF'
        have hkn : Hid (Kept (fun k => F k ∨ k = w.heap.size + 1) W1 w4) := hid (hkp'.out.step (Kept.of_below hb4w.out (F := noBlk)) (fun _ _ h => h.elim))
        have hlv' : lv = false := by rw [hlv.out, hto]; rfl
        clear hlv hto
        subst hlv'
        go_wp2
        generalize (-1 : Int) = nx at hok ⊢

        obtain ⟨wo, hwo⟩ : ∃ x, x = wr := ⟨_, rfl⟩
        subst hwo
        have hput := hid (fun c (hc : c < 256) => putB8_yes (P := ⟨pa, pb, pc', pd⟩) (nx := nx) (rw := rw) hc)
        have hnop := hid (fun c => putB8_no (P := ⟨pa, pb, pc', pd⟩) (nx := nx) (rw := rw) (c := c))
        have hz0 := hid (putB8_zero ⟨pa, pb, pc', pd⟩ nx hlen.out)
        have hpl := hid (fun c => putB8_len ⟨pa, pb, pc', pd⟩ nx rw c)
        have hrow2 := hid (hstep.out nx hok.out)
        generalize hpc : putB8 ⟨pa, pb, pc', pd⟩ nx rw = X at hput hnop hz0 hpl hrow2
        clear hpc
        go_loopw [44] (fun i wr2 => ∃ b : Nat, b ≤ 256 ∧ i = .int .i64 b ∧ Hid (Own wr2 (w.heap.size + 1) (.slice (some ⟨w.heap.size + 1, 0, none⟩) 256 256) (X b)) ∧ Kept (fun k => k = w.heap.size + 1) w4 wr2) (fun i _ => 256 - (intOf i).toNat)
        case atStart => exact ⟨0, Nat.zero_le _, rfl, hid (by rw [hz0.out]; exact hOn.out), Kept.refl _ _⟩
        case round =>
          obtain ⟨b, hb, rfl, hO2, hk2⟩ := hrel
          by_cases hbl : b < 256
          · have hbz : (b : Int) < 256 := by omega
            have hbw := wrap_u8 hbl
            obtain ⟨x0, x1, x2, x3, -⟩ := cells4p (hk2.blk hset.out hsne.out)
            have G1 := hid (fun u => hGH.out b u hbl)
            have hyes := hid (hput.out b hbl)
            have hno := hid (hnop.out b)
            generalize hasB ⟨pa, pb, pc', pd⟩ b = hv at G1 hyes hno
            have hxl : b < (X b).length := by rw [hpl.out]; exact hbl
            cases hv with
            | false =>
              have hX := hid (hno.out rfl)
              go_wp2_with (go_at_call 56; refine (G1.out _).mono ?_; rintro e' w6 ⟨rfl, hb6⟩)
              go_roundw
              case rel => exact ⟨b + 1, by omega, by go_num, hid (by rw [hX.out]; exact own_below hO2.out hb6), hk2.step (Kept.of_below hb6 (F := noBlk)) (fun _ _ h => h.elim)⟩
              case measure => simp [intOf]; omega
            | true =>
              have hX := hid (hyes.out rfl)
              have hbr := hk2.size
              go_wp2_with (go_at_call 56; refine (G1.out _).mono ?_; rintro e' w6 ⟨rfl, hb6⟩; have hO6 := hid (own_below hO2.out hb6); have i0 := own_num_at hO6.out hxl; have i1 := own_num_free hO6.out (hpl.out b).symm b; have hO7 := hid (own_num_put (k := b) nx hO6.out (hpl.out b).symm))
              go_roundw
              case rel => exact ⟨b + 1, by omega, by go_num, hid (by rw [hX.out]; exact hO7.out), (hk2.step (Kept.of_below hb6 (F := noBlk)) (fun _ _ h => h.elim)).setCell (fun _ => rfl)⟩
              case measure => simp [intOf]; omega
          · have hbz : ¬ (b : Int) < 256 := by omega
            obtain rfl : b = 256 := by omega
            have hMz := hid (MeO.kept hMn.out hk2 (fun j hj e0 => hFrb.out j hj e0))
            have hkz : Hid (Kept (fun k => F k ∨ k = w.heap.size + 1) W1 wr) := hid (hkn.out.step hk2 (fun j _ h => Or.inr h))
            go_wp2
            go_roundw
            case rel => exact ⟨k + 1, _, _, _, by omega, by go_num, hrow2, hO2, hMz, hFn, hkz.out⟩
            case measure => simp [intOf]; omega
      · have hlv' : lv = true := by rw [hlv.out, decide_eq_false hto]; rfl
        clear hlv
        subst hlv'
        have G5 := hid (GNk.out _ w4 hto (hMk.out w4 hb4w.out))
        go_wp2_with (go_at_call 41; refine G5.out.mono ?_; rintro e' w5 ⟨nx, rfl, hok, hnew⟩; have hok := hid hok; have hnew := hid hnew)
        obtain ⟨F5, tv5, hM5, hv5, -⟩ := hnew.out
        have hOn : Hid (Own w5 (w.heap.size + 1) (.slice (some ⟨w.heap.size + 1, 0, none⟩) 256 256) rw) := hid (own_kept (hOk.out w4 hb4w.out) hv5.kept (fun j e0 hf => hrbF.out (by have e1 : w.heap.size + 1 = j := (by injection e0); rw [e1]; exact hf)))
        have hset := hid (hv5.kept.blk hset4.out hsbF.out)
        have hsne : Hid (¬ wr.heap.size = w.heap.size + 1) := hid (by omega)
        have hMn := hid hM5
        have hFrb : Hid (∀ j, F5 j → ¬ j = w.heap.size + 1) := hid (fun j hj e0 => by
          rcases hv5.new j hj with h | h
          · exact hrbF.out (by rw [← e0]; exact h)
          · have := hb4w.out.size; omega)
        have hFn : Hid (∀ j, F5 j → F j ∨ W1.heap.size ≤ j) := hid (fun j hj => by
          rcases hv5.new j hj with h | h
          · exact hF'.out j h
          · exact Or.inr (by have := hb4w.out.size; omega))
        have hkn : Hid (Kept (fun k => F k ∨ k = w.heap.size + 1) W1 w5) := hid ((hkp'.out.step (Kept.of_below hb4w.out (F := noBlk)) (fun _ _ h => h.elim)).step hv5.kept (fun j hj h => by
          rcases hF'.out j h with h' | h'
          · exact Or.inl h'
          · omega))
        clear hM5 hv5 hnew G5

        obtain ⟨wo, hwo⟩ : ∃ x, x = wr := ⟨_, rfl⟩
        subst hwo
        have hput := hid (fun c (hc : c < 256) => putB8_yes (P := ⟨pa, pb, pc', pd⟩) (nx := nx) (rw := rw) hc)
        have hnop := hid (fun c => putB8_no (P := ⟨pa, pb, pc', pd⟩) (nx := nx) (rw := rw) (c := c))
        have hz0 := hid (putB8_zero ⟨pa, pb, pc', pd⟩ nx hlen.out)
        have hpl := hid (fun c => putB8_len ⟨pa, pb, pc', pd⟩ nx rw c)
        have hrow2 := hid (hstep.out nx hok.out)
        generalize hpc : putB8 ⟨pa, pb, pc', pd⟩ nx rw = X at hput hnop hz0 hpl hrow2
        clear hpc
        go_loopw [44] (fun i wr2 => ∃ b : Nat, b ≤ 256 ∧ i = .int .i64 b ∧ Hid (Own wr2 (w.heap.size + 1) (.slice (some ⟨w.heap.size + 1, 0, none⟩) 256 256) (X b)) ∧ Kept (fun k => k = w.heap.size + 1) w5 wr2) (fun i _ => 256 - (intOf i).toNat)
        case atStart => exact ⟨0, Nat.zero_le _, rfl, hid (by rw [hz0.out]; exact hOn.out), Kept.refl _ _⟩
        case round =>
          obtain ⟨b, hb, rfl, hO2, hk2⟩ := hrel
          by_cases hbl : b < 256
          · have hbz : (b : Int) < 256 := by omega
            have hbw := wrap_u8 hbl
            obtain ⟨x0, x1, x2, x3, -⟩ := cells4p (hk2.blk hset.out hsne.out)
            have G1 := hid (fun u => hGH.out b u hbl)
            have hyes := hid (hput.out b hbl)
            have hno := hid (hnop.out b)
            generalize hasB ⟨pa, pb, pc', pd⟩ b = hv at G1 hyes hno
            have hxl : b < (X b).length := by rw [hpl.out]; exact hbl
            cases hv with
            | false =>
              have hX := hid (hno.out rfl)
              go_wp2_with (go_at_call 56; refine (G1.out _).mono ?_; rintro e' w6 ⟨rfl, hb6⟩)
              go_roundw
              case rel => exact ⟨b + 1, by omega, by go_num, hid (by rw [hX.out]; exact own_below hO2.out hb6), hk2.step (Kept.of_below hb6 (F := noBlk)) (fun _ _ h => h.elim)⟩
              case measure => simp [intOf]; omega
            | true =>
              have hX := hid (hyes.out rfl)
              have hbr := hk2.size
              go_wp2_with (go_at_call 56; refine (G1.out _).mono ?_; rintro e' w6 ⟨rfl, hb6⟩; have hO6 := hid (own_below hO2.out hb6); have i0 := own_num_at hO6.out hxl; have i1 := own_num_free hO6.out (hpl.out b).symm b; have hO7 := hid (own_num_put (k := b) nx hO6.out (hpl.out b).symm))
              go_roundw
              case rel => exact ⟨b + 1, by omega, by go_num, hid (by rw [hX.out]; exact hO7.out), (hk2.step (Kept.of_below hb6 (F := noBlk)) (fun _ _ h => h.elim)).setCell (fun _ => rfl)⟩
              case measure => simp [intOf]; omega
          · have hbz : ¬ (b : Int) < 256 := by omega
            obtain rfl : b = 256 := by omega
            have hMz := hid (MeO.kept hMn.out hk2 (fun j hj e0 => hFrb.out j hj e0))
            have hkz : Hid (Kept (fun k => F k ∨ k = w.heap.size + 1) W1 wr) := hid (hkn.out.step hk2 (fun j _ h => Or.inr h))
            go_wp2
            go_roundw
            case rel => exact ⟨k + 1, _, _, _, by omega, by go_num, hrow2, hO2, hMz, hFn, hkz.out⟩
            case measure => simp [intOf]; omega
    · have hltz : ¬ (k : Int) < (m : Int) := by omega
      obtain rfl : k = m := by omega
      obtain ⟨e1, e2⟩ := hQ.out.fin rw hrow.out
      have hO1 : Own wr (w.heap.size + 1) (.slice (some ⟨w.heap.size + 1, 0, none⟩) 256 256) q.2 := by rw [← e1]; exact hO.out
      have hO1 := hid hO1
      have hMf : Hid (MeO B mb F' wr tv' mm (q.1.map tx)) := hid (by rw [← e2]; exact hMe.out)
      clear e1 e2
      go_wp2
      go_ret
      refine ⟨_, rfl, own_base hO1.out (by omega), F', tv', hMf.out, ⟨(Kept.of_below hbW.out (F := F)).step hkp (fun j hj h => ?_), fun j h => ?_⟩, fun ad nn cc e0 h1 h2 => ?_⟩
      · rcases h with h | h
        · exact h
        · omega
      · rcases hF'.out j h with h' | h'
        · exact Or.inl h'
        · exact Or.inr (by have := hs1'.out; omega)
      · have e1 : w.heap.size + 1 = ad.block := by
          injection e0 with e0
          injection e0 with e0
          rw [← e0]
        rcases hF'.out _ h2 with h' | h'
        · have := hFlt.out _ h'; omega
        · have := hs1'.out; omega

end Go.Proofs.YtjelgphhlcecoaaGreatDoor
namespace Go.Proofs.YtjelgphhlcecoaaGreatDoor
open Go.RowKit

set_option maxRecDepth 20000 in
set_option maxHeartbeats 8000000 in
theorem sofGood (v : Value) (t : Rx) (w : World) (hA : Cels w v (post t)) (ho : t.ok) (h60 : (post t).length ≤ 60) :
    Calls Tryz.prog 48 #[v] w fun e w' => ∃ sv fv lv gv fl, e = .returned (.tuple #[.agg #[sv, .bool t.null, fv, lv, gv], .int .i64 0]) ∧ SpVF (fun k => k < w.heap.size) w' sv fv lv gv ⟨setsS [t], t.null, firstL t 0, lastL t 0, fl⟩ ∧ FolOK (FolS [t]) (nS [t]) fl ∧ Below w.heap.size w w' := by
  have hb0 := al' w (.cells #[nilV, .bool false, nilV, nilV, nilV] 91)
  have hrt := right_post ho h60
  have G := hid (rightP v _ _ (hA.keep hb0))
  rw [hrt] at G
  have hq := heap_new w (.cells #[nilV, .bool false, nilV, nilV, nilV] 91)
  have hb0 := hid hb0
  have hfit : Hid (∀ S ∈ setsS [t], Fit4 S) := hid (fun S hS => by obtain ⟨_, _, _, _, _, hF, _⟩ := hA; exact (hF _ (setsL_post t S (by simpa [setsS] using hS))).3)
  have hend : Hid (stK (post t) (post t).length = [t]) := hid (stK_end t)
  obtain ⟨l, hl⟩ : ∃ l, l = post t := ⟨_, rfl⟩
  rw [← hl] at hA hrt hend h60
  have hpos : 0 < l.length := by rw [hl]; exact post_pos t
  obtain ⟨av, cv, rfl, _, _, hFl, hAt⟩ := hA
  have hAt := hid hAt
  have hFl := hid hFl
  have hsuc := hid (fun k (hk : k < l.length) => stK_succ l k hk)
  have hwan := hid (fun k (hk : k < l.length) => stK_wants hrt k hk)
  have hns := hid (fun k (hk : k ≤ l.length) => nS_stK hrt k hk)
  obtain ⟨iP, hiP, zP0, zP1, zP2⟩ := info_parts Tryz.infoP
  obtain ⟨iS, hiS, zS0, zS1, zS2⟩ := info_parts Tryz.infoS4
  obtain ⟨iN, hiN, zN0, zN1, zN2⟩ := info_parts Tryz.infoN
  have hstart : Hid (stK l 0 = []) := hid rfl
  clear ho hrt hl
  go_enter Tryz.func48, Tryz.ntmps48
  go_wp2_with (go_at_call 61; refine G.out.mono ?_; rintro e w1 ⟨rfl, hb1⟩)
  have hM0 := hid (OfM.start w1 w.heap.size (Nat.lt_of_lt_of_le (by simp) hb1.size))
  have hbw : Hid (Below w.heap.size w (w1.alloc (.cells #[nilV, .bool false, nilV, nilV, nilV] 91))) := hid (bl_step (bl_step hb0.out hb1) (al' w1 _))
  have hqr := hid (hs_keep (hs_keep hq hb1) (al' w1 (.cells #[nilV, .bool false, nilV, nilV, nilV] 91)))
  have hpb : w.heap.size < w1.heap.size := Nat.lt_of_lt_of_le (by simp) hb1.size
  have hpl : Hid (w1.heap.size < (w1.alloc (.cells #[nilV, .bool false, nilV, nilV, nilV] 91)).heap.size) := hid (by simp)
  clear G hb0 hq hb1
  generalize w1.alloc (.cells #[nilV, .bool false, nilV, nilV, nilV] 91) = W0 at hM0 hbw hqr hpl ⊢
  generalize w1.heap.size = pb at hM0 hpb hpl ⊢
  clear w1
  go_loopw [6, 18] (fun ov i wr => ∃ (k : Nat) (F : Nat → Prop) (sv gv : Value) (gs : List Value) (fl : List (List Int)) (xs : List Value), k ≤ l.length ∧ i = .int .i64 k ∧ Hid (OfM pb pb F (nS (stK l k)) wr sv gv ov (setsS (stK l k)) gs fl (stK l k) xs) ∧ Hid (FolOK (FolS (stK l k)) (nS (stK l k)) fl) ∧ Hid (LowF w.heap.size F) ∧ Below pb W0 wr) (fun _ i _ => l.length - (intOf i).toNat)
  case atStart => exact ⟨0, _, _, _, _, _, _, Nat.zero_le _, rfl, hM0, hid folOK_start, hid (fun _ h => Or.inr h), (Below.refl _ _).mono (Nat.le_of_lt hpl.out)⟩
  case round =>
    obtain ⟨k, F, sv, gv, gs, fl, xs, hk, rfl, hM, hFol, hX, hbl⟩ := hrel
    have hnk := hns.out k hk
    have hblw := hid (hbw.out.trans (hbl.mono (Nat.le_of_lt hpb)))
    have hpw : Hid (pb ≤ wr.heap.size) := hid hM.out.lk.base
    by_cases hlt : k < l.length
    · have hltz : (k : Int) < (l.length : Int) := by omega
      obtain ⟨b', o', rfl, hb', hat0⟩ := hAt.out k hlt
      have hat := hat0.keep hblw.out
      clear hat0
      have hw := hwan.out k hlt
      have hsu := hid (hsuc.out k hlt)
      have hfc := hid (hFl.out _ (List.getElem_mem hlt))
      generalize stK l k = st at hM hFol hnk hw hsu
      generalize l[k] = c at hat hw hsu hfc
      obtain ⟨op, S⟩ := c
      obtain ⟨sa, sb, sc, sd⟩ := S
      obtain ⟨d0, d1, d2, d3, d4⟩ := hat
      simp only at d0 d1 d2 d3 d4 hw
      have hc0 := heap_new wr (.cells #[.int .i64 op, .int .u64 (sa : Int), .int .u64 (sb : Int), .int .u64 (sc : Int), .int .u64 (sd : Int)] 115)
      obtain ⟨q0, q1, q2, q3, q4⟩ := cells5 hc0
      have hcb := hid hc0
      clear hc0
      rcases wants_cases op hw.1 with ⟨rfl, hwo⟩ | ⟨rfl, hwo⟩ | ⟨rfl, hwo⟩ | ⟨rfl, hwo⟩ | ⟨rfl, hwo⟩ | ⟨rfl, hwo⟩ | ⟨rfl, hwo⟩
      · have hst : Hid (stK l (k + 1) = .set ⟨sa, sb, sc, sd⟩ :: st) := hid (by rw [hsu.out]; simp [stepS])
        obtain ⟨oa, oc, hov⟩ := own_shape hM.out.own
        subst hov
        obtain ⟨sva, svc, rfl⟩ := own_shape hM.out.sets
        have hgv := own_shape hM.out.lk.own
        obtain ⟨gva, gvc, rfl⟩ := hgv
        have hgl : gs.length ≤ 60 := by rw [hM.out.lk.len]; omega
        have hsl := hid (setsS_len st)
        have hs60 : (setsS st).length ≤ 60 := by rw [hsl.out]; omega
        have M1 := hid (hM.out.keep (al' wr (.cells #[.int .i64 1, .int .u64 (sa : Int), .int .u64 (sb : Int), .int .u64 (sc : Int), .int .u64 (sd : Int)] 115)))
        obtain ⟨p0, p1, p2, p3, p4, -⟩ := cells5s M1.out.blk
        have hFl1 : Hid (∀ k, F k → k < (wr.alloc (.cells #[.int .i64 1, .int .u64 (sa : Int), .int .u64 (sb : Int), .int .u64 (sc : Int), .int .u64 (sd : Int)] 115)).heap.size) := hid (fun k e => M1.out.lk.lt k e)
        have hB1 := hid (bstep hbl (al' wr (.cells #[.int .i64 1, .int .u64 (sa : Int), .int .u64 (sb : Int), .int .u64 (sc : Int), .int .u64 (sd : Int)] 115)) hpw.out)
        have GS := hid (fun u => spotP ((setsS st).length : Int) u)
        have hst60 : st.length ≤ 60 := by omega
        have hcl : wr.heap.size < (wr.alloc (.cells #[.int .i64 1, .int .u64 (sa : Int), .int .u64 (sb : Int), .int .u64 (sc : Int), .int .u64 (sd : Int)] 115)).heap.size := by simp
        have hcn : Hid (∀ k, F k → k ≠ wr.heap.size) := hid (fun k e => by have := hM.out.lk.lt k e; omega)
        have hnn : nS st + 1 ≤ 60 := by omega
        go_wp2_with (first
          | (at_builtin; refine wpList_append_lies _ (by rfl) _ _ _ (by rfl) pb 23 iN (.slice none 0 0) 1 24 Tryz.underlying22 hiN zN0 zN1 zN2 rfl (by decide) (.slice gva gs.length gvc) gs.length gs (by rfl) M6.out.lk.own ⟨w3.heap.size, 0, none⟩ 1 1 [.slice none 0 0] (by rfl) (by rfl) (World.news_of_block (heap_new_set w3 _ _ (.cells #[.slice none 0 0] 23))) (by simp [Value.oneCell']) (by omega) (by (unfold maxLen); omega) (by omega) (M6.out.lk.base) (World.heap ((w3.setCell ⟨pb, 0, none⟩ (.slice (some ⟨g3, 0, none⟩) ((setsS st).length + 1) cap3)).alloc (.cells #[.slice none 0 0] 23))).size rfl ?_; intro g4 cap4 w4 hown4 hgrow4 hat4 hlt4; have M7 := hid (M6.out.addFol hnn hown4 hgrow4 hat4); have hb4 := grown_blk hgrow4 M6.out.blk (fun e => (M6.out.lk.row _ e).2 rfl); obtain ⟨y0, y1, y2, y3, y4, v0, v1, v2, v3, v4⟩ := cells5s hb4; have hB7 := hid (bl_set (bgrow hB6.out hgrow4 M6.out.lk.base (fun k e => (M6.out.lk.own.lt k e).1)) pb 4 (.slice (some ⟨g4, 0, none⟩) (gs.length + 1) cap4) (Nat.le_refl _)); clear hb4 x0 x1 x2 x3 x4 hgrow4 hown4)
          | (at_builtin; refine wpList_append_lies _ (by rfl) _ _ _ (by rfl) pb 97 iS (.agg #[.int .u64 0, .int .u64 0, .int .u64 0, .int .u64 0]) 4 32 Tryz.underlying74 hiS zS0 zS1 zS2 rfl (by decide) (.slice sva (setsS st).length svc) (setsS st).length (flatS (setsS st)) (by rfl) M4.out.sets ⟨w2.heap.size, 0, none⟩ 1 1 [.int .u64 (sa : Int), .int .u64 (sb : Int), .int .u64 (sc : Int), .int .u64 (sd : Int)] (by rfl) (by rfl) (World.news_of_block (heap_new w2 (.cells #[.int .u64 (sa : Int), .int .u64 (sb : Int), .int .u64 (sc : Int), .int .u64 (sd : Int)] 97))) (by simp [Value.oneCell']) (by omega) (by (unfold maxLen); omega) (by omega) (M4.out.lk.base) (World.heap (w2.alloc (.cells #[.int .u64 (sa : Int), .int .u64 (sb : Int), .int .u64 (sc : Int), .int .u64 (sd : Int)] 97))).size rfl ?_; intro g3 cap3 w3 hown3 hgrow3 hat3 hlt3; have M5 := hid (M4.out.addSet (T := ⟨sa, sb, sc, sd⟩) hown3 hgrow3 hat3); have hb3 := grown_blk hgrow3 M4.out.blk (fun e => (M4.out.sF _ e).2.1 rfl); obtain ⟨s0, s1, s2, s3, s4, t0, t1, t2, t3, t4⟩ := cells5s hb3; have hB5 := hid (bl_set (bgrow hB4.out hgrow3 M4.out.lk.base (fun k e => (M4.out.sets.lt k e).1)) pb 0 (.slice (some ⟨g3, 0, none⟩) ((setsS st).length + 1) cap3) (Nat.le_refl _)); obtain ⟨x0, x1, x2, x3, x4, -⟩ := cells5s M5.out.blk; have M6 := hid (M5.out.keep (al' (w3.setCell ⟨pb, 0, none⟩ (.slice (some ⟨g3, 0, none⟩) ((setsS st).length + 1) cap3)) (.cells #[.slice none 0 0] 23))); have hB6 := hid (bstep hB5.out (al' (w3.setCell ⟨pb, 0, none⟩ (.slice (some ⟨g3, 0, none⟩) ((setsS st).length + 1) cap3)) (.cells #[.slice none 0 0] 23)) M5.out.lk.base); clear hb3 r0 r1 r2 r3 r4 Q0 Q1 Q2 Q3 Q4 hgrow3 hown3)
          | (at_builtin; refine wpList_append_lies _ (by rfl) _ _ _ (by rfl) pb 117 iP (.agg #[.bool false, .slice none 0 0, .slice none 0 0]) 3 56 Tryz.underlying113 hiP zP0 zP1 zP2 rfl (by decide) (.slice oa st.length oc) st.length xs (by rfl) M2.out.own ⟨w1.heap.size, 0, none⟩ 1 1 [.bool false, .slice xa 1 xc, .slice ya 1 yc] (by rfl) (by rfl) (World.news_of_block (heap_new w1 (.cells #[.bool false, .slice xa 1 xc, .slice ya 1 yc] 117))) (by simp [Value.oneCell']) (by omega) (by (unfold maxLen); omega) (by omega) (M2.out.lk.base) (World.heap (w1.alloc (.cells #[.bool false, .slice xa 1 xc, .slice ya 1 yc] 117))).size rfl ?_; intro g2 cap2 w2 hown2 hgrow2 hat2 hlt2; have M3 := hid (M2.out.push (t := .set ⟨sa, sb, sc, sd⟩) hp2.out hown2 hgrow2 hat2); have hB3 := hid (bgrow hB2.out hgrow2 M2.out.lk.base (fun k e => (M2.out.own.lt k e).1)); have hc3 := hid (grown_blk hgrow2 hc2.out (fun e => hcn.out _ (M2.out.oF _ e).1 rfl)); obtain ⟨Q0, Q1, Q2, Q3, Q4⟩ := cells5 hc3.out; obtain ⟨r0, r1, r2, r3, r4, -⟩ := cells5s M3.out.blk; have M4 := hid (M3.out.keep (al' w2 (.cells #[.int .u64 (sa : Int), .int .u64 (sb : Int), .int .u64 (sc : Int), .int .u64 (sd : Int)] 97))); have hB4 := hid (bstep hB3.out (al' w2 (.cells #[.int .u64 (sa : Int), .int .u64 (sb : Int), .int .u64 (sc : Int), .int .u64 (sd : Int)] 97)) M3.out.lk.base); clear q0 q1 q2 q3 q4 p0 p1 p2 p3 p4 hgrow2 hown2)
          | (go_at_call 64; refine (GS.out _).mono ?_; rintro e w1 ⟨fv, lv, rfl, hO1, hO2, hb1⟩; obtain ⟨xa, xc, e1, hx⟩ := id (Nums.of_row hO1); obtain ⟨ya, yc, e2, hy⟩ := id (Nums.of_row hO2); clear hx hy; have e1' : fv = .slice xa 1 xc := e1; have e2' : lv = .slice ya 1 yc := e2; clear e1 e2; subst e1'; subst e2'; have M2 := hid ((M1.out.keep hb1).keep (al' w1 (.cells #[.bool false, .slice xa 1 xc, .slice ya 1 yc] 117))); have hp2 : Hid (PtV F (w1.alloc (.cells #[.bool false, .slice xa 1 xc, .slice ya 1 yc] 117)) (.slice xa 1 xc) (.slice ya 1 yc) (firstL (.set ⟨sa, sb, sc, sd⟩) (nS st)) (lastL (.set ⟨sa, sb, sc, sd⟩) (nS st))) := hid (by (rw [hsl.out] at hO1 hO2; exact PtV.keep ⟨Nums.of_row hO1, Off.new hO1 hFl1.out, Nums.of_row hO2, Off.new hO2 hFl1.out⟩ (al' w1 (.cells #[.bool false, .slice xa 1 xc, .slice ya 1 yc] 117)))); have hB2 := hid (bstep hB1.out (bl_step hb1 (al' w1 (.cells #[.bool false, .slice xa 1 xc, .slice ya 1 yc] 117))) M1.out.lk.base); have hc2 := hid (hs_keep (hs_keep hcb.out hb1) (al' w1 (.cells #[.bool false, .slice xa 1 xc, .slice ya 1 yc] 117)))))
        go_roundw
        case rel => exact ⟨k + 1, _, _, _, _, _, _, by omega, by go_num, hid (by rw [hst.out]; exact M7.out), hid (by rw [hst.out]; exact (hFol.out.more (fun j k h => (folS_in st j k h).1)).congr (fun j k _ => (folS_set _ st j k).symm)), hid (hX.out.up fun _ h => Or.inl (Or.inl (Or.inl h))), hB7.out⟩
        case measure => simp [intOf]; omega
      · have hst : Hid (stK l (k + 1) = .eps :: st) := hid (by rw [hsu.out]; simp [stepS])
        obtain ⟨oa, oc, hov⟩ := own_shape hM.out.own
        subst hov
        have hst60 : st.length ≤ 60 := by omega
        have M1 := hid ((hM.out.keep (al' wr (.cells #[.int .i64 2, .int .u64 (sa : Int), .int .u64 (sb : Int), .int .u64 (sc : Int), .int .u64 (sd : Int)] 115))).keep (al' (wr.alloc (.cells #[.int .i64 2, .int .u64 (sa : Int), .int .u64 (sb : Int), .int .u64 (sc : Int), .int .u64 (sd : Int)] 115)) (.cells #[.bool true, .slice none 0 0, .slice none 0 0] 117)))
        have hB1 := hid (bstep hbl (bl_step (al' wr (.cells #[.int .i64 2, .int .u64 (sa : Int), .int .u64 (sb : Int), .int .u64 (sc : Int), .int .u64 (sd : Int)] 115)) (al' (wr.alloc (.cells #[.int .i64 2, .int .u64 (sa : Int), .int .u64 (sb : Int), .int .u64 (sc : Int), .int .u64 (sd : Int)] 115)) (.cells #[.bool true, .slice none 0 0, .slice none 0 0] 117))) hpw.out)
        have hN1 := hid (two_blocks wr (.cells #[.int .i64 2, .int .u64 (sa : Int), .int .u64 (sb : Int), .int .u64 (sc : Int), .int .u64 (sd : Int)] 115) (.cells #[.bool true, .slice none 0 0, .slice none 0 0] 117)).2
        go_wp2_with (at_builtin; refine wpList_append_lies _ (by rfl) _ _ _ (by rfl) pb 117 iP (.agg #[.bool false, .slice none 0 0, .slice none 0 0]) 3 56 Tryz.underlying113 hiP zP0 zP1 zP2 rfl (by decide) (.slice oa st.length oc) st.length xs (by rfl) M1.out.own ⟨wr.heap.size + 1, 0, none⟩ 1 1 [.bool true, .slice none 0 0, .slice none 0 0] (by rfl) (by rfl) (World.news_of_block hN1.out) (by simp [Value.oneCell']) (by omega) (by (unfold maxLen); omega) (by omega) (M1.out.lk.base) (World.heap ((wr.alloc (.cells #[.int .i64 2, .int .u64 (sa : Int), .int .u64 (sb : Int), .int .u64 (sc : Int), .int .u64 (sd : Int)] 115)).alloc (.cells #[.bool true, .slice none 0 0, .slice none 0 0] 117))).size rfl ?_; intro g2 cap2 w2 hown2 hgrow2 hat2 hlt2; have M2 := hid (M1.out.push (t := .eps) ⟨Nums.nil _, Off.nil _, Nums.nil _, Off.nil _⟩ hown2 hgrow2 hat2); have hB2 := hid (bgrow hB1.out hgrow2 M1.out.lk.base (fun k e => (M1.out.own.lt k e).1)); clear hgrow2 hown2)
        go_roundw
        case rel => exact ⟨k + 1, _, _, _, _, _, _, by omega, by go_num, hid (by rw [hst.out, setsS_eps]; exact M2.out), hid (by rw [hst.out]; exact hFol.out.congr (fun j k _ => (folS_eps st j k).symm)), hid (hX.out.up fun _ h => Or.inl h), hB2.out⟩
        case measure => simp [intOf]; omega
      · obtain ⟨b, a, r, rfl⟩ := two_top (by rw [hwo] at hw; exact hw.2)
        have hst : Hid (stK l (k + 1) = (.cat a b) :: r) := hid (by rw [hsu.out]; simp [stepS])
        obtain ⟨ys, fb, lb, hxs, ⟨zs, fa, la, hys, hpr, hpa⟩, hpb'⟩ := hM.out.pts
        subst hys
        subst hxs
        have hzl := hpr.len
        obtain ⟨g, cap, hov, hcap⟩ := own_form3 hM.out.own (by simp)
        subst hov
        have hr60 : r.length + 2 ≤ 60 := by have := hnk.2; simp at this; omega
        have hM : Hid (OfM pb pb F (nS (b :: a :: r)) wr sv gv (.slice (some ⟨g, 0, none⟩) (r.length + 2) cap) (setsS (b :: a :: r)) gs fl (b :: a :: r) (zs ++ [.bool a.null, fa, la] ++ [.bool b.null, fb, lb])) := hM
        have hcap2 : r.length + 2 ≤ cap := by simpa using hcap
        have hnn : nS (b :: a :: r) ≤ 60 := by have := hnk.1; omega
        have hnab : nS r + nSets a + nSets b = nS (b :: a :: r) := rfl
        have M1 := hid ((hM.out.keep (al' wr (.cells #[.int .i64 3, .int .u64 (sa : Int), .int .u64 (sb : Int), .int .u64 (sc : Int), .int .u64 (sd : Int)] 115))).keep ((Below.refl _ _).drew : Below _ (wr.alloc (.cells #[.int .i64 3, .int .u64 (sa : Int), .int .u64 (sb : Int), .int .u64 (sc : Int), .int .u64 (sd : Int)] 115)) (wr.alloc (.cells #[.int .i64 3, .int .u64 (sa : Int), .int .u64 (sb : Int), .int .u64 (sc : Int), .int .u64 (sd : Int)] 115)).drew))
        have hB1 := hid (bstep hbl (bl_step (al' wr (.cells #[.int .i64 3, .int .u64 (sa : Int), .int .u64 (sb : Int), .int .u64 (sc : Int), .int .u64 (sd : Int)] 115)) ((Below.refl _ _).drew : Below _ (wr.alloc (.cells #[.int .i64 3, .int .u64 (sa : Int), .int .u64 (sb : Int), .int .u64 (sc : Int), .int .u64 (sd : Int)] 115)) (wr.alloc (.cells #[.int .i64 3, .int .u64 (sa : Int), .int .u64 (sb : Int), .int .u64 (sc : Int), .int .u64 (sd : Int)] 115)).drew)) hpw.out)
        have hk1 : Hid (Below wr.heap.size wr (wr.alloc (.cells #[.int .i64 3, .int .u64 (sa : Int), .int .u64 (sb : Int), .int .u64 (sc : Int), .int .u64 (sd : Int)] 115)).drew) := hid (bl_step (al' wr (.cells #[.int .i64 3, .int .u64 (sa : Int), .int .u64 (sb : Int), .int .u64 (sc : Int), .int .u64 (sd : Int)] 115)) ((Below.refl _ _).drew : Below _ (wr.alloc (.cells #[.int .i64 3, .int .u64 (sa : Int), .int .u64 (sb : Int), .int .u64 (sc : Int), .int .u64 (sd : Int)] 115)) (wr.alloc (.cells #[.int .i64 3, .int .u64 (sa : Int), .int .u64 (sb : Int), .int .u64 (sc : Int), .int .u64 (sd : Int)] 115)).drew))
        have pA := hid (hpa.keep hk1.out)
        have pB := hid (hpb'.keep hk1.out)
        have hprk := hid (hpr.kept (Kept.of_below (F := F) hk1.out))
        obtain ⟨fa1, fa2, rfl⟩ : ∃ x y, fa = .slice x (firstL a (nS r)).length y := by obtain ⟨x, y, e, _⟩ := hpa.first; exact ⟨x, y, e⟩
        obtain ⟨la1, la2, rfl⟩ : ∃ x y, la = .slice x (lastL a (nS r)).length y := by obtain ⟨x, y, e, _⟩ := hpa.last; exact ⟨x, y, e⟩
        obtain ⟨fb1, fb2, rfl⟩ : ∃ x y, fb = .slice x (firstL b (nS (a :: r))).length y := by obtain ⟨x, y, e, _⟩ := hpb'.first; exact ⟨x, y, e⟩
        obtain ⟨lb1, lb2, rfl⟩ : ∃ x y, lb = .slice x (lastL b (nS (a :: r))).length y := by obtain ⟨x, y, e, _⟩ := hpb'.last; exact ⟨x, y, e⟩
        have l1 : (lastL a (nS r)).length ≤ 60 := Nat.le_trans (lastL_len a _) (by omega)
        have l2 : (firstL b (nS (a :: r))).length ≤ 60 := Nat.le_trans (firstL_len b _) (by omega)
        have l3 : (firstL a (nS r)).length ≤ 60 := Nat.le_trans (firstL_len a _) (by omega)
        have l4 : (lastL b (nS (a :: r))).length ≤ 60 := Nat.le_trans (lastL_len b _) (by omega)
        have hla : InN (lastL a (nS r)) (nS (b :: a :: r)) := lastL_in a _ _ (by omega)
        have hfb : InN (firstL b (nS (a :: r))) (nS (b :: a :: r)) := firstL_in b _ _ (Nat.le_of_eq rfl)
        have GJ := hid (joinedCat F pb pb (nS (b :: a :: r)) gv _ _ _ _ a.null b.null _ _ _ _ gs fl _ M1.out.lk pA.out pB.out hla l1 hfb l2 l3 l4)
        have hFol2 : Hid (FolOK (FolS ((.cat a b) :: r)) (nS (b :: a :: r)) (linkL fl (firstL b (nS (a :: r))) (lastL a (nS r)))) := hid ((hFol.out.link (lastL_mem a (nS r)) (fun k hk => by have := lst_in a _ k hk; omega) (firstL_mem b (nS (a :: r)))).congr fun j k _ => (folS_cat a b r j k).symm)
        obtain ⟨rf, hrf⟩ : ∃ rf, Hid (rf = firstL (.cat a b) (nS r)) := ⟨_, hid rfl⟩
        obtain ⟨rl, hrl⟩ : ∃ rl, Hid (rl = lastL (.cat a b) (nS r)) := ⟨_, hid rfl⟩
        obtain ⟨rn, hrn⟩ : ∃ rn : Bool, Hid (rn = Rx.null (.cat a b)) := ⟨_, hid rfl⟩
        rw [show (if a.null = true then unionL (firstL a (nS r)) (firstL b (nS (a :: r))) else firstL a (nS r)) = rf from hrf.out.symm, show (if b.null = true then unionL (lastL a (nS r)) (lastL b (nS (a :: r))) else lastL b (nS (a :: r))) = rl from (lastL_cat a b (nS r)).symm.trans hrl.out.symm, show (a.null && b.null) = rn from (Bool.and_comm _ _).trans hrn.out.symm] at GJ
        have hcells : Hid (∀ (u : World) (v : Value) (j : Nat), u.ownsRow pb 117 3 (.slice (some ⟨g, 0, none⟩) (r.length + 2) cap) (r.length + 2) (zs ++ [.bool a.null, .slice fa1 (firstL a (nS r)).length fa2, .slice la1 (lastL a (nS r)).length la2] ++ [.bool b.null, .slice fb1 (firstL b (nS (a :: r))).length fb2, .slice lb1 (lastL b (nS (a :: r))).length lb2]) → j < 6 → ([.bool a.null, .slice fa1 (firstL a (nS r)).length fa2, .slice la1 (lastL a (nS r)).length la2, .bool b.null, .slice fb1 (firstL b (nS (a :: r))).length fb2, .slice lb1 (lastL b (nS (a :: r))).length lb2] : List Value)[j]? = some v → u.cell? ⟨g, r.length * 3 + j, none⟩ = some v) := hid (fun u v j h hj hv => by
          rw [h.cellAt _ (by omega), List.append_assoc, List.getElem?_append_right (by omega), hzl, Nat.add_sub_cancel_left]
          exact hv)
        have k0 : (wr.alloc (.cells #[.int .i64 3, .int .u64 (sa : Int), .int .u64 (sb : Int), .int .u64 (sc : Int), .int .u64 (sd : Int)] 115)).drew.cell? ⟨g, r.length * 3, none⟩ = some (.bool a.null) := hcells.out _ _ 0 M1.out.own (by omega) rfl
        have k1 : (wr.alloc (.cells #[.int .i64 3, .int .u64 (sa : Int), .int .u64 (sb : Int), .int .u64 (sc : Int), .int .u64 (sd : Int)] 115)).drew.cell? ⟨g, r.length * 3 + 1, none⟩ = some (.slice fa1 (firstL a (nS r)).length fa2) := hcells.out _ _ 1 M1.out.own (by omega) rfl
        have k2 : (wr.alloc (.cells #[.int .i64 3, .int .u64 (sa : Int), .int .u64 (sb : Int), .int .u64 (sc : Int), .int .u64 (sd : Int)] 115)).drew.cell? ⟨g, r.length * 3 + 2, none⟩ = some (.slice la1 (lastL a (nS r)).length la2) := hcells.out _ _ 2 M1.out.own (by omega) rfl
        have k3 : (wr.alloc (.cells #[.int .i64 3, .int .u64 (sa : Int), .int .u64 (sb : Int), .int .u64 (sc : Int), .int .u64 (sd : Int)] 115)).drew.cell? ⟨g, (r.length + 1) * 3, none⟩ = some (.bool b.null) := by rw [show (r.length + 1) * 3 = r.length * 3 + 3 by omega]; exact hcells.out _ _ 3 M1.out.own (by omega) rfl
        have k4 : (wr.alloc (.cells #[.int .i64 3, .int .u64 (sa : Int), .int .u64 (sb : Int), .int .u64 (sc : Int), .int .u64 (sd : Int)] 115)).drew.cell? ⟨g, (r.length + 1) * 3 + 1, none⟩ = some (.slice fb1 (firstL b (nS (a :: r))).length fb2) := by rw [show (r.length + 1) * 3 + 1 = r.length * 3 + 4 by omega]; exact hcells.out _ _ 4 M1.out.own (by omega) rfl
        have k5 : (wr.alloc (.cells #[.int .i64 3, .int .u64 (sa : Int), .int .u64 (sb : Int), .int .u64 (sc : Int), .int .u64 (sd : Int)] 115)).drew.cell? ⟨g, (r.length + 1) * 3 + 2, none⟩ = some (.slice lb1 (lastL b (nS (a :: r))).length lb2) := by rw [show (r.length + 1) * 3 + 2 = r.length * 3 + 5 by omega]; exact hcells.out _ _ 5 M1.out.own (by omega) rfl
        have he2 : (r.length : Int) + 1 + 1 - 2 = (r.length : Int) := by omega
        have hcz : (r.length : Int) ≤ (cap : Int) := by omega
        have s2 := cutP_hi g (r.length + 2) cap r.length (by omega)
        have hwr : IntKind.i64.wrap ((r.length : Int) + 1) = (r.length : Int) + 1 := by rw [IntKind.wrap_i64]; omega
        have hi1 : (r.length : Int) < (r.length : Int) + 1 + 1 := by omega
        have hi2 : (r.length : Int) + 1 < (r.length : Int) + 1 + 1 := by omega
        have hi3 : (0 : Int) ≤ (r.length : Int) + 1 := by omega
        clear hpa hpb' hpr
        go_wp2_with fail
        go_region_law ((first
          | (refine step_append_lies _ (by rfl) (.tmp 73) (.tmp 87) 113 (by rfl) pb 117 iP (.agg #[.bool false, .slice none 0 0, .slice none 0 0]) 3 56 Tryz.underlying113 hiP zP0 zP1 zP2 rfl (by decide) (.slice (some ⟨g, 0, none⟩) r.length cap) r.length zs (by rfl) M4.out.own ⟨w1.heap.size, 0, none⟩ 1 1 [.bool rn, .slice xa rf.length xc, .slice ya rl.length yc] (by rfl) (by rfl) (World.news_of_block (heap_new w1 (.cells #[.bool rn, .slice xa rf.length xc, .slice ya rl.length yc] 117))) (by simp [Value.oneCell']) (by omega) (by (unfold maxLen); omega) (by omega) M4.out.lk.base (World.heap (w1.alloc (.cells #[.bool rn, .slice xa rf.length xc, .slice ya rl.length yc] 117))).size rfl ?_; intro g2 cap2 w2 hown2 hgrow2 hat2 hlt2; have M5 := hid (M4.out.push' (t := (.cat a b)) hrn.out hrf.out hrl.out hpv4.out hown2 hgrow2 hat2); have hB5 := hid (bgrow hB4.out hgrow2 M4.out.lk.base (fun k e => (M4.out.own.lt k e).1)); clear hgrow2 hown2)
          | (refine step_call (by rfl) 65 #[.int .i64 3, .agg #[.bool a.null, .slice fa1 (firstL a (nS r)).length fa2, .slice la1 (lastL a (nS r)).length la2], .agg #[.bool b.null, .slice fb1 (firstL b (nS (a :: r))).length fb2, .slice lb1 (lastL b (nS (a :: r))).length lb2], (.func (.func 62) #[] #[.pointer (some ⟨pb, 0, none⟩)])] (by (go_simp; done)) GJ.out ?_; rintro e w1 ⟨fv, lv, rfl, hpv, ⟨gs1, hS1⟩, K1⟩; have M2 := hid (M1.out.linked K1 hS1); have hpr2 := hid (hprk.out.kept (K1.mono fun k _ e => (M1.out.lk.row k e).1)); have hB3 := hid (hB1.out.trans (K1.below (fun k e => (M1.out.lk.own.lt k e).1) M1.out.lk.base)); obtain ⟨xa, xc, rfl, hx1⟩ := id hpv.first; obtain ⟨ya, yc, rfl, hx2⟩ := id hpv.last; clear hx1 hx2; have M3 := hid (M2.out.cut (r := r) (ys := zs) rfl (by simp; omega) (by rw [← hzl, List.append_assoc]; exact List.take_left) hpr2.out); have M4 := hid (M3.out.keep (al' w1 (.cells #[.bool rn, .slice xa rf.length xc, .slice ya rl.length yc] 117))); have hpv4 := hid (hpv.keep (al' w1 (.cells #[.bool rn, .slice xa rf.length xc, .slice ya rl.length yc] 117))); have hB4 := hid (bstep hB3.out (al' w1 (.cells #[.bool rn, .slice xa rf.length xc, .slice ya rl.length yc] 117)) M2.out.lk.base); refine ⟨_, rfl, ?_⟩)
          | fail))
        all_goals
          go_wp2
          go_roundw
          case rel => exact ⟨k + 1, _, _, _, _, _, _, by omega, by go_num, hid (by rw [hst.out, nS_cat, setsS_cat]; exact M5.out), hid (by rw [hst.out, nS_cat]; exact hFol2.out), hid (hX.out.up fun _ h => Or.inl h), hB5.out⟩
          case measure => simp [intOf]; omega
      · obtain ⟨b, a, r, rfl⟩ := two_top (by rw [hwo] at hw; exact hw.2)
        have hst : Hid (stK l (k + 1) = (.or a b) :: r) := hid (by rw [hsu.out]; simp [stepS])
        obtain ⟨ys, fb, lb, hxs, ⟨zs, fa, la, hys, hpr, hpa⟩, hpb'⟩ := hM.out.pts
        subst hys
        subst hxs
        have hzl := hpr.len
        obtain ⟨g, cap, hov, hcap⟩ := own_form3 hM.out.own (by simp)
        subst hov
        have hr60 : r.length + 2 ≤ 60 := by have := hnk.2; simp at this; omega
        have hM : Hid (OfM pb pb F (nS (b :: a :: r)) wr sv gv (.slice (some ⟨g, 0, none⟩) (r.length + 2) cap) (setsS (b :: a :: r)) gs fl (b :: a :: r) (zs ++ [.bool a.null, fa, la] ++ [.bool b.null, fb, lb])) := hM
        have hcap2 : r.length + 2 ≤ cap := by simpa using hcap
        have hnn : nS (b :: a :: r) ≤ 60 := by have := hnk.1; omega
        have hnab : nS r + nSets a + nSets b = nS (b :: a :: r) := rfl
        have M1 := hid ((hM.out.keep (al' wr (.cells #[.int .i64 4, .int .u64 (sa : Int), .int .u64 (sb : Int), .int .u64 (sc : Int), .int .u64 (sd : Int)] 115))).keep ((Below.refl _ _).drew : Below _ (wr.alloc (.cells #[.int .i64 4, .int .u64 (sa : Int), .int .u64 (sb : Int), .int .u64 (sc : Int), .int .u64 (sd : Int)] 115)) (wr.alloc (.cells #[.int .i64 4, .int .u64 (sa : Int), .int .u64 (sb : Int), .int .u64 (sc : Int), .int .u64 (sd : Int)] 115)).drew))
        have hB1 := hid (bstep hbl (bl_step (al' wr (.cells #[.int .i64 4, .int .u64 (sa : Int), .int .u64 (sb : Int), .int .u64 (sc : Int), .int .u64 (sd : Int)] 115)) ((Below.refl _ _).drew : Below _ (wr.alloc (.cells #[.int .i64 4, .int .u64 (sa : Int), .int .u64 (sb : Int), .int .u64 (sc : Int), .int .u64 (sd : Int)] 115)) (wr.alloc (.cells #[.int .i64 4, .int .u64 (sa : Int), .int .u64 (sb : Int), .int .u64 (sc : Int), .int .u64 (sd : Int)] 115)).drew)) hpw.out)
        have hk1 : Hid (Below wr.heap.size wr (wr.alloc (.cells #[.int .i64 4, .int .u64 (sa : Int), .int .u64 (sb : Int), .int .u64 (sc : Int), .int .u64 (sd : Int)] 115)).drew) := hid (bl_step (al' wr (.cells #[.int .i64 4, .int .u64 (sa : Int), .int .u64 (sb : Int), .int .u64 (sc : Int), .int .u64 (sd : Int)] 115)) ((Below.refl _ _).drew : Below _ (wr.alloc (.cells #[.int .i64 4, .int .u64 (sa : Int), .int .u64 (sb : Int), .int .u64 (sc : Int), .int .u64 (sd : Int)] 115)) (wr.alloc (.cells #[.int .i64 4, .int .u64 (sa : Int), .int .u64 (sb : Int), .int .u64 (sc : Int), .int .u64 (sd : Int)] 115)).drew))
        have pA := hid (hpa.keep hk1.out)
        have pB := hid (hpb'.keep hk1.out)
        have hprk := hid (hpr.kept (Kept.of_below (F := F) hk1.out))
        obtain ⟨fa1, fa2, rfl⟩ : ∃ x y, fa = .slice x (firstL a (nS r)).length y := by obtain ⟨x, y, e, _⟩ := hpa.first; exact ⟨x, y, e⟩
        obtain ⟨la1, la2, rfl⟩ : ∃ x y, la = .slice x (lastL a (nS r)).length y := by obtain ⟨x, y, e, _⟩ := hpa.last; exact ⟨x, y, e⟩
        obtain ⟨fb1, fb2, rfl⟩ : ∃ x y, fb = .slice x (firstL b (nS (a :: r))).length y := by obtain ⟨x, y, e, _⟩ := hpb'.first; exact ⟨x, y, e⟩
        obtain ⟨lb1, lb2, rfl⟩ : ∃ x y, lb = .slice x (lastL b (nS (a :: r))).length y := by obtain ⟨x, y, e, _⟩ := hpb'.last; exact ⟨x, y, e⟩
        have l1 : (lastL a (nS r)).length ≤ 60 := Nat.le_trans (lastL_len a _) (by omega)
        have l2 : (firstL b (nS (a :: r))).length ≤ 60 := Nat.le_trans (firstL_len b _) (by omega)
        have l3 : (firstL a (nS r)).length ≤ 60 := Nat.le_trans (firstL_len a _) (by omega)
        have l4 : (lastL b (nS (a :: r))).length ≤ 60 := Nat.le_trans (lastL_len b _) (by omega)
        have GJ := hid (joinedOr F _ _ _ _ (.func (.func 62) #[] #[.pointer (some ⟨pb, 0, none⟩)]) a.null b.null _ _ _ _ _ M1.out.lk.lt pA.out pB.out l1 l2 l3 l4)
        have hFol2 : Hid (FolOK (FolS ((.or a b) :: r)) (nS (b :: a :: r)) fl) := hid (hFol.out.congr fun j k _ => (folS_or a b r j k).symm)
        obtain ⟨rf, hrf⟩ : ∃ rf, Hid (rf = firstL (.or a b) (nS r)) := ⟨_, hid rfl⟩
        obtain ⟨rl, hrl⟩ : ∃ rl, Hid (rl = lastL (.or a b) (nS r)) := ⟨_, hid rfl⟩
        obtain ⟨rn, hrn⟩ : ∃ rn : Bool, Hid (rn = Rx.null (.or a b)) := ⟨_, hid rfl⟩
        rw [show unionL (firstL a (nS r)) (firstL b (nS (a :: r))) = rf from hrf.out.symm, show unionL (lastL a (nS r)) (lastL b (nS (a :: r))) = rl from hrl.out.symm, show (a.null || b.null) = rn from (Bool.or_comm _ _).trans hrn.out.symm] at GJ
        have hcells : Hid (∀ (u : World) (v : Value) (j : Nat), u.ownsRow pb 117 3 (.slice (some ⟨g, 0, none⟩) (r.length + 2) cap) (r.length + 2) (zs ++ [.bool a.null, .slice fa1 (firstL a (nS r)).length fa2, .slice la1 (lastL a (nS r)).length la2] ++ [.bool b.null, .slice fb1 (firstL b (nS (a :: r))).length fb2, .slice lb1 (lastL b (nS (a :: r))).length lb2]) → j < 6 → ([.bool a.null, .slice fa1 (firstL a (nS r)).length fa2, .slice la1 (lastL a (nS r)).length la2, .bool b.null, .slice fb1 (firstL b (nS (a :: r))).length fb2, .slice lb1 (lastL b (nS (a :: r))).length lb2] : List Value)[j]? = some v → u.cell? ⟨g, r.length * 3 + j, none⟩ = some v) := hid (fun u v j h hj hv => by
          rw [h.cellAt _ (by omega), List.append_assoc, List.getElem?_append_right (by omega), hzl, Nat.add_sub_cancel_left]
          exact hv)
        have k0 : (wr.alloc (.cells #[.int .i64 4, .int .u64 (sa : Int), .int .u64 (sb : Int), .int .u64 (sc : Int), .int .u64 (sd : Int)] 115)).drew.cell? ⟨g, r.length * 3, none⟩ = some (.bool a.null) := hcells.out _ _ 0 M1.out.own (by omega) rfl
        have k1 : (wr.alloc (.cells #[.int .i64 4, .int .u64 (sa : Int), .int .u64 (sb : Int), .int .u64 (sc : Int), .int .u64 (sd : Int)] 115)).drew.cell? ⟨g, r.length * 3 + 1, none⟩ = some (.slice fa1 (firstL a (nS r)).length fa2) := hcells.out _ _ 1 M1.out.own (by omega) rfl
        have k2 : (wr.alloc (.cells #[.int .i64 4, .int .u64 (sa : Int), .int .u64 (sb : Int), .int .u64 (sc : Int), .int .u64 (sd : Int)] 115)).drew.cell? ⟨g, r.length * 3 + 2, none⟩ = some (.slice la1 (lastL a (nS r)).length la2) := hcells.out _ _ 2 M1.out.own (by omega) rfl
        have k3 : (wr.alloc (.cells #[.int .i64 4, .int .u64 (sa : Int), .int .u64 (sb : Int), .int .u64 (sc : Int), .int .u64 (sd : Int)] 115)).drew.cell? ⟨g, (r.length + 1) * 3, none⟩ = some (.bool b.null) := by rw [show (r.length + 1) * 3 = r.length * 3 + 3 by omega]; exact hcells.out _ _ 3 M1.out.own (by omega) rfl
        have k4 : (wr.alloc (.cells #[.int .i64 4, .int .u64 (sa : Int), .int .u64 (sb : Int), .int .u64 (sc : Int), .int .u64 (sd : Int)] 115)).drew.cell? ⟨g, (r.length + 1) * 3 + 1, none⟩ = some (.slice fb1 (firstL b (nS (a :: r))).length fb2) := by rw [show (r.length + 1) * 3 + 1 = r.length * 3 + 4 by omega]; exact hcells.out _ _ 4 M1.out.own (by omega) rfl
        have k5 : (wr.alloc (.cells #[.int .i64 4, .int .u64 (sa : Int), .int .u64 (sb : Int), .int .u64 (sc : Int), .int .u64 (sd : Int)] 115)).drew.cell? ⟨g, (r.length + 1) * 3 + 2, none⟩ = some (.slice lb1 (lastL b (nS (a :: r))).length lb2) := by rw [show (r.length + 1) * 3 + 2 = r.length * 3 + 5 by omega]; exact hcells.out _ _ 5 M1.out.own (by omega) rfl
        have he2 : (r.length : Int) + 1 + 1 - 2 = (r.length : Int) := by omega
        have hcz : (r.length : Int) ≤ (cap : Int) := by omega
        have s2 := cutP_hi g (r.length + 2) cap r.length (by omega)
        have hwr : IntKind.i64.wrap ((r.length : Int) + 1) = (r.length : Int) + 1 := by rw [IntKind.wrap_i64]; omega
        have hi1 : (r.length : Int) < (r.length : Int) + 1 + 1 := by omega
        have hi2 : (r.length : Int) + 1 < (r.length : Int) + 1 + 1 := by omega
        have hi3 : (0 : Int) ≤ (r.length : Int) + 1 := by omega
        clear hpa hpb' hpr
        go_wp2_with fail
        go_region_law ((first
          | (refine step_append_lies _ (by rfl) (.tmp 73) (.tmp 87) 113 (by rfl) pb 117 iP (.agg #[.bool false, .slice none 0 0, .slice none 0 0]) 3 56 Tryz.underlying113 hiP zP0 zP1 zP2 rfl (by decide) (.slice (some ⟨g, 0, none⟩) r.length cap) r.length zs (by rfl) M4.out.own ⟨w1.heap.size, 0, none⟩ 1 1 [.bool rn, .slice xa rf.length xc, .slice ya rl.length yc] (by rfl) (by rfl) (World.news_of_block (heap_new w1 (.cells #[.bool rn, .slice xa rf.length xc, .slice ya rl.length yc] 117))) (by simp [Value.oneCell']) (by omega) (by (unfold maxLen); omega) (by omega) M4.out.lk.base (World.heap (w1.alloc (.cells #[.bool rn, .slice xa rf.length xc, .slice ya rl.length yc] 117))).size rfl ?_; intro g2 cap2 w2 hown2 hgrow2 hat2 hlt2; have M5 := hid (M4.out.push' (t := (.or a b)) hrn.out hrf.out hrl.out hpv4.out hown2 hgrow2 hat2); have hB5 := hid (bgrow hB4.out hgrow2 M4.out.lk.base (fun k e => (M4.out.own.lt k e).1)); clear hgrow2 hown2)
          | (refine step_call (by rfl) 65 #[.int .i64 4, .agg #[.bool a.null, .slice fa1 (firstL a (nS r)).length fa2, .slice la1 (lastL a (nS r)).length la2], .agg #[.bool b.null, .slice fb1 (firstL b (nS (a :: r))).length fb2, .slice lb1 (lastL b (nS (a :: r))).length lb2], (.func (.func 62) #[] #[.pointer (some ⟨pb, 0, none⟩)])] (by (go_simp; done)) GJ.out ?_; rintro e w1 ⟨fv, lv, rfl, hpv, K1⟩; have M2 := hid (M1.out.keep K1); have hpr2 := hid (hprk.out.kept (Kept.of_below K1)); have hB3 := hid (bstep hB1.out K1 M1.out.lk.base); obtain ⟨xa, xc, rfl, hx1⟩ := id hpv.first; obtain ⟨ya, yc, rfl, hx2⟩ := id hpv.last; clear hx1 hx2; have M3 := hid (M2.out.cut (r := r) (ys := zs) rfl (by simp; omega) (by rw [← hzl, List.append_assoc]; exact List.take_left) hpr2.out); have M4 := hid (M3.out.keep (al' w1 (.cells #[.bool rn, .slice xa rf.length xc, .slice ya rl.length yc] 117))); have hpv4 := hid (hpv.keep (al' w1 (.cells #[.bool rn, .slice xa rf.length xc, .slice ya rl.length yc] 117))); have hB4 := hid (bstep hB3.out (al' w1 (.cells #[.bool rn, .slice xa rf.length xc, .slice ya rl.length yc] 117)) M2.out.lk.base); refine ⟨_, rfl, ?_⟩)
          | fail))
        all_goals
          go_wp2
          go_roundw
          case rel => exact ⟨k + 1, _, _, _, _, _, _, by omega, by go_num, hid (by rw [hst.out, nS_or, setsS_or]; exact M5.out), hid (by rw [hst.out, nS_or]; exact hFol2.out), hid (hX.out.up fun _ h => Or.inl h), hB5.out⟩
          case measure => simp [intOf]; omega
      · obtain ⟨a, r, rfl⟩ := one_top (by rw [hwo] at hw; exact hw.2)
        have hst : Hid (stK l (k + 1) = (.star a) :: r) := hid (by rw [hsu.out]; simp [stepS])
        obtain ⟨zs, fa, la, hxs, hpr, hpa⟩ := hM.out.pts
        subst hxs
        have hzl := hpr.len
        obtain ⟨g, cap, hov, hcap⟩ := own_form3 hM.out.own (by simp)
        subst hov
        have hr60 : r.length + 1 ≤ 60 := by have := hnk.2; simp at this; omega
        have hM : Hid (OfM pb pb F (nS (a :: r)) wr sv gv (.slice (some ⟨g, 0, none⟩) (r.length + 1) cap) (setsS (a :: r)) gs fl (a :: r) (zs ++ [.bool a.null, fa, la])) := hM
        have hnn : nS (a :: r) ≤ 60 := by have := hnk.1; omega
        have hnab : nS r + nSets a = nS (a :: r) := rfl
        have M1 := hid ((hM.out.keep (al' wr (.cells #[.int .i64 5, .int .u64 (sa : Int), .int .u64 (sb : Int), .int .u64 (sc : Int), .int .u64 (sd : Int)] 115))).keep ((Below.refl _ _).drew : Below _ (wr.alloc (.cells #[.int .i64 5, .int .u64 (sa : Int), .int .u64 (sb : Int), .int .u64 (sc : Int), .int .u64 (sd : Int)] 115)) (wr.alloc (.cells #[.int .i64 5, .int .u64 (sa : Int), .int .u64 (sb : Int), .int .u64 (sc : Int), .int .u64 (sd : Int)] 115)).drew))
        have hk1 : Hid (Below wr.heap.size wr (wr.alloc (.cells #[.int .i64 5, .int .u64 (sa : Int), .int .u64 (sb : Int), .int .u64 (sc : Int), .int .u64 (sd : Int)] 115)).drew) := hid (bl_step (al' wr (.cells #[.int .i64 5, .int .u64 (sa : Int), .int .u64 (sb : Int), .int .u64 (sc : Int), .int .u64 (sd : Int)] 115)) ((Below.refl _ _).drew : Below _ (wr.alloc (.cells #[.int .i64 5, .int .u64 (sa : Int), .int .u64 (sb : Int), .int .u64 (sc : Int), .int .u64 (sd : Int)] 115)) (wr.alloc (.cells #[.int .i64 5, .int .u64 (sa : Int), .int .u64 (sb : Int), .int .u64 (sc : Int), .int .u64 (sd : Int)] 115)).drew))
        have hB1 := hid (bstep hbl hk1.out hpw.out)
        have pA := hid (hpa.keep hk1.out)
        have hprk := hid (hpr.kept (Kept.of_below (F := F) hk1.out))
        obtain ⟨fa1, fa2, rfl⟩ : ∃ x y, fa = .slice x (firstL a (nS r)).length y := by obtain ⟨x, y, e, _⟩ := hpa.first; exact ⟨x, y, e⟩
        obtain ⟨la1, la2, rfl⟩ : ∃ x y, la = .slice x (lastL a (nS r)).length y := by obtain ⟨x, y, e, _⟩ := hpa.last; exact ⟨x, y, e⟩
        have l1 : (lastL a (nS r)).length ≤ 60 := Nat.le_trans (lastL_len a _) (by omega)
        have l3 : (firstL a (nS r)).length ≤ 60 := Nat.le_trans (firstL_len a _) (by omega)
        have hla : InN (lastL a (nS r)) (nS (a :: r)) := lastL_in a _ _ (Nat.le_of_eq rfl)
        have hfa : InN (firstL a (nS r)) (nS (a :: r)) := firstL_in a _ _ (Nat.le_of_eq rfl)
        have GJ := hid (repeatedC F pb pb (nS (a :: r)) gv _ _ 5 a.null _ _ gs fl _ (by omega) M1.out.lk pA.out hla l1 hfa l3)
        have hFol2 : Hid (FolOK (FolS ((.star a) :: r)) (nS ((.star a) :: r)) (linkL fl (firstL a (nS r)) (lastL a (nS r)))) := hid ((hFol.out.link (lastL_mem a (nS r)) (fun k hk => by have := lst_in a _ k hk; omega) (firstL_mem a (nS r))).congr fun j k _ => (folS_star a r j k).symm)
        obtain ⟨rn, hrn⟩ : ∃ rn : Bool, Hid (rn = Rx.null (.star a)) := ⟨_, hid rfl⟩
        rw [show (a.null || decide ((5 : Int) = 5)) = rn from (show (a.null || true) = true from Bool.or_true _).trans hrn.out.symm] at GJ
        have hcells : Hid (∀ (u : World) (v : Value) (j : Nat), u.ownsRow pb 117 3 (.slice (some ⟨g, 0, none⟩) (r.length + 1) cap) (r.length + 1) (zs ++ [.bool a.null, .slice fa1 (firstL a (nS r)).length fa2, .slice la1 (lastL a (nS r)).length la2]) → j < 3 → ([.bool a.null, .slice fa1 (firstL a (nS r)).length fa2, .slice la1 (lastL a (nS r)).length la2] : List Value)[j]? = some v → u.cell? ⟨g, r.length * 3 + j, none⟩ = some v ∧ u.frozen? ⟨g, r.length * 3 + j, none⟩ = false) := hid (fun u v j h hj hv => ⟨by
          rw [h.cellAt _ (by omega), List.getElem?_append_right (by omega), hzl, Nat.add_sub_cancel_left]
          exact hv, h.frozenAt _⟩)
        have k0 : (wr.alloc (.cells #[.int .i64 5, .int .u64 (sa : Int), .int .u64 (sb : Int), .int .u64 (sc : Int), .int .u64 (sd : Int)] 115)).drew.cell? ⟨g, r.length * 3, none⟩ = some (.bool a.null) := (hcells.out _ _ 0 M1.out.own (by omega) rfl).1
        have k1 : (wr.alloc (.cells #[.int .i64 5, .int .u64 (sa : Int), .int .u64 (sb : Int), .int .u64 (sc : Int), .int .u64 (sd : Int)] 115)).drew.cell? ⟨g, r.length * 3 + 1, none⟩ = some (.slice fa1 (firstL a (nS r)).length fa2) := (hcells.out _ _ 1 M1.out.own (by omega) rfl).1
        have k2 : (wr.alloc (.cells #[.int .i64 5, .int .u64 (sa : Int), .int .u64 (sb : Int), .int .u64 (sc : Int), .int .u64 (sd : Int)] 115)).drew.cell? ⟨g, r.length * 3 + 2, none⟩ = some (.slice la1 (lastL a (nS r)).length la2) := (hcells.out _ _ 2 M1.out.own (by omega) rfl).1
        have hi1 : (r.length : Int) < (r.length : Int) + 1 := by omega
        clear hpa hpr
        go_wp2_with fail
        go_region_law ((first
          | (refine step_call (by rfl) 66 #[.int .i64 5, .agg #[.bool a.null, .slice fa1 (firstL a (nS r)).length fa2, .slice la1 (lastL a (nS r)).length la2], (.func (.func 62) #[] #[.pointer (some ⟨pb, 0, none⟩)])] (by (go_simp; done)) GJ.out ?_; rintro e w1 ⟨fv, lv, rfl, hpv, ⟨gs1, hS1⟩, K1⟩; have M2 := hid (M1.out.linked K1 hS1); have hpr2 := hid (hprk.out.kept (K1.mono fun k _ e => (M1.out.lk.row k e).1)); have hB2 := hid (hB1.out.trans (K1.below (fun k e => (M1.out.lk.own.lt k e).1) M1.out.lk.base)); obtain ⟨xa, xc, rfl, hx1⟩ := id hpv.first; obtain ⟨ya, yc, rfl, hx2⟩ := id hpv.last; clear hx1 hx2; have m0 : w1.cell? ⟨g, r.length * 3, none⟩ = some (.bool a.null) := (hcells.out _ _ 0 M2.out.own (by omega) rfl).1; have f0 : w1.frozen? ⟨g, r.length * 3, none⟩ = false := (hcells.out _ _ 0 M2.out.own (by omega) rfl).2; have m1 : w1.cell? ⟨g, r.length * 3 + 1, none⟩ = some (.slice fa1 (firstL a (nS r)).length fa2) := (hcells.out _ _ 1 M2.out.own (by omega) rfl).1; have f1 : w1.frozen? ⟨g, r.length * 3 + 1, none⟩ = false := (hcells.out _ _ 1 M2.out.own (by omega) rfl).2; have m2 : w1.cell? ⟨g, r.length * 3 + 2, none⟩ = some (.slice la1 (lastL a (nS r)).length la2) := (hcells.out _ _ 2 M2.out.own (by omega) rfl).1; have f2 : w1.frozen? ⟨g, r.length * 3 + 2, none⟩ = false := (hcells.out _ _ 2 M2.out.own (by omega) rfl).2; have M3 := hid (M2.out.put' (t := (.star a)) hrn.out hzl hpr2.out hpv); have hB3 := hid (bl_set (bl_set (bl_set hB2.out g (r.length * 3) (.bool rn) (M2.out.own.lt g rfl).1) g (r.length * 3 + 1) (.slice xa (firstL a (nS r)).length xc) (M2.out.own.lt g rfl).1) g (r.length * 3 + 2) (.slice ya (lastL a (nS r)).length yc) (M2.out.own.lt g rfl).1); refine ⟨_, rfl, ?_⟩)
          | fail))
        all_goals
          go_wp2
          go_roundw
          case rel => exact ⟨k + 1, _, _, _, _, _, _, by omega, by go_num, hid (by rw [hst.out]; exact M3.out), hid (by rw [hst.out]; exact hFol2.out), hX, hB3.out⟩
          case measure => simp [intOf]; omega
      · obtain ⟨a, r, rfl⟩ := one_top (by rw [hwo] at hw; exact hw.2)
        have hst : Hid (stK l (k + 1) = (.plus a) :: r) := hid (by rw [hsu.out]; simp [stepS])
        obtain ⟨zs, fa, la, hxs, hpr, hpa⟩ := hM.out.pts
        subst hxs
        have hzl := hpr.len
        obtain ⟨g, cap, hov, hcap⟩ := own_form3 hM.out.own (by simp)
        subst hov
        have hr60 : r.length + 1 ≤ 60 := by have := hnk.2; simp at this; omega
        have hM : Hid (OfM pb pb F (nS (a :: r)) wr sv gv (.slice (some ⟨g, 0, none⟩) (r.length + 1) cap) (setsS (a :: r)) gs fl (a :: r) (zs ++ [.bool a.null, fa, la])) := hM
        have hnn : nS (a :: r) ≤ 60 := by have := hnk.1; omega
        have hnab : nS r + nSets a = nS (a :: r) := rfl
        have M1 := hid ((hM.out.keep (al' wr (.cells #[.int .i64 6, .int .u64 (sa : Int), .int .u64 (sb : Int), .int .u64 (sc : Int), .int .u64 (sd : Int)] 115))).keep ((Below.refl _ _).drew : Below _ (wr.alloc (.cells #[.int .i64 6, .int .u64 (sa : Int), .int .u64 (sb : Int), .int .u64 (sc : Int), .int .u64 (sd : Int)] 115)) (wr.alloc (.cells #[.int .i64 6, .int .u64 (sa : Int), .int .u64 (sb : Int), .int .u64 (sc : Int), .int .u64 (sd : Int)] 115)).drew))
        have hk1 : Hid (Below wr.heap.size wr (wr.alloc (.cells #[.int .i64 6, .int .u64 (sa : Int), .int .u64 (sb : Int), .int .u64 (sc : Int), .int .u64 (sd : Int)] 115)).drew) := hid (bl_step (al' wr (.cells #[.int .i64 6, .int .u64 (sa : Int), .int .u64 (sb : Int), .int .u64 (sc : Int), .int .u64 (sd : Int)] 115)) ((Below.refl _ _).drew : Below _ (wr.alloc (.cells #[.int .i64 6, .int .u64 (sa : Int), .int .u64 (sb : Int), .int .u64 (sc : Int), .int .u64 (sd : Int)] 115)) (wr.alloc (.cells #[.int .i64 6, .int .u64 (sa : Int), .int .u64 (sb : Int), .int .u64 (sc : Int), .int .u64 (sd : Int)] 115)).drew))
        have hB1 := hid (bstep hbl hk1.out hpw.out)
        have pA := hid (hpa.keep hk1.out)
        have hprk := hid (hpr.kept (Kept.of_below (F := F) hk1.out))
        obtain ⟨fa1, fa2, rfl⟩ : ∃ x y, fa = .slice x (firstL a (nS r)).length y := by obtain ⟨x, y, e, _⟩ := hpa.first; exact ⟨x, y, e⟩
        obtain ⟨la1, la2, rfl⟩ : ∃ x y, la = .slice x (lastL a (nS r)).length y := by obtain ⟨x, y, e, _⟩ := hpa.last; exact ⟨x, y, e⟩
        have l1 : (lastL a (nS r)).length ≤ 60 := Nat.le_trans (lastL_len a _) (by omega)
        have l3 : (firstL a (nS r)).length ≤ 60 := Nat.le_trans (firstL_len a _) (by omega)
        have hla : InN (lastL a (nS r)) (nS (a :: r)) := lastL_in a _ _ (Nat.le_of_eq rfl)
        have hfa : InN (firstL a (nS r)) (nS (a :: r)) := firstL_in a _ _ (Nat.le_of_eq rfl)
        have GJ := hid (repeatedC F pb pb (nS (a :: r)) gv _ _ 6 a.null _ _ gs fl _ (by omega) M1.out.lk pA.out hla l1 hfa l3)
        have hFol2 : Hid (FolOK (FolS ((.plus a) :: r)) (nS ((.plus a) :: r)) (linkL fl (firstL a (nS r)) (lastL a (nS r)))) := hid ((hFol.out.link (lastL_mem a (nS r)) (fun k hk => by have := lst_in a _ k hk; omega) (firstL_mem a (nS r))).congr fun j k _ => (folS_plus a r j k).symm)
        obtain ⟨rn, hrn⟩ : ∃ rn : Bool, Hid (rn = Rx.null (.plus a)) := ⟨_, hid rfl⟩
        rw [show (a.null || decide ((6 : Int) = 5)) = rn from (show (a.null || false) = a.null from Bool.or_false _).trans hrn.out.symm] at GJ
        have hcells : Hid (∀ (u : World) (v : Value) (j : Nat), u.ownsRow pb 117 3 (.slice (some ⟨g, 0, none⟩) (r.length + 1) cap) (r.length + 1) (zs ++ [.bool a.null, .slice fa1 (firstL a (nS r)).length fa2, .slice la1 (lastL a (nS r)).length la2]) → j < 3 → ([.bool a.null, .slice fa1 (firstL a (nS r)).length fa2, .slice la1 (lastL a (nS r)).length la2] : List Value)[j]? = some v → u.cell? ⟨g, r.length * 3 + j, none⟩ = some v ∧ u.frozen? ⟨g, r.length * 3 + j, none⟩ = false) := hid (fun u v j h hj hv => ⟨by
          rw [h.cellAt _ (by omega), List.getElem?_append_right (by omega), hzl, Nat.add_sub_cancel_left]
          exact hv, h.frozenAt _⟩)
        have k0 : (wr.alloc (.cells #[.int .i64 6, .int .u64 (sa : Int), .int .u64 (sb : Int), .int .u64 (sc : Int), .int .u64 (sd : Int)] 115)).drew.cell? ⟨g, r.length * 3, none⟩ = some (.bool a.null) := (hcells.out _ _ 0 M1.out.own (by omega) rfl).1
        have k1 : (wr.alloc (.cells #[.int .i64 6, .int .u64 (sa : Int), .int .u64 (sb : Int), .int .u64 (sc : Int), .int .u64 (sd : Int)] 115)).drew.cell? ⟨g, r.length * 3 + 1, none⟩ = some (.slice fa1 (firstL a (nS r)).length fa2) := (hcells.out _ _ 1 M1.out.own (by omega) rfl).1
        have k2 : (wr.alloc (.cells #[.int .i64 6, .int .u64 (sa : Int), .int .u64 (sb : Int), .int .u64 (sc : Int), .int .u64 (sd : Int)] 115)).drew.cell? ⟨g, r.length * 3 + 2, none⟩ = some (.slice la1 (lastL a (nS r)).length la2) := (hcells.out _ _ 2 M1.out.own (by omega) rfl).1
        have hi1 : (r.length : Int) < (r.length : Int) + 1 := by omega
        clear hpa hpr
        go_wp2_with fail
        go_region_law ((first
          | (refine step_call (by rfl) 66 #[.int .i64 6, .agg #[.bool a.null, .slice fa1 (firstL a (nS r)).length fa2, .slice la1 (lastL a (nS r)).length la2], (.func (.func 62) #[] #[.pointer (some ⟨pb, 0, none⟩)])] (by (go_simp; done)) GJ.out ?_; rintro e w1 ⟨fv, lv, rfl, hpv, ⟨gs1, hS1⟩, K1⟩; have M2 := hid (M1.out.linked K1 hS1); have hpr2 := hid (hprk.out.kept (K1.mono fun k _ e => (M1.out.lk.row k e).1)); have hB2 := hid (hB1.out.trans (K1.below (fun k e => (M1.out.lk.own.lt k e).1) M1.out.lk.base)); obtain ⟨xa, xc, rfl, hx1⟩ := id hpv.first; obtain ⟨ya, yc, rfl, hx2⟩ := id hpv.last; clear hx1 hx2; have m0 : w1.cell? ⟨g, r.length * 3, none⟩ = some (.bool a.null) := (hcells.out _ _ 0 M2.out.own (by omega) rfl).1; have f0 : w1.frozen? ⟨g, r.length * 3, none⟩ = false := (hcells.out _ _ 0 M2.out.own (by omega) rfl).2; have m1 : w1.cell? ⟨g, r.length * 3 + 1, none⟩ = some (.slice fa1 (firstL a (nS r)).length fa2) := (hcells.out _ _ 1 M2.out.own (by omega) rfl).1; have f1 : w1.frozen? ⟨g, r.length * 3 + 1, none⟩ = false := (hcells.out _ _ 1 M2.out.own (by omega) rfl).2; have m2 : w1.cell? ⟨g, r.length * 3 + 2, none⟩ = some (.slice la1 (lastL a (nS r)).length la2) := (hcells.out _ _ 2 M2.out.own (by omega) rfl).1; have f2 : w1.frozen? ⟨g, r.length * 3 + 2, none⟩ = false := (hcells.out _ _ 2 M2.out.own (by omega) rfl).2; have M3 := hid (M2.out.put' (t := (.plus a)) hrn.out hzl hpr2.out hpv); have hB3 := hid (bl_set (bl_set (bl_set hB2.out g (r.length * 3) (.bool rn) (M2.out.own.lt g rfl).1) g (r.length * 3 + 1) (.slice xa (firstL a (nS r)).length xc) (M2.out.own.lt g rfl).1) g (r.length * 3 + 2) (.slice ya (lastL a (nS r)).length yc) (M2.out.own.lt g rfl).1); refine ⟨_, rfl, ?_⟩)
          | fail))
        all_goals
          go_wp2
          go_roundw
          case rel => exact ⟨k + 1, _, _, _, _, _, _, by omega, by go_num, hid (by rw [hst.out]; exact M3.out), hid (by rw [hst.out]; exact hFol2.out), hX, hB3.out⟩
          case measure => simp [intOf]; omega
      · obtain ⟨a, r, rfl⟩ := one_top (by rw [hwo] at hw; exact hw.2)
        have hst : Hid (stK l (k + 1) = (.opt a) :: r) := hid (by rw [hsu.out]; simp [stepS])
        obtain ⟨zs, fa, la, hxs, hpr, hpa⟩ := hM.out.pts
        subst hxs
        have hzl := hpr.len
        obtain ⟨g, cap, hov, hcap⟩ := own_form3 hM.out.own (by simp)
        subst hov
        have hr60 : r.length + 1 ≤ 60 := by have := hnk.2; simp at this; omega
        have hM : Hid (OfM pb pb F (nS (a :: r)) wr sv gv (.slice (some ⟨g, 0, none⟩) (r.length + 1) cap) (setsS (a :: r)) gs fl (a :: r) (zs ++ [.bool a.null, fa, la])) := hM
        have hnn : nS (a :: r) ≤ 60 := by have := hnk.1; omega
        have hnab : nS r + nSets a = nS (a :: r) := rfl
        have M1 := hid ((hM.out.keep (al' wr (.cells #[.int .i64 7, .int .u64 (sa : Int), .int .u64 (sb : Int), .int .u64 (sc : Int), .int .u64 (sd : Int)] 115))).keep ((Below.refl _ _).drew : Below _ (wr.alloc (.cells #[.int .i64 7, .int .u64 (sa : Int), .int .u64 (sb : Int), .int .u64 (sc : Int), .int .u64 (sd : Int)] 115)) (wr.alloc (.cells #[.int .i64 7, .int .u64 (sa : Int), .int .u64 (sb : Int), .int .u64 (sc : Int), .int .u64 (sd : Int)] 115)).drew))
        have hk1 : Hid (Below wr.heap.size wr (wr.alloc (.cells #[.int .i64 7, .int .u64 (sa : Int), .int .u64 (sb : Int), .int .u64 (sc : Int), .int .u64 (sd : Int)] 115)).drew) := hid (bl_step (al' wr (.cells #[.int .i64 7, .int .u64 (sa : Int), .int .u64 (sb : Int), .int .u64 (sc : Int), .int .u64 (sd : Int)] 115)) ((Below.refl _ _).drew : Below _ (wr.alloc (.cells #[.int .i64 7, .int .u64 (sa : Int), .int .u64 (sb : Int), .int .u64 (sc : Int), .int .u64 (sd : Int)] 115)) (wr.alloc (.cells #[.int .i64 7, .int .u64 (sa : Int), .int .u64 (sb : Int), .int .u64 (sc : Int), .int .u64 (sd : Int)] 115)).drew))
        have hB1 := hid (bstep hbl hk1.out hpw.out)
        have pA := hid (hpa.keep hk1.out)
        have hprk := hid (hpr.kept (Kept.of_below (F := F) hk1.out))
        obtain ⟨fa1, fa2, rfl⟩ : ∃ x y, fa = .slice x (firstL a (nS r)).length y := by obtain ⟨x, y, e, _⟩ := hpa.first; exact ⟨x, y, e⟩
        obtain ⟨la1, la2, rfl⟩ : ∃ x y, la = .slice x (lastL a (nS r)).length y := by obtain ⟨x, y, e, _⟩ := hpa.last; exact ⟨x, y, e⟩
        have l1 : (lastL a (nS r)).length ≤ 60 := Nat.le_trans (lastL_len a _) (by omega)
        have l3 : (firstL a (nS r)).length ≤ 60 := Nat.le_trans (firstL_len a _) (by omega)
        have GJ := hid (repeatedOpt F _ _ (.func (.func 62) #[] #[.pointer (some ⟨pb, 0, none⟩)]) a.null _ _ _ pA.out)
        have hFol2 : Hid (FolOK (FolS ((.opt a) :: r)) (nS ((.opt a) :: r)) fl) := hid (hFol.out.congr fun j k _ => (folS_opt a r j k).symm)
        obtain ⟨rn, hrn⟩ : ∃ rn : Bool, Hid (rn = Rx.null (.opt a)) := ⟨_, hid rfl⟩
        rw [show true = rn from hrn.out.symm] at GJ
        have hcells : Hid (∀ (u : World) (v : Value) (j : Nat), u.ownsRow pb 117 3 (.slice (some ⟨g, 0, none⟩) (r.length + 1) cap) (r.length + 1) (zs ++ [.bool a.null, .slice fa1 (firstL a (nS r)).length fa2, .slice la1 (lastL a (nS r)).length la2]) → j < 3 → ([.bool a.null, .slice fa1 (firstL a (nS r)).length fa2, .slice la1 (lastL a (nS r)).length la2] : List Value)[j]? = some v → u.cell? ⟨g, r.length * 3 + j, none⟩ = some v ∧ u.frozen? ⟨g, r.length * 3 + j, none⟩ = false) := hid (fun u v j h hj hv => ⟨by
          rw [h.cellAt _ (by omega), List.getElem?_append_right (by omega), hzl, Nat.add_sub_cancel_left]
          exact hv, h.frozenAt _⟩)
        have k0 : (wr.alloc (.cells #[.int .i64 7, .int .u64 (sa : Int), .int .u64 (sb : Int), .int .u64 (sc : Int), .int .u64 (sd : Int)] 115)).drew.cell? ⟨g, r.length * 3, none⟩ = some (.bool a.null) := (hcells.out _ _ 0 M1.out.own (by omega) rfl).1
        have k1 : (wr.alloc (.cells #[.int .i64 7, .int .u64 (sa : Int), .int .u64 (sb : Int), .int .u64 (sc : Int), .int .u64 (sd : Int)] 115)).drew.cell? ⟨g, r.length * 3 + 1, none⟩ = some (.slice fa1 (firstL a (nS r)).length fa2) := (hcells.out _ _ 1 M1.out.own (by omega) rfl).1
        have k2 : (wr.alloc (.cells #[.int .i64 7, .int .u64 (sa : Int), .int .u64 (sb : Int), .int .u64 (sc : Int), .int .u64 (sd : Int)] 115)).drew.cell? ⟨g, r.length * 3 + 2, none⟩ = some (.slice la1 (lastL a (nS r)).length la2) := (hcells.out _ _ 2 M1.out.own (by omega) rfl).1
        have hi1 : (r.length : Int) < (r.length : Int) + 1 := by omega
        clear hpa hpr
        go_wp2_with fail
        go_region_law ((first
          | (refine step_call (by rfl) 66 #[.int .i64 7, .agg #[.bool a.null, .slice fa1 (firstL a (nS r)).length fa2, .slice la1 (lastL a (nS r)).length la2], (.func (.func 62) #[] #[.pointer (some ⟨pb, 0, none⟩)])] (by (go_simp; done)) GJ.out ?_; rintro e w1 ⟨fv, lv, rfl, hpv, K1⟩; have M2 := hid (M1.out.keep K1); have hpr2 := hid (hprk.out.kept (Kept.of_below K1)); have hB2 := hid (bstep hB1.out K1 M1.out.lk.base); obtain ⟨xa, xc, rfl, hx1⟩ := id hpv.first; obtain ⟨ya, yc, rfl, hx2⟩ := id hpv.last; clear hx1 hx2; have m0 : w1.cell? ⟨g, r.length * 3, none⟩ = some (.bool a.null) := (hcells.out _ _ 0 M2.out.own (by omega) rfl).1; have f0 : w1.frozen? ⟨g, r.length * 3, none⟩ = false := (hcells.out _ _ 0 M2.out.own (by omega) rfl).2; have m1 : w1.cell? ⟨g, r.length * 3 + 1, none⟩ = some (.slice fa1 (firstL a (nS r)).length fa2) := (hcells.out _ _ 1 M2.out.own (by omega) rfl).1; have f1 : w1.frozen? ⟨g, r.length * 3 + 1, none⟩ = false := (hcells.out _ _ 1 M2.out.own (by omega) rfl).2; have m2 : w1.cell? ⟨g, r.length * 3 + 2, none⟩ = some (.slice la1 (lastL a (nS r)).length la2) := (hcells.out _ _ 2 M2.out.own (by omega) rfl).1; have f2 : w1.frozen? ⟨g, r.length * 3 + 2, none⟩ = false := (hcells.out _ _ 2 M2.out.own (by omega) rfl).2; have M3 := hid (M2.out.put' (t := (.opt a)) hrn.out hzl hpr2.out hpv); have hB3 := hid (bl_set (bl_set (bl_set hB2.out g (r.length * 3) (.bool rn) (M2.out.own.lt g rfl).1) g (r.length * 3 + 1) (.slice xa (firstL a (nS r)).length xc) (M2.out.own.lt g rfl).1) g (r.length * 3 + 2) (.slice ya (lastL a (nS r)).length yc) (M2.out.own.lt g rfl).1); refine ⟨_, rfl, ?_⟩)
          | fail))
        all_goals
          go_wp2
          go_roundw
          case rel => exact ⟨k + 1, _, _, _, _, _, _, by omega, by go_num, hid (by rw [hst.out]; exact M3.out), hid (by rw [hst.out]; exact hFol2.out), hX, hB3.out⟩
          case measure => simp [intOf]; omega
    · have hltz : ¬ (k : Int) < (l.length : Int) := by omega
      obtain rfl : k = l.length := by omega
      rw [hend.out] at hM hFol
      obtain ⟨ys, fv, lv, hxs, hys, hpt⟩ := hM.out.pts
      have hys' : ys = [] := hys
      subst hys'
      subst hxs
      obtain ⟨g, cap, hov, hcap⟩ := own_form3 hM.out.own (by simp)
      subst hov
      have hM : Hid (OfM pb pb F (nS [t]) wr sv gv (.slice (some ⟨g, 0, none⟩) 1 cap) (setsS [t]) gs fl [t] [.bool t.null, fv, lv]) := hM
      obtain ⟨fa1, fa2, rfl⟩ : ∃ x y, fv = .slice x (firstL t 0).length y := by obtain ⟨x, y, e, _⟩ := hpt.first; exact ⟨x, y, e⟩
      obtain ⟨la1, la2, rfl⟩ : ∃ x y, lv = .slice x (lastL t 0).length y := by obtain ⟨x, y, e, _⟩ := hpt.last; exact ⟨x, y, e⟩
      obtain ⟨sa, sc, rfl⟩ := own_shape hM.out.sets
      obtain ⟨ga, gc, rfl⟩ := own_shape hM.out.lk.own
      have k0 : wr.drew.cell? ⟨g, 0, none⟩ = some (.bool t.null) := hM.out.own.cellAt 0 (by omega)
      have k1 : wr.drew.cell? ⟨g, 1, none⟩ = some (.slice fa1 (firstL t 0).length fa2) := hM.out.own.cellAt 1 (by omega)
      have k2 : wr.drew.cell? ⟨g, 2, none⟩ = some (.slice la1 (lastL t 0).length la2) := hM.out.own.cellAt 2 (by omega)
      have hgp := (hM.out.oF g rfl).2.1
      obtain ⟨c0, c1, c2, c3, c4, f0, f1, f2, f3, f4⟩ := cells5s (show wr.drew.heap[pb]? = _ from hM.out.blk)
      have hq1 : wr.heap[w.heap.size]? = _ := (hbl.block _ hpb).trans hqr.out
      have hWp : (((wr.setCell ⟨pb, 1, none⟩ (.bool t.null)).setCell ⟨pb, 2, none⟩ (.slice fa1 (firstL t 0).length fa2)).setCell ⟨pb, 3, none⟩ (.slice la1 (lastL t 0).length la2)).drew.heap[pb]? = some (.cells #[.slice sa (setsS [t]).length sc, .bool t.null, .slice fa1 (firstL t 0).length fa2, .slice la1 (lastL t 0).length la2, .slice ga gs.length gc] 91 (0, 0)) := (show (((wr.setCell ⟨pb, 1, none⟩ (.bool t.null)).setCell ⟨pb, 2, none⟩ (.slice fa1 (firstL t 0).length fa2)).setCell ⟨pb, 3, none⟩ (.slice la1 (lastL t 0).length la2)).heap[pb]? = _ from heap_setCell (heap_setCell (heap_setCell hM.out.blk)))
      have hWx : (((wr.setCell ⟨pb, 1, none⟩ (.bool t.null)).setCell ⟨pb, 2, none⟩ (.slice fa1 (firstL t 0).length fa2)).setCell ⟨pb, 3, none⟩ (.slice la1 (lastL t 0).length la2)).drew.heap[w.heap.size]? = some (.cells #[nilV, .bool false, nilV, nilV, nilV] 91 (0, 0)) := (show (((wr.setCell ⟨pb, 1, none⟩ (.bool t.null)).setCell ⟨pb, 2, none⟩ (.slice fa1 (firstL t 0).length fa2)).setCell ⟨pb, 3, none⟩ (.slice la1 (lastL t 0).length la2)).heap[w.heap.size]? = _ from hs_set (hs_set (hs_set hq1 (by omega)) (by omega)) (by omega))
      have hKp : Kept (fun k => k = pb ∨ k = w.heap.size) wr ((((wr.setCell ⟨pb, 1, none⟩ (.bool t.null)).setCell ⟨pb, 2, none⟩ (.slice fa1 (firstL t 0).length fa2)).setCell ⟨pb, 3, none⟩ (.slice la1 (lastL t 0).length la2)).drew) := ((((Kept.refl (fun k => k = pb ∨ k = w.heap.size) wr).setCell (a := ⟨pb, 1, none⟩) (v := .bool t.null) fun _ => Or.inl rfl).setCell (a := ⟨pb, 2, none⟩) (v := .slice fa1 (firstL t 0).length fa2) fun _ => Or.inl rfl).setCell (a := ⟨pb, 3, none⟩) (v := .slice la1 (lastL t 0).length la2) (fun _ => Or.inl rfl)).step (Kept.of_below ((Below.refl _ _).drew)) (fun _ _ h => h)
      have hKp := hid hKp
      have hfin : Hid (∀ u, Kept (fun k => k = pb ∨ k = w.heap.size) wr u → SpVF (fun k => k < w.heap.size) u (.slice sa (setsS [t]).length sc) (.slice fa1 (firstL t 0).length fa2) (.slice la1 (lastL t 0).length la2) (.slice ga gs.length gc) ⟨setsS [t], t.null, firstL t 0, lastL t 0, fl⟩ ∧ Below w.heap.size w u) := hid (fun u hu => by
        have hFs : ∀ k, (k = pb ∨ k = w.heap.size) → F k := fun k e => by
          rcases e with rfl | rfl
          · exact hM.out.lk.inF
          · exact hX.out _ (Nat.le_refl _)
        have huF : Kept F wr u := hu.mono fun k _ e => hFs k e
        refine ⟨spvf_mk (F := F) (pb := pb) (own_kept hM.out.sets hu (fun k e e' => ?_)) hfit.out (hpt.first.kept huF hpt.offF) hpt.offF (hpt.last.kept huF hpt.offL) hpt.offL (own_kept hM.out.lk.own hu (fun k e e' => ?_)) (hM.out.lk.nums.kept huF) hX.out (by omega), hblw.out.trans (hu.below (fun k e => ?_) hblw.out.size)⟩
        · have h1 := (hM.out.sets.lt k e).1
          rcases e' with e' | e'
          · exact (hM.out.sF k e).2.1 e'
          · omega
        · have h1 := (hM.out.lk.own.lt k e).1
          rcases e' with e' | e'
          · exact (hM.out.lk.row k e).2 e'
          · omega
        · rcases e with e | e <;> omega)
      obtain ⟨C0, C1, C2, C3, C4, -, -, -, -, -⟩ := cells5s hWp
      obtain ⟨X0, X1, X2, X3, X4, Y0, Y1, Y2, Y3, Y4⟩ := cells5s hWx
      have hfb := put5_blk (y0 := .slice sa (setsS [t]).length sc) (y1 := .bool t.null) (y2 := .slice fa1 (firstL t 0).length fa2) (y3 := .slice la1 (lastL t 0).length la2) (y4 := .slice ga gs.length gc) hWx
      obtain ⟨R0, R1, R2, R3, R4, -, -, -, -, -⟩ := cells5s hfb
      unfold put5 at R0 R1 R2 R3 R4
      have hKf := hid (put5_kept (b := w.heap.size) (y0 := .slice sa (setsS [t]).length sc) (y1 := .bool t.null) (y2 := .slice fa1 (firstL t 0).length fa2) (y3 := .slice la1 (lastL t 0).length la2) (y4 := .slice ga gs.length gc) hKp.out (Or.inr rfl))
      have s10 : (wr.setCell ⟨pb, 1, none⟩ (.bool t.null)).drew.cell? ⟨g, 0, none⟩ = some (.bool t.null) := set_keep (v := .bool t.null) 1 k0 hgp
      have s11 : (wr.setCell ⟨pb, 1, none⟩ (.bool t.null)).drew.cell? ⟨g, 1, none⟩ = some (.slice fa1 (firstL t 0).length fa2) := set_keep (v := .bool t.null) 1 k1 hgp
      have s12 : (wr.setCell ⟨pb, 1, none⟩ (.bool t.null)).drew.cell? ⟨g, 2, none⟩ = some (.slice la1 (lastL t 0).length la2) := set_keep (v := .bool t.null) 1 k2 hgp
      have s20 : ((wr.setCell ⟨pb, 1, none⟩ (.bool t.null)).setCell ⟨pb, 2, none⟩ (.slice fa1 (firstL t 0).length fa2)).drew.cell? ⟨g, 0, none⟩ = some (.bool t.null) := set_keep (v := .slice fa1 (firstL t 0).length fa2) 2 s10 hgp
      have s21 : ((wr.setCell ⟨pb, 1, none⟩ (.bool t.null)).setCell ⟨pb, 2, none⟩ (.slice fa1 (firstL t 0).length fa2)).drew.cell? ⟨g, 1, none⟩ = some (.slice fa1 (firstL t 0).length fa2) := set_keep (v := .slice fa1 (firstL t 0).length fa2) 2 s11 hgp
      have s22 : ((wr.setCell ⟨pb, 1, none⟩ (.bool t.null)).setCell ⟨pb, 2, none⟩ (.slice fa1 (firstL t 0).length fa2)).drew.cell? ⟨g, 2, none⟩ = some (.slice la1 (lastL t 0).length la2) := set_keep (v := .slice fa1 (firstL t 0).length fa2) 2 s12 hgp
      have s30 : (((wr.setCell ⟨pb, 1, none⟩ (.bool t.null)).setCell ⟨pb, 2, none⟩ (.slice fa1 (firstL t 0).length fa2)).setCell ⟨pb, 3, none⟩ (.slice la1 (lastL t 0).length la2)).drew.cell? ⟨g, 0, none⟩ = some (.bool t.null) := set_keep (v := .slice la1 (lastL t 0).length la2) 3 s20 hgp
      have s31 : (((wr.setCell ⟨pb, 1, none⟩ (.bool t.null)).setCell ⟨pb, 2, none⟩ (.slice fa1 (firstL t 0).length fa2)).setCell ⟨pb, 3, none⟩ (.slice la1 (lastL t 0).length la2)).drew.cell? ⟨g, 1, none⟩ = some (.slice fa1 (firstL t 0).length fa2) := set_keep (v := .slice la1 (lastL t 0).length la2) 3 s21 hgp
      have s32 : (((wr.setCell ⟨pb, 1, none⟩ (.bool t.null)).setCell ⟨pb, 2, none⟩ (.slice fa1 (firstL t 0).length fa2)).setCell ⟨pb, 3, none⟩ (.slice la1 (lastL t 0).length la2)).drew.cell? ⟨g, 2, none⟩ = some (.slice la1 (lastL t 0).length la2) := set_keep (v := .slice la1 (lastL t 0).length la2) 3 s22 hgp
      have hb1 : (wr.setCell ⟨pb, 1, none⟩ (.bool t.null)).drew.heap[pb]? = some (.cells #[.slice sa (setsS [t]).length sc, .bool t.null, nilV, nilV, .slice ga gs.length gc] 91 (0, 0)) := (show (wr.setCell ⟨pb, 1, none⟩ (.bool t.null)).heap[pb]? = _ from heap_setCell hM.out.blk)
      have hb2 : ((wr.setCell ⟨pb, 1, none⟩ (.bool t.null)).setCell ⟨pb, 2, none⟩ (.slice fa1 (firstL t 0).length fa2)).drew.heap[pb]? = some (.cells #[.slice sa (setsS [t]).length sc, .bool t.null, .slice fa1 (firstL t 0).length fa2, nilV, .slice ga gs.length gc] 91 (0, 0)) := (show ((wr.setCell ⟨pb, 1, none⟩ (.bool t.null)).setCell ⟨pb, 2, none⟩ (.slice fa1 (firstL t 0).length fa2)).heap[pb]? = _ from heap_setCell (heap_setCell hM.out.blk))
      obtain ⟨-, -, D2, -, -, -, -, D7, -, -⟩ := cells5s hb1
      obtain ⟨-, -, -, E3, -, -, -, -, E8, -⟩ := cells5s hb2
      have hF2 := hid hFol.out
      clear hWp hWx hfb hq1 hpt hb1 hb2 hM hFol hKp hX hfit hend hns hwan hsuc hAt hFl hblw hbl hqr hbw hM0 hnk hstart
      generalize (firstL t 0).length = nf at *
      generalize (lastL t 0).length = nl at *
      generalize (setsS [t]).length = ns at *
      generalize gs.length = ng at *
      go_wp2_with fail
      go_region_held3 (fun w' => w'.cell? ⟨g, 0, none⟩ = some (.bool t.null) ∧ w'.cell? ⟨g, 1, none⟩ = some (.slice fa1 nf fa2) ∧ w'.cell? ⟨g, 2, none⟩ = some (.slice la1 nl la2))
        (go_keep)
        (fail)
      clear s10 s11 s12 s20 s21 s22 s30 s31 s32 k0 k1 k2 c0 c1 c2 c3 c4 f0 f1 f2 f3 f4 D2 D7 E3 E8
      generalize (((wr.setCell ⟨pb, 1, none⟩ (.bool t.null)).setCell ⟨pb, 2, none⟩ (.slice fa1 nf fa2)).setCell ⟨pb, 3, none⟩ (.slice la1 nl la2)).drew = U at *
      go_wp2
      obtain ⟨E1, E2⟩ := hfin.out _ hKf.out
      exact bodyPost_ret (v := .tuple #[.agg #[.slice sa ns sc, .bool t.null, .slice fa1 nf fa2, .slice la1 nl la2, .slice ga ng gc], .int .i64 0]) (by simp [results, Tryz.results48, go_sem, R0, R1, R2, R3, R4]) rfl ⟨_, _, _, _, fl, rfl, E1, hF2.out, E2⟩

end Go.Proofs.YtjelgphhlcecoaaGreatDoor
