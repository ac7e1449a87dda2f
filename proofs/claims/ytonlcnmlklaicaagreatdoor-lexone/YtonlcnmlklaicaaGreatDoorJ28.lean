/- Count and Least of package bytes: a range over the words. What dfa.rowOf leans on. dfa.rowOf. sets.Has; append in a region that draws its order; (*dfa.places).add. -/
import Derived.Test.YtonlcnmlklaicaaGreatDoorJ27
import Derived.Test.YtonlcnmlklaicaaGreatDoorJ4
import Derived.Test.YtonlcnmlklaicaaGreatDoorJ26
import Derived.Test.YtonlcnmlklaicaaGreatDoorJ18
import Derived.Test.YtonlcnmlklaicaaGreatDoorShelf
import Derived.Test.YtonlcnmlklaicaaGreatDoorJ16
import Derived.Deep.RegionHeld3
import Derived.Deep.AppendLies
import Derived.Deep.RegionLaw
namespace Go.Proofs.YtonlcnmlklaicaaGreatDoor
open Go.RowKit

set_option maxRecDepth 20000 in
set_option maxHeartbeats 1000000 in
theorem leastE (sa sb sc sd : Nat) (w : World) (hS : Fit4 ⟨sa, sb, sc, sd⟩) (hT : Tab w) :
    Calls Tryz.prog 41 #[valB ⟨sa, sb, sc, sd⟩] w fun e w' => e = .returned (.int .i64 (leastB ⟨sa, sb, sc, sd⟩)) ∧ w' = w.alloc (.cells #[.int .u64 (sa : Int), .int .u64 (sb : Int), .int .u64 (sc : Int), .int .u64 (sd : Int)] 65) := by
  have hw := hid (fun i => @least_word ⟨sa, sb, sc, sd⟩ hS i)
  have hz := hid (@least_zero ⟨sa, sb, sc, sd⟩)
  have G0 : Hid (∀ u, sa ≠ 0 → Tab u → Lib.ctz 64 sa < 64 ∧ Calls Tryz.prog 60 #[.int .u64 (sa : Int)] u fun e w' => e = .returned (.int .i64 ((Lib.ctz 64 sa : Nat) : Int)) ∧ w' = u) := hid (fun u h0 hu => ⟨(ctz_bits h0 hS.1).1, tzC sa u hS.1 h0 hu⟩)
  have G1 : Hid (∀ u, sb ≠ 0 → Tab u → Lib.ctz 64 sb < 64 ∧ Calls Tryz.prog 60 #[.int .u64 (sb : Int)] u fun e w' => e = .returned (.int .i64 ((Lib.ctz 64 sb : Nat) : Int)) ∧ w' = u) := hid (fun u h0 hu => ⟨(ctz_bits h0 hS.2).1, tzC sb u hS.2 h0 hu⟩)
  have G2 : Hid (∀ u, sc ≠ 0 → Tab u → Lib.ctz 64 sc < 64 ∧ Calls Tryz.prog 60 #[.int .u64 (sc : Int)] u fun e w' => e = .returned (.int .i64 ((Lib.ctz 64 sc : Nat) : Int)) ∧ w' = u) := hid (fun u h0 hu => ⟨(ctz_bits h0 hS.3).1, tzC sc u hS.3 h0 hu⟩)
  have G3 : Hid (∀ u, sd ≠ 0 → Tab u → Lib.ctz 64 sd < 64 ∧ Calls Tryz.prog 60 #[.int .u64 (sd : Int)] u fun e w' => e = .returned (.int .i64 ((Lib.ctz 64 sd : Nat) : Int)) ∧ w' = u) := hid (fun u h0 hu => ⟨(ctz_bits h0 hS.4).1, tzC sd u hS.4 h0 hu⟩)
  have ix0 : ∀ u, (Instr.index 65 (.agg #[.int .u64 (sa : Int), .int .u64 (sb : Int), .int .u64 (sc : Int), .int .u64 (sd : Int)]) (.int .i64 0)).run Tryz.prog u = .ok (.int .u64 (sa : Int)) u := fun u => index4 sa sb sc sd 0 sa u rfl
  have ix1 : ∀ u, (Instr.index 65 (.agg #[.int .u64 (sa : Int), .int .u64 (sb : Int), .int .u64 (sc : Int), .int .u64 (sd : Int)]) (.int .i64 1)).run Tryz.prog u = .ok (.int .u64 (sb : Int)) u := fun u => index4 sa sb sc sd 1 sb u rfl
  have ix2 : ∀ u, (Instr.index 65 (.agg #[.int .u64 (sa : Int), .int .u64 (sb : Int), .int .u64 (sc : Int), .int .u64 (sd : Int)]) (.int .i64 2)).run Tryz.prog u = .ok (.int .u64 (sc : Int)) u := fun u => index4 sa sb sc sd 2 sc u rfl
  have ix3 : ∀ u, (Instr.index 65 (.agg #[.int .u64 (sa : Int), .int .u64 (sb : Int), .int .u64 (sc : Int), .int .u64 (sd : Int)]) (.int .i64 3)).run Tryz.prog u = .ok (.int .u64 (sd : Int)) u := fun u => index4 sa sb sc sd 3 sd u rfl
  have hT0 := hid hT
  generalize leastB ⟨sa, sb, sc, sd⟩ = L at hw hz ⊢
  clear hS hT
  go_enter Tryz.func41, Tryz.ntmps41
  go_wp2
  go_loopw [6] (fun i wr => ∃ k : Nat, k ≤ 4 ∧ i = .int .i64 k ∧ (∀ j, j < k → W4.w ⟨sa, sb, sc, sd⟩ j = 0) ∧ Hid (wr = w.alloc (.cells #[.int .u64 (sa : Int), .int .u64 (sb : Int), .int .u64 (sc : Int), .int .u64 (sd : Int)] 65))) (fun i _ => 4 - (intOf i).toNat)
  case atStart => exact ⟨0, Nat.zero_le _, rfl, fun j hj => absurd hj (Nat.not_lt_zero _), hid rfl⟩
  case round =>
    obtain ⟨k, hk, rfl, hlow, hwr⟩ := hrel
    have hbl : Below w.heap.size w wr := by rw [hwr.out]; exact al' w _
    have hlow := hid hlow
    have hk5 : k = 0 ∨ k = 1 ∨ k = 2 ∨ k = 3 ∨ k = 4 := by omega
    rcases hk5 with rfl | rfl | rfl | rfl | rfl
    · by_cases h0 : sa = 0
      · have hcz : ((sa : Int) == 0) = true := beq_iff_eq.2 (by omega)
        have hlow' : Hid (∀ j, j < 1 → W4.w ⟨sa, sb, sc, sd⟩ j = 0) := hid (fun j hj => by
          rcases Nat.lt_or_ge j 0 with h | h
          · exact hlow.out j h
          · have : j = 0 := by omega
            subst this; exact h0)
        clear h0
        go_wp2
        go_roundw
        case rel => exact ⟨1, by omega, rfl, hlow'.out, hwr⟩
        case measure => simp [intOf]
      · have hcz : ((sa : Int) == 0) = false := beq_eq_false_iff_ne.2 (by omega)
        have hL := hw.out 0 (by omega) h0 hlow.out
        obtain ⟨hc64, GT⟩ := G0.out wr h0 (hT0.out.keep hbl)
        have GT := hid GT
        rw [show W4.w ⟨sa, sb, sc, sd⟩ 0 = sa from rfl] at hL
        generalize Lib.ctz 64 sa = z at hL hc64 GT
        clear hw hz
        go_wp2_with (go_at_call 60; refine GT.out.mono ?_; rintro e u1 ⟨rfl, hu⟩; subst u1)
        go_ret
        exact ⟨by rw [hL]; first | rfl | simp | (congr 2; omega), hwr.out⟩
    · by_cases h0 : sb = 0
      · have hcz : ((sb : Int) == 0) = true := beq_iff_eq.2 (by omega)
        have hlow' : Hid (∀ j, j < 2 → W4.w ⟨sa, sb, sc, sd⟩ j = 0) := hid (fun j hj => by
          rcases Nat.lt_or_ge j 1 with h | h
          · exact hlow.out j h
          · have : j = 1 := by omega
            subst this; exact h0)
        clear h0
        go_wp2
        go_roundw
        case rel => exact ⟨2, by omega, rfl, hlow'.out, hwr⟩
        case measure => simp [intOf]
      · have hcz : ((sb : Int) == 0) = false := beq_eq_false_iff_ne.2 (by omega)
        have hL := hw.out 1 (by omega) h0 hlow.out
        obtain ⟨hc64, GT⟩ := G1.out wr h0 (hT0.out.keep hbl)
        have GT := hid GT
        rw [show W4.w ⟨sa, sb, sc, sd⟩ 1 = sb from rfl] at hL
        generalize Lib.ctz 64 sb = z at hL hc64 GT
        clear hw hz
        go_wp2_with (go_at_call 60; refine GT.out.mono ?_; rintro e u1 ⟨rfl, hu⟩; subst u1)
        go_ret
        exact ⟨by rw [hL]; first | rfl | simp | (congr 2; omega), hwr.out⟩
    · by_cases h0 : sc = 0
      · have hcz : ((sc : Int) == 0) = true := beq_iff_eq.2 (by omega)
        have hlow' : Hid (∀ j, j < 3 → W4.w ⟨sa, sb, sc, sd⟩ j = 0) := hid (fun j hj => by
          rcases Nat.lt_or_ge j 2 with h | h
          · exact hlow.out j h
          · have : j = 2 := by omega
            subst this; exact h0)
        clear h0
        go_wp2
        go_roundw
        case rel => exact ⟨3, by omega, rfl, hlow'.out, hwr⟩
        case measure => simp [intOf]
      · have hcz : ((sc : Int) == 0) = false := beq_eq_false_iff_ne.2 (by omega)
        have hL := hw.out 2 (by omega) h0 hlow.out
        obtain ⟨hc64, GT⟩ := G2.out wr h0 (hT0.out.keep hbl)
        have GT := hid GT
        rw [show W4.w ⟨sa, sb, sc, sd⟩ 2 = sc from rfl] at hL
        generalize Lib.ctz 64 sc = z at hL hc64 GT
        clear hw hz
        go_wp2_with (go_at_call 60; refine GT.out.mono ?_; rintro e u1 ⟨rfl, hu⟩; subst u1)
        go_ret
        exact ⟨by rw [hL]; first | rfl | simp | (congr 2; omega), hwr.out⟩
    · by_cases h0 : sd = 0
      · have hcz : ((sd : Int) == 0) = true := beq_iff_eq.2 (by omega)
        have hlow' : Hid (∀ j, j < 4 → W4.w ⟨sa, sb, sc, sd⟩ j = 0) := hid (fun j hj => by
          rcases Nat.lt_or_ge j 3 with h | h
          · exact hlow.out j h
          · have : j = 3 := by omega
            subst this; exact h0)
        clear h0
        go_wp2
        go_roundw
        case rel => exact ⟨4, by omega, rfl, hlow'.out, hwr⟩
        case measure => simp [intOf]
      · have hcz : ((sd : Int) == 0) = false := beq_eq_false_iff_ne.2 (by omega)
        have hL := hw.out 3 (by omega) h0 hlow.out
        obtain ⟨hc64, GT⟩ := G3.out wr h0 (hT0.out.keep hbl)
        have GT := hid GT
        rw [show W4.w ⟨sa, sb, sc, sd⟩ 3 = sd from rfl] at hL
        generalize Lib.ctz 64 sd = z at hL hc64 GT
        clear hw hz
        go_wp2_with (go_at_call 60; refine GT.out.mono ?_; rintro e u1 ⟨rfl, hu⟩; subst u1)
        go_ret
        exact ⟨by rw [hL]; first | rfl | simp | (congr 2; omega), hwr.out⟩
    · have hL := hz.out (fun j hj => hlow.out j hj)
      clear hw hz
      go_wp2
      go_ret
      exact ⟨by rw [hL]; first | rfl | simp, hwr.out⟩

set_option maxRecDepth 20000 in
theorem leastC (sa sb sc sd : Nat) (w : World) (hS : Fit4 ⟨sa, sb, sc, sd⟩) (hT : Tab w) :
    Calls Tryz.prog 41 #[valB ⟨sa, sb, sc, sd⟩] w fun e w' => e = .returned (.int .i64 (leastB ⟨sa, sb, sc, sd⟩)) ∧ Below w.heap.size w w' :=
  (leastE sa sb sc sd w hS hT).mono fun _ _ ⟨he, hw⟩ => ⟨he, by rw [hw]; exact al' w _⟩

end Go.Proofs.YtonlcnmlklaicaaGreatDoor
namespace Go.Proofs.YtonlcnmlklaicaaGreatDoor
open Go.RowKit

theorem cls_fit' (l : List W4) (r : Nat) : Fit4 (clsB l r) := by unfold clsB; exact mkB_fit _
theorem made_ints (w : World) (N : Nat) (hN : N ≤ 100000) : Own (w.alloc (.cells (madeCells #[.int .i64 0] N) 3)) w.heap.size (.slice (some ⟨w.heap.size, 0, none⟩) N N) (List.replicate N 0) := by
  unfold Own
  have e : (madeCells #[.int .i64 0] N).toList = numCells (List.replicate N 0) := by
    rw [toList_madeCells_one]
    simp [numCells]
  have := World.ownsRow_lit w (e := 3) (size := 1) (madeCells #[.int .i64 0] N) N (Nat.le_refl _) (by unfold maxLen; omega) (by simp [madeCells])
  rw [e] at this
  rw [List.length_replicate]
  exact this
theorem own_num_put {w : World} {B g c n k : Nat} {l : List Int} (x : Int) (h : Own w B (.slice (some ⟨g, 0, none⟩) n c) l) (hn : n = l.length) : Own (w.setCell ⟨g, k, none⟩ (.int .i64 x)) B (.slice (some ⟨g, 0, none⟩) n c) (l.set k x) := by
  subst hn
  have h1 := (h.stored k (.int .i64 x)).1
  unfold Own
  rw [List.length_set, numCells, List.map_set]
  exact h1
theorem own_num_at {w : World} {B g c n : Nat} {l : List Int} (h : Own w B (.slice (some ⟨g, 0, none⟩) n c) l) {j : Nat} (hj : j < l.length) : w.cell? ⟨g, j, none⟩ = some (.int .i64 (l.getD j 0)) := by
  have := h.cells rfl j _ (numCells_at hj)
  rw [Go.WideShapes.add_plain, Nat.zero_add] at this
  rw [this, List.getD_eq_getElem?_getD, List.getElem?_eq_getElem hj]
  rfl
theorem own_num_free {w : World} {B g c n : Nat} {l : List Int} (h : Own w B (.slice (some ⟨g, 0, none⟩) n c) l) (hn : n = l.length) (o : Nat) : w.frozen? ⟨g, o, none⟩ = false := by
  subst hn
  exact h.frozenAt o
theorem ownStr_at {w : World} {B : Nat} {v : Value} {L : List Txt} (h : OwnStr w B v L) {j : Nat} {T : Txt} (hj : L[j]? = some T) : ∃ g c, v = .slice (some ⟨g, 0, none⟩) L.length c ∧ v.ownBlock = some g ∧ g < w.heap.size ∧ w.cell? ⟨g, j, none⟩ = some (.string (strT T)) := by
  have hlt : j < L.length := by
    rcases Nat.lt_or_ge j L.length with h | h
    · exact h
    · rw [List.getElem?_eq_none h] at hj; cases hj
  have h' := h
  rcases h.2 with ⟨rfl, h0⟩ | ⟨g, cap, cur, rfl, _⟩
  · omega
  · refine ⟨g, cap, rfl, rfl, (h'.lt g rfl).2, ?_⟩
    have := h'.cells rfl j (.string (strT T)) (by unfold strCells; rw [List.getElem?_map, hj]; rfl)
    rw [Go.WideShapes.add_plain, Nat.zero_add] at this
    exact this
set_option maxRecDepth 20000 in
theorem byRow {ts : List Rx} {all : List Sp} (R : RuS ts all) (hp : ∀ p ∈ all, SmlS p) (hl : all.length ≤ 16) (e : Int) (sv bv fv : Value) (st : St) (hst : ∀ y ∈ st, FrmS ts y) (b : Nat) (hb : b < 256) (u : World) (hS : Sets u sv (setsP all all.length)) (hG : Numss u bv (behP all all.length)) :
    Calls Tryz.prog 42 #[.agg #[.int .i64 e, sv, bv, fv], .string (strT (txS all st)), .int .u8 (b : Int)] u fun r w' => r = .returned (.tuple #[.string (strT (txS all (byS all st b))), .bool (!decide (byS all st b = []))]) ∧ Below u.heap.size u w' := by
  have htot := totP_max hl hp
  have hslen : (setsP all all.length).length = totP all := setsP_len all _
  have hglen : (behP all all.length).length = totP all := behP_len all _
  have := byTC e sv bv fv (setsP all all.length) (behP all all.length) (txS all st) b u (by omega) (by omega) (by rw [hslen]; exact markT_len _ _) hb (fun l hl => by rw [hslen]; exact behP_in R hp l hl) hS hG
  rw [hslen, byT_is R hst, leT_is R hst] at this
  exact this
theorem tx_inj {ts : List Rx} {all : List Sp} (R : RuS ts all) {x y : St} (hx : (∀ z ∈ x, FrmS ts z) ∧ Up x) (hy : (∀ z ∈ y, FrmS ts z) ∧ Up y) (e : txS all x = txS all y) : x = y := txS_inj (fun z hz => frP_of R (hx.1 z hz)) (fun z hz => frP_of R (hy.1 z hz)) hx.2 hy.2 e
theorem metT_is {ts : List Rx} {all : List Sp} (R : RuS ts all) {L : List St} (hL : ∀ x ∈ L, (∀ y ∈ x, FrmS ts y) ∧ Up x) {to : St} (hto : (∀ y ∈ to, FrmS ts y) ∧ Up to) (hne : to ≠ []) : metT (L.map (txS all)) (txS all to) = (metS L to).map (txS all) := by
  have hin : ∀ x ∈ L, txS all x = txS all to → x = to := fun x hx e => tx_inj R (hL x hx) hto e
  unfold metT
  by_cases hmm : to ∈ L
  · rw [if_pos ((mem_map_inj hin).2 hmm), metS_old hmm]
  · rw [if_neg (fun h => hmm ((mem_map_inj hin).1 h)), metS_new hne hmm, List.map_append]
    rfl
set_option maxRecDepth 20000 in
/-- number, of a state of the rules -/
theorem numRow {ts : List Rx} {all : List Sp} (R : RuS ts all) (htot : totP all ≤ 2000) (B mb mm : Nat) (F : Nat → Prop) (tv : Value) (L : List St) (to : St) (u : World) (hL : ∀ x ∈ L, (∀ y ∈ x, FrmS ts y) ∧ Up x) (hnd : L.Nodup) (hn : L.length ≤ 100000) (hto : (∀ y ∈ to, FrmS ts y) ∧ Up to) (hne : to ≠ [])
    (hm : MeO B mb F u tv mm (L.map (txS all))) :
    Calls Tryz.prog 27 #[.pointer (some ⟨mb, 0, none⟩), .string (strT (txS all to))] u fun e w' => ∃ nx : Int, e = .returned (.int .i64 nx) ∧ RowOK (metS L to) to nx ∧ ∃ F'' tv'', MeO B mb F'' w' tv'' mm ((metS L to).map (txS all)) ∧ Mvd F F'' u w' ∧ (∀ k, F k → F'' k) := by
  have hin : ∀ x ∈ L, txS all x = txS all to → x = to := fun x hx e => tx_inj R (hL x hx) hto e
  have hnd2 : (L.map (txS all)).Nodup := nodup_map hnd (fun x hx y hy e => tx_inj R (hL x hx) (hL y hy) e)
  refine (numberC B mb mm F tv _ (txS all to) u hm hnd2 (by rw [List.length_map]; exact hn) (by unfold txS; rw [markT_len]; exact htot)).mono ?_
  rintro e w' ⟨rfl, F'', tv'', h1, h2, h3⟩
  refine ⟨_, rfl, ?_, F'', tv'', ?_, h2, h3⟩
  · rw [idx_map hin]
    exact rowOK_met _ hne
  · rw [← metT_is R hL hto hne]
    exact h1
/-- what rowOf's walk asks of the parts, the rows and the states: a letter each -/
structure RowQ (mets : Nat → List St) (rows : Nat → List Int → Prop) (P : Nat → W4) (r : Nat → Nat) (to : Nat → St) (m : Nat) (S0 : List St) (q : List St × List Int) : Prop where
  m256 : m ≤ 256
  zero : mets 0 = S0
  row0 : rows 0 (List.replicate 256 0)
  len : ∀ k rw, rows k rw → rw.length = 256
  fit : ∀ k, k < m → Fit4 (P k)
  least : ∀ k, k < m → r k < 256 ∧ leastB (P k) = ((r k : Nat) : Int)
  succ : ∀ k, k < m → mets (k + 1) = metS (mets k) (to k)
  step : ∀ k rw nx, k < m → rows k rw → RowOK (mets (k + 1)) (to k) nx → rows (k + 1) (putB8 (P k) nx rw 256)
  fin : ∀ rw, rows m rw → rw = q.2 ∧ mets m = q.1
  pre : ∀ k, ∃ U, mets k = S0 ++ U
theorem rowQ_of {ts : List Rx} {all : List Sp} (R : RuS ts all) {S0 : List St} {st : St} (hst : ∀ y ∈ st, FrmS ts y) (hnd : S0.Nodup) {q : List St × List Int} (hq : rowK all st S0 256 = q) :
    RowQ (prtK all st S0 (repN (setsP all all.length) 256)) (PrtR all st S0 (setsP all all.length)) (fun k => clsB (setsP all all.length) ((repN (setsP all all.length) 256).getD k 0)) (fun k => (repN (setsP all all.length) 256).getD k 0) (fun k => byS all st ((repN (setsP all all.length) 256).getD k 0)) (repN (setsP all all.length) 256).length S0 q where
  m256 := repN_len _ _
  zero := rfl
  row0 := ⟨List.length_replicate, fun j hj => absurd hj (Nat.not_lt_zero _)⟩
  len := fun k rw h => h.1
  fit := fun k hk => cls_fit' _ _
  least := fun k hk => by
    have hm : (repN (setsP all all.length) 256).getD k 0 ∈ repN (setsP all all.length) 256 := by
      rw [List.getD_eq_getElem?_getD, List.getElem?_eq_getElem hk]
      exact List.getElem_mem hk
    exact ⟨repN_lt _ 256 _ hm, least_cls _ _ hm⟩
  succ := fun k hk => rfl
  step := fun k rw nx hk h1 h2 => by
    rw [putB8_end]
    exact h1.step R hst h2
  fin := fun rw h => by
    rw [← hq]
    exact ⟨h.fin R hst hnd, prt_end R hst hnd⟩
  pre := prtK_pre all st S0 _
theorem partsB_at (S : List W4) : (partsB S).length = (repN S 256).length ∧ ∀ k, k < (repN S 256).length → (partsB S).getD k noneB = clsB S ((repN S 256).getD k 0) := by
  unfold partsB
  refine ⟨List.length_map _, fun k hk => ?_⟩
  rw [List.getD_eq_getElem?_getD, List.getElem?_map, List.getD_eq_getElem?_getD, List.getElem?_eq_getElem hk, Option.map_some, Option.getD_some, Option.getD_some]

end Go.Proofs.YtonlcnmlklaicaaGreatDoor
namespace Go.Proofs.YtonlcnmlklaicaaGreatDoor
open Go.RowKit

theorem wrap_u8 {b : Nat} (h : b < 256) : IntKind.u8.wrap (b : Int) = (b : Int) := by
  simp [IntKind.wrap, IntKind.signed, IntKind.bits]
  omega
/-- what rowOf answers and leaves -/
def RowRes (B mb mm : Nat) (F : Nat → Prop) (w w' : World) (L : List Txt) (rv : Value) (row : List Int) : Prop := Own w' w.heap.size rv row ∧ ∃ F' tv', MeO B mb F' w' tv' mm L ∧ Mvd F F' w w' ∧ Off F' rv
set_option maxRecDepth 20000 in
theorem make256 (w : World) : (Instr.makeSlice 23 (.int .i64 256) (.int .i64 256)).run Tryz.prog w = .ok (.slice (some ⟨w.heap.size, 0, none⟩) 256 256) (w.alloc (.cells (madeCells #[.int .i64 0] 256) 3)) :=
  run_make_row' (P := Tryz.prog) 23 3 (.int .i64 0) 8 Tryz.underlying23 Tryz.info3 rfl .i64 .i64 256 (by omega) (by omega) w
set_option maxRecDepth 20000 in
set_option maxHeartbeats 4000000 in
theorem rowOfW {mets : Nat → List St} {rows : Nat → List Int → Prop} {P : Nat → W4} {r : Nat → Nat} {to : Nat → St} {m : Nat} {S0 : List St} {q : List St × List Int} (Q : RowQ mets rows P r to m S0 q)
    (tx : St → Txt) (T0 : Txt) (e : Int) (sa ba fa pa : Option Addr) (sn sc bn bc fn fc pc : Nat) (tv : Value) (B mb mm n : Nat) (F : Nat → Prop) (w0 w : World) (h0 : Below w0.heap.size w0 w)
    (GB : ∀ k, k < m → ∀ u, Below w0.heap.size w0 u → Calls Tryz.prog 42 #[.agg #[.int .i64 e, .slice sa sn sc, .slice ba bn bc, .slice fa fn fc], .string (strT T0), .int .u8 (r k : Int)] u fun z w' => z = .returned (.tuple #[.string (strT (tx (to k))), .bool (!decide (to k = []))]) ∧ Below u.heap.size u w')
    (GL : ∀ a0 a1 a2 a3 u, Fit4 ⟨a0, a1, a2, a3⟩ → Below w0.heap.size w0 u → Calls Tryz.prog 41 #[valB ⟨a0, a1, a2, a3⟩] u fun e w' => e = .returned (.int .i64 (leastB ⟨a0, a1, a2, a3⟩)) ∧ Below u.heap.size u w')
    (GN : ∀ k F' tv' u, k < m → to k ≠ [] → MeO B mb F' u tv' mm ((mets k).map tx) → Calls Tryz.prog 27 #[.pointer (some ⟨mb, 0, none⟩), .string (strT (tx (to k)))] u fun e w' => ∃ nx : Int, e = .returned (.int .i64 nx) ∧ RowOK (mets (k + 1)) (to k) nx ∧ ∃ F'' tv'', MeO B mb F'' w' tv'' mm ((mets (k + 1)).map tx) ∧ Mvd F' F'' u w' ∧ (∀ k, F' k → F'' k))
    (hM : MeO B mb F w tv mm (S0.map tx)) (hF0 : ∀ k, F k → w0.heap.size ≤ k) (hn : (S0.map tx)[n]? = some T0) (_hS0 : S0.length ≤ 240)
    (hP : ∀ k, k < m → ∃ b o, pa = some ⟨b, o, none⟩ ∧ b < w.heap.size ∧ ¬ F b ∧ At4 w b (o + k * 4) (P k)) :
    Calls Tryz.prog 30 #[.agg #[.int .i64 e, .slice sa sn sc, .slice ba bn bc, .slice fa fn fc], .pointer (some ⟨mb, 0, none⟩), .int .i64 (n : Int), .slice pa m pc] w fun z w' => ∃ rv, z = .returned rv ∧ RowRes B mb mm F w w' (q.1.map tx) rv q.2 := by
  have hm := Q.m256
  have hmk := make256
  obtain ⟨W0, hW0⟩ : ∃ W0, W0 = w.alloc (.cells #[.int .i64 e, .slice sa sn sc, .slice ba bn bc, .slice fa fn fc] 70) := ⟨_, rfl⟩
  have hb0 : Below w.heap.size w W0 := by rw [hW0]; exact al' w _
  have hs0 : W0.heap.size = w.heap.size + 1 := by rw [hW0]; simp
  have hq0 : W0.heap[w.heap.size]? = some (.cells #[.int .i64 e, .slice sa sn sc, .slice ba bn bc, .slice fa fn fc] 70) := by rw [hW0]; exact heap_new w _
  have hO0 := made_ints W0 256 (by omega)
  have hb1 := al' W0 (.cells (madeCells #[.int .i64 0] 256) 3)
  obtain ⟨W1, hW1⟩ : ∃ W1, W1 = W0.alloc (.cells (madeCells #[.int .i64 0] 256) 3) := ⟨_, rfl⟩
  have hs1 : W1.heap.size = w.heap.size + 2 := by rw [hW1]; simp [hs0]
  rw [← hW1] at hO0 hb1
  rw [hs0] at hO0
  have hbW : Hid (Below w.heap.size w W1) := hid (bl_step hb0 hb1)
  have hq1 := hid (hs_keep hq0 hb1)
  have hM1 := hid (hM.keep hbW.out)
  have hFlt := hid hM.lt
  have hs1' := hid hs1
  have hO0' := hid hO0
  have hP' : Hid (∀ k, k < m → ∃ b o, pa = some ⟨b, o, none⟩ ∧ b < w.heap.size ∧ ¬ F b ∧ At4 W1 b (o + k * 4) (P k)) := hid (fun k hk => by
    obtain ⟨b, o, h1, h2, h3, h4⟩ := hP k hk
    exact ⟨b, o, h1, h2, h3, h4.keep hbW.out⟩)
  have h0' := hid h0
  have GB' := hid GB
  have GL' := hid GL
  have GN' := hid GN
  have hF0' := hid hF0
  have hT' : Hid (∀ k, ((mets k).map tx)[n]? = some T0) := hid (fun k => by
    obtain ⟨U, hU⟩ := Q.pre k
    have hnl : n < (S0.map tx).length := by
      rcases Nat.lt_or_ge n (S0.map tx).length with h | h
      · exact h
      · rw [List.getElem?_eq_none h] at hn; cases hn
    rw [hU, List.map_append, List.getElem?_append_left hnl, hn])
  have hnl : Hid (∀ k, n < ((mets k).map tx).length) := hid (fun k => by
    rcases Nat.lt_or_ge n ((mets k).map tx).length with h | h
    · exact h
    · have := hT'.out k
      rw [List.getElem?_eq_none h] at this
      cases this)
  have hwS : Hid (w0.heap.size ≤ w.heap.size) := hid h0.size
  have hQ := hid Q
  rw [← Q.zero] at hM1
  have hr0 := hid Q.row0
  clear Q hM hF0 hn hP h0 GB GL GN hb0 hb1 hq0 hO0 hs1 hs0
  go_enter Tryz.func30, Tryz.ntmps30
  go_wp2
  clear hmk
  rw [← hW0, ← hW1]
  clear hW0 hW1 W0
  go_loopw [19] (fun i wr => ∃ (k : Nat) (rw : List Int) (F' : Nat → Prop) (tv' : Value), k ≤ m ∧ i = .int .i64 k ∧ Hid (rows k rw) ∧ Hid (Own wr (w.heap.size + 1) (.slice (some ⟨w.heap.size + 1, 0, none⟩) 256 256) rw) ∧ Hid (MeO B mb F' wr tv' mm ((mets k).map tx)) ∧ Hid (∀ k, F' k → F k ∨ W1.heap.size ≤ k) ∧ Kept (fun k => F k ∨ k = w.heap.size + 1) W1 wr) (fun i _ => m - (intOf i).toNat)
  case atStart => exact ⟨0, _, F, tv, Nat.zero_le _, rfl, hr0, hO0', hM1, hid (fun k h => Or.inl h), Kept.refl _ _⟩
  case round =>
    obtain ⟨k, rw, F', tv', hk, rfl, hrow, hO, hMe, hF', hkp⟩ := hrel
    have hkp' := hid hkp
    have hsz1 := hkp.size
    have hnF : Hid (∀ j, j < W1.heap.size → ¬ F j → ¬ F' j) := hid (fun j hj hf h => by
      rcases hF'.out j h with h' | h'
      · exact hf h'
      · omega)
    have hFw : Hid (∀ j, F j → j < w.heap.size) := hFlt
    have h0r : Hid (Below w0.heap.size w0 wr) := hid (((h0'.out.trans (hbW.out.mono hwS.out))).trans (hkp.below (fun j hj => by
      rcases hj with hj | hj
      · exact hF0'.out j hj
      · have := hwS.out; omega) (by have := hwS.out; have := hs1'.out; omega)))
    by_cases hlt : k < m
    · have hltz : (k : Int) < (m : Int) := by omega
      obtain ⟨b1, o1, rfl, hb1, hnb, hat⟩ := hP'.out k hlt
      have hb1W : b1 < W1.heap.size := by have := hs1'.out; omega
      have hnb' : ¬ (F b1 ∨ b1 = w.heap.size + 1) := fun h => by
        rcases h with h | h
        · exact hnb h
        · omega
      obtain ⟨z0, z1, z2, z3⟩ := hat
      have y0 := hkp.cell z0 hb1W hnb'
      have y1 := hkp.cell z1 hb1W hnb'
      have y2 := hkp.cell z2 hb1W hnb'
      have y3 := hkp.cell z3 hb1W hnb'
      clear z0 z1 z2 z3
      have hfit := hQ.out.fit k hlt
      have hlst := hQ.out.least k hlt
      have hstep := hid (fun nx => hQ.out.step k rw nx hlt hrow.out)
      have hsucc := hid (hQ.out.succ k hlt)
      have hlen := hid (hQ.out.len k rw hrow.out)
      have GBk := hid (GB'.out k hlt)
      obtain ⟨lv, hlv⟩ : ∃ lv : Bool, Hid (lv = !decide (to k = [])) := ⟨_, hid rfl⟩
      rw [← hlv.out] at GBk
      have GNk := hid (fun tv' u => GN'.out k F' tv' u hlt)
      generalize P k = Pk at y0 y1 y2 y3 hfit hlst hstep
      obtain ⟨pa, pb, pc', pd⟩ := Pk
      simp only at y0 y1 y2 y3
      have GLk := hid (fun u => GL'.out pa pb pc' pd u hfit)
      rw [hlst.2] at GLk
      have hr256 := hlst.1
      have hwrap := wrap_u8 hr256
      generalize r k = rk at GBk GLk hr256 hwrap
      clear hlst
      have hGH : Hid (∀ b u, b < 256 → Calls Tryz.prog 43 #[valB ⟨pa, pb, pc', pd⟩, .int .u8 ((b : Nat) : Int)] u fun e w' => e = .returned (.bool (hasB ⟨pa, pb, pc', pd⟩ b)) ∧ Below u.heap.size u w') := hid (fun b u hb => hasC' pa pb pc' pd b u hfit hb)
      -- the set's own block
      have hal := hid (al' wr (.cells #[.int .u64 (pa : Int), .int .u64 (pb : Int), .int .u64 (pc' : Int), .int .u64 (pd : Int)] 65))
      have hsb := hid (heap_new wr (.cells #[.int .u64 (pa : Int), .int .u64 (pb : Int), .int .u64 (pc' : Int), .int .u64 (pd : Int)] 65))
      have hpb : Hid ((wr.alloc (.cells #[.int .u64 (pa : Int), .int .u64 (pb : Int), .int .u64 (pc' : Int), .int .u64 (pd : Int)] 65)).heap[w.heap.size]? = some (.cells #[.int .i64 e, .slice sa sn sc, .slice ba bn bc, .slice fa fn fc] 70)) := hid (hs_keep (hkp.blk hq1.out (fun h => by
        rcases h with h | h
        · have := hFw.out _ h; omega
        · omega)) hal.out)
      have hM2 := hid (hMe.out.keep hal.out)
      obtain ⟨g, c, rfl, hgb, hgl, hgc⟩ := ownStr_at hM2.out.row (hT'.out k)
      have hnlk := hnl.out k
      have hnz : (n : Int) < (((mets k).map tx).length : Int) := by omega
      have hsW2 : wr.heap.size < (wr.alloc (.cells #[.int .u64 (pa : Int), .int .u64 (pb : Int), .int .u64 (pc' : Int), .int .u64 (pd : Int)] 65)).heap.size := by simp
      generalize hnlen : ((mets k).map tx).length = nl at *
      have hcells : Hid (∀ u, Below (wr.alloc (.cells #[.int .u64 (pa : Int), .int .u64 (pb : Int), .int .u64 (pc' : Int), .int .u64 (pd : Int)] 65)).heap.size (wr.alloc (.cells #[.int .u64 (pa : Int), .int .u64 (pb : Int), .int .u64 (pc' : Int), .int .u64 (pd : Int)] 65)) u →
          ((u.cell? ⟨w.heap.size, 0, none⟩ = some (.int .i64 e) ∧ u.cell? ⟨w.heap.size, 1, none⟩ = some (.slice sa sn sc) ∧ u.cell? ⟨w.heap.size, 2, none⟩ = some (.slice ba bn bc) ∧ u.cell? ⟨w.heap.size, 3, none⟩ = some (.slice fa fn fc)) ∧ u.cell? ⟨mb, 0, none⟩ = some (.slice (some ⟨g, 0, none⟩) nl c) ∧ u.cell? ⟨g, n, none⟩ = some (.string (strT T0)) ∧
          (u.cell? ⟨wr.heap.size, 0, none⟩ = some (.int .u64 (pa : Int)) ∧ u.cell? ⟨wr.heap.size, 1, none⟩ = some (.int .u64 (pb : Int)) ∧ u.cell? ⟨wr.heap.size, 2, none⟩ = some (.int .u64 (pc' : Int)) ∧ u.cell? ⟨wr.heap.size, 3, none⟩ = some (.int .u64 (pd : Int))))) := hid (fun u hu => by
        obtain ⟨a0, a1, a2, a3, -⟩ := cells4p (hs_keep hpb.out hu)
        obtain ⟨e0, -⟩ := cells2m (hs_keep hM2.out.blk hu)
        obtain ⟨s0, s1, s2, s3, -⟩ := cells4p (hs_keep hsb.out hu)
        exact ⟨⟨a0, a1, a2, a3⟩, e0, keep_cell hu hgc, s0, s1, s2, s3⟩)
      have h0u := hid (bl_step h0r.out hal.out)
      clear hgc hM2
      have hMk := hid (fun u (hu : Below wr.heap.size wr u) => hMe.out.keep hu)
      have hOk := hid (fun u (hu : Below wr.heap.size wr u) => own_below hO.out hu)
      go_wp2_with fail
      clear y0 y1 y2 y3
      generalize hW2 : wr.alloc (.cells #[.int .u64 (pa : Int), .int .u64 (pb : Int), .int .u64 (pc' : Int), .int .u64 (pd : Int)] 65) = W2 at *
      obtain ⟨⟨a0, a1, a2, a3⟩, c0, c1, s0, s1, s2, s3⟩ := hcells.out W2.drew (Below.refl _ _).drew
      go_region_held3 (fun w' => (w'.cell? ⟨w.heap.size, 0, none⟩ = some (.int .i64 e) ∧ w'.cell? ⟨w.heap.size, 1, none⟩ = some (.slice sa sn sc) ∧ w'.cell? ⟨w.heap.size, 2, none⟩ = some (.slice ba bn bc) ∧ w'.cell? ⟨w.heap.size, 3, none⟩ = some (.slice fa fn fc)) ∧ w'.cell? ⟨mb, 0, none⟩ = some (.slice (some ⟨g, 0, none⟩) nl c) ∧ w'.cell? ⟨g, n, none⟩ = some (.string (strT T0)) ∧
          (w'.cell? ⟨wr.heap.size, 0, none⟩ = some (.int .u64 (pa : Int)) ∧ w'.cell? ⟨wr.heap.size, 1, none⟩ = some (.int .u64 (pb : Int)) ∧ w'.cell? ⟨wr.heap.size, 2, none⟩ = some (.int .u64 (pc' : Int)) ∧ w'.cell? ⟨wr.heap.size, 3, none⟩ = some (.int .u64 (pd : Int))))
        (go_keep)
        ((first
          | (go_at_call 41; refine (GLk.out _ (bl_step h0u.out (Below.refl _ _).drew)).mono ?_; rintro e' w3 ⟨rfl, hb3⟩; have hb3' : Below W2.heap.size W2 w3 := bl_step (Below.refl _ _).drew hb3; obtain ⟨⟨b0, b1', b2, b3⟩, d0, d1, t0, t1, t2, t3⟩ := hcells.out w3 hb3')
          | (go_at_call 42; refine (GBk.out _ (bl_step h0u.out hb3')).mono ?_; rintro e' w4 ⟨rfl, hb4⟩; have hb4' : Below W2.heap.size W2 w4 := bl_step hb3' hb4; obtain ⟨⟨f0, f1, f2, f3⟩, g0, g1, v0, v1, v2, v3⟩ := hcells.out w4 hb4')))
      have hrbF : Hid (¬ F' (w.heap.size + 1)) := hid (fun h => by
        rcases hF'.out _ h with h' | h'
        · have := hFw.out _ h'; omega
        · have := hs1'.out; omega)
      have hsbF : Hid (¬ F' wr.heap.size) := hid (fun h => by have := hMe.out.lt _ h; omega)
      have hb4w : Hid (Below wr.heap.size wr w4) := hid (bl_step hal.out hb4')
      have hset4 := hid (hs_keep hsb.out hb4')
      have hwrs : w.heap.size + 1 < wr.heap.size := by have := hs1'.out; omega
      clear a0 a1 a2 a3 c0 c1 s0 s1 s2 s3 b0 b1' b2 b3 d0 d1 t0 t1 t2 t3 f0 f1 f2 f3 g0 g1 v0 v1 v2 v3 hcells hb3 hb3' hb4
      by_cases hto : to k = []
      · have hok : Hid (RowOK (mets (k + 1)) (to k) (-1)) := hid (Or.inl ⟨hto, rfl⟩)
        have hOn := hid (hOk.out w4 hb4w.out)
        have hset := hset4
        have hsne : Hid (¬ wr.heap.size = w.heap.size + 1) := hid (by omega)
        have hMn : Hid (MeO B mb F' w4 (.slice (some ⟨g, 0, none⟩) nl c) mm ((mets (k + 1)).map tx)) := hid (by rw [hsucc.out, hto, metS_nil]; exact hMk.out w4 hb4w.out)
        have hFrb : Hid (∀ j, F' j → ¬ j = w.heap.size + 1) := hid (fun j hj e0 => hrbF.out (by rw [← e0]; exact hj))
        have hFn := hF'
        have hkn : Hid (Kept (fun k => F k ∨ k = w.heap.size + 1) W1 w4) := hid (hkp'.out.step (Kept.of_below hb4w.out (F := noBlk)) (fun _ _ h => h.elim))
        have hlv' : lv = false := by rw [hlv.out, hto]; rfl
        clear hlv hto
        subst hlv'
        go_wp2
        generalize (-1 : Int) = nx at hok ⊢

        obtain ⟨wo, hwo⟩ : ∃ x, x = wr := ⟨_, rfl⟩
        subst hwo
        have hput := hid (fun c (hc : c < 256) => putB8_yes (P := ⟨pa, pb, pc', pd⟩) (nx := nx) (rw := rw) hc)
        have hnop := hid (fun c => putB8_no (P := ⟨pa, pb, pc', pd⟩) (nx := nx) (rw := rw) (c := c))
        have hz0 := hid (putB8_zero ⟨pa, pb, pc', pd⟩ nx hlen.out)
        have hpl := hid (fun c => putB8_len ⟨pa, pb, pc', pd⟩ nx rw c)
        have hrow2 := hid (hstep.out nx hok.out)
        generalize hpc : putB8 ⟨pa, pb, pc', pd⟩ nx rw = X at hput hnop hz0 hpl hrow2
        clear hpc
        go_loopw [44] (fun i wr2 => ∃ b : Nat, b ≤ 256 ∧ i = .int .i64 b ∧ Hid (Own wr2 (w.heap.size + 1) (.slice (some ⟨w.heap.size + 1, 0, none⟩) 256 256) (X b)) ∧ Kept (fun k => k = w.heap.size + 1) w4 wr2) (fun i _ => 256 - (intOf i).toNat)
        case atStart => exact ⟨0, Nat.zero_le _, rfl, hid (by rw [hz0.out]; exact hOn.out), Kept.refl _ _⟩
        case round =>
          obtain ⟨b, hb, rfl, hO2, hk2⟩ := hrel
          by_cases hbl : b < 256
          · have hbz : (b : Int) < 256 := by omega
            have hbw := wrap_u8 hbl
            obtain ⟨x0, x1, x2, x3, -⟩ := cells4p (hk2.blk hset.out hsne.out)
            have G1 := hid (fun u => hGH.out b u hbl)
            have hyes := hid (hput.out b hbl)
            have hno := hid (hnop.out b)
            generalize hasB ⟨pa, pb, pc', pd⟩ b = hv at G1 hyes hno
            have hxl : b < (X b).length := by rw [hpl.out]; exact hbl
            cases hv with
            | false =>
              have hX := hid (hno.out rfl)
              go_wp2_with (go_at_call 43; refine (G1.out _).mono ?_; rintro e' w6 ⟨rfl, hb6⟩)
              go_roundw
              case rel => exact ⟨b + 1, by omega, by go_num, hid (by rw [hX.out]; exact own_below hO2.out hb6), hk2.step (Kept.of_below hb6 (F := noBlk)) (fun _ _ h => h.elim)⟩
              case measure => simp [intOf]; omega
            | true =>
              have hX := hid (hyes.out rfl)
              have hbr := hk2.size
              go_wp2_with (go_at_call 43; refine (G1.out _).mono ?_; rintro e' w6 ⟨rfl, hb6⟩; have hO6 := hid (own_below hO2.out hb6); have i0 := own_num_at hO6.out hxl; have i1 := own_num_free hO6.out (hpl.out b).symm b; have hO7 := hid (own_num_put (k := b) nx hO6.out (hpl.out b).symm))
              go_roundw
              case rel => exact ⟨b + 1, by omega, by go_num, hid (by rw [hX.out]; exact hO7.out), (hk2.step (Kept.of_below hb6 (F := noBlk)) (fun _ _ h => h.elim)).setCell (fun _ => rfl)⟩
              case measure => simp [intOf]; omega
          · have hbz : ¬ (b : Int) < 256 := by omega
            obtain rfl : b = 256 := by omega
            have hMz := hid (MeO.kept hMn.out hk2 (fun j hj e0 => hFrb.out j hj e0))
            have hkz : Hid (Kept (fun k => F k ∨ k = w.heap.size + 1) W1 wr) := hid (hkn.out.step hk2 (fun j _ h => Or.inr h))
            go_wp2
            go_roundw
            case rel => exact ⟨k + 1, _, _, _, by omega, by go_num, hrow2, hO2, hMz, hFn, hkz.out⟩
            case measure => simp [intOf]; omega
      · have hlv' : lv = true := by rw [hlv.out, decide_eq_false hto]; rfl
        clear hlv
        subst hlv'
        have G5 := hid (GNk.out _ w4 hto (hMk.out w4 hb4w.out))
        go_wp2_with (go_at_call 27; refine G5.out.mono ?_; rintro e' w5 ⟨nx, rfl, hok, hnew⟩; have hok := hid hok; have hnew := hid hnew)
        obtain ⟨F5, tv5, hM5, hv5, -⟩ := hnew.out
        have hOn : Hid (Own w5 (w.heap.size + 1) (.slice (some ⟨w.heap.size + 1, 0, none⟩) 256 256) rw) := hid (own_kept (hOk.out w4 hb4w.out) hv5.kept (fun j e0 hf => hrbF.out (by have e1 : w.heap.size + 1 = j := (by injection e0); rw [e1]; exact hf)))
        have hset := hid (hv5.kept.blk hset4.out hsbF.out)
        have hsne : Hid (¬ wr.heap.size = w.heap.size + 1) := hid (by omega)
        have hMn := hid hM5
        have hFrb : Hid (∀ j, F5 j → ¬ j = w.heap.size + 1) := hid (fun j hj e0 => by
          rcases hv5.new j hj with h | h
          · exact hrbF.out (by rw [← e0]; exact h)
          · have := hb4w.out.size; omega)
        have hFn : Hid (∀ j, F5 j → F j ∨ W1.heap.size ≤ j) := hid (fun j hj => by
          rcases hv5.new j hj with h | h
          · exact hF'.out j h
          · exact Or.inr (by have := hb4w.out.size; omega))
        have hkn : Hid (Kept (fun k => F k ∨ k = w.heap.size + 1) W1 w5) := hid ((hkp'.out.step (Kept.of_below hb4w.out (F := noBlk)) (fun _ _ h => h.elim)).step hv5.kept (fun j hj h => by
          rcases hF'.out j h with h' | h'
          · exact Or.inl h'
          · omega))
        clear hM5 hv5 hnew G5

        obtain ⟨wo, hwo⟩ : ∃ x, x = wr := ⟨_, rfl⟩
        subst hwo
        have hput := hid (fun c (hc : c < 256) => putB8_yes (P := ⟨pa, pb, pc', pd⟩) (nx := nx) (rw := rw) hc)
        have hnop := hid (fun c => putB8_no (P := ⟨pa, pb, pc', pd⟩) (nx := nx) (rw := rw) (c := c))
        have hz0 := hid (putB8_zero ⟨pa, pb, pc', pd⟩ nx hlen.out)
        have hpl := hid (fun c => putB8_len ⟨pa, pb, pc', pd⟩ nx rw c)
        have hrow2 := hid (hstep.out nx hok.out)
        generalize hpc : putB8 ⟨pa, pb, pc', pd⟩ nx rw = X at hput hnop hz0 hpl hrow2
        clear hpc
        go_loopw [44] (fun i wr2 => ∃ b : Nat, b ≤ 256 ∧ i = .int .i64 b ∧ Hid (Own wr2 (w.heap.size + 1) (.slice (some ⟨w.heap.size + 1, 0, none⟩) 256 256) (X b)) ∧ Kept (fun k => k = w.heap.size + 1) w5 wr2) (fun i _ => 256 - (intOf i).toNat)
        case atStart => exact ⟨0, Nat.zero_le _, rfl, hid (by rw [hz0.out]; exact hOn.out), Kept.refl _ _⟩
        case round =>
          obtain ⟨b, hb, rfl, hO2, hk2⟩ := hrel
          by_cases hbl : b < 256
          · have hbz : (b : Int) < 256 := by omega
            have hbw := wrap_u8 hbl
            obtain ⟨x0, x1, x2, x3, -⟩ := cells4p (hk2.blk hset.out hsne.out)
            have G1 := hid (fun u => hGH.out b u hbl)
            have hyes := hid (hput.out b hbl)
            have hno := hid (hnop.out b)
            generalize hasB ⟨pa, pb, pc', pd⟩ b = hv at G1 hyes hno
            have hxl : b < (X b).length := by rw [hpl.out]; exact hbl
            cases hv with
            | false =>
              have hX := hid (hno.out rfl)
              go_wp2_with (go_at_call 43; refine (G1.out _).mono ?_; rintro e' w6 ⟨rfl, hb6⟩)
              go_roundw
              case rel => exact ⟨b + 1, by omega, by go_num, hid (by rw [hX.out]; exact own_below hO2.out hb6), hk2.step (Kept.of_below hb6 (F := noBlk)) (fun _ _ h => h.elim)⟩
              case measure => simp [intOf]; omega
            | true =>
              have hX := hid (hyes.out rfl)
              have hbr := hk2.size
              go_wp2_with (go_at_call 43; refine (G1.out _).mono ?_; rintro e' w6 ⟨rfl, hb6⟩; have hO6 := hid (own_below hO2.out hb6); have i0 := own_num_at hO6.out hxl; have i1 := own_num_free hO6.out (hpl.out b).symm b; have hO7 := hid (own_num_put (k := b) nx hO6.out (hpl.out b).symm))
              go_roundw
              case rel => exact ⟨b + 1, by omega, by go_num, hid (by rw [hX.out]; exact hO7.out), (hk2.step (Kept.of_below hb6 (F := noBlk)) (fun _ _ h => h.elim)).setCell (fun _ => rfl)⟩
              case measure => simp [intOf]; omega
          · have hbz : ¬ (b : Int) < 256 := by omega
            obtain rfl : b = 256 := by omega
            have hMz := hid (MeO.kept hMn.out hk2 (fun j hj e0 => hFrb.out j hj e0))
            have hkz : Hid (Kept (fun k => F k ∨ k = w.heap.size + 1) W1 wr) := hid (hkn.out.step hk2 (fun j _ h => Or.inr h))
            go_wp2
            go_roundw
            case rel => exact ⟨k + 1, _, _, _, by omega, by go_num, hrow2, hO2, hMz, hFn, hkz.out⟩
            case measure => simp [intOf]; omega
    · have hltz : ¬ (k : Int) < (m : Int) := by omega
      obtain rfl : k = m := by omega
      obtain ⟨e1, e2⟩ := hQ.out.fin rw hrow.out
      have hO1 : Own wr (w.heap.size + 1) (.slice (some ⟨w.heap.size + 1, 0, none⟩) 256 256) q.2 := by rw [← e1]; exact hO.out
      have hO1 := hid hO1
      have hMf : Hid (MeO B mb F' wr tv' mm (q.1.map tx)) := hid (by rw [← e2]; exact hMe.out)
      clear e1 e2
      go_wp2
      go_ret
      refine ⟨_, rfl, own_base hO1.out (by omega), F', tv', hMf.out, ⟨(Kept.of_below hbW.out (F := F)).step hkp (fun j hj h => ?_), fun j h => ?_⟩, fun ad nn cc e0 h1 h2 => ?_⟩
      · rcases h with h | h
        · exact h
        · omega
      · rcases hF'.out j h with h' | h'
        · exact Or.inl h'
        · exact Or.inr (by have := hs1'.out; omega)
      · have e1 : w.heap.size + 1 = ad.block := by
          injection e0 with e0
          injection e0 with e0
          rw [← e0]
        rcases hF'.out _ h2 with h' | h'
        · have := hFlt.out _ h'; omega
        · have := hs1'.out; omega

end Go.Proofs.YtonlcnmlklaicaaGreatDoor
namespace Go.Proofs.YtonlcnmlklaicaaGreatDoor
open Go.RowKit

set_option maxRecDepth 20000 in
theorem setsHas (v : Value) (l : List Int) (n : Int) (w : World) (hl : l.length ≤ 1000000) (hA : Nums w v l) :
    Calls Tryz.prog 56 #[v, .int .i64 n] w fun e w' => e = .returned (.bool (l.contains n)) ∧ w' = w := by
  have G : Hid (Calls Tryz.prog 70 #[v, .int .i64 n] w fun e w' => e = .returned (.bool (l.contains n)) ∧ w' = w) := by
    by_cases h0 : l = []
    · subst h0
      obtain ⟨aa, ca, rfl, _, _, hA⟩ := hA
      exact hid ((Tryz.slices_Contains_int_empty aa ca n w).mono fun e w' ⟨he, hw⟩ => ⟨he, hw⟩)
    · obtain ⟨b, o, cap, rfl, hcap, hb, hc⟩ := hA.at (List.length_pos_iff.2 h0)
      have := Tryz.slices_Contains_int b o l.length cap l n w (Nat.le_refl _) (by omega) (Nums.getD hc)
      rw [List.take_of_length_le (Nat.le_refl _)] at this
      exact hid this
  generalize l.contains n = r at G ⊢
  clear hA
  go_enter Tryz.func56, Tryz.ntmps56
  go_wp2_with (go_at_call 70; refine (G.out).mono ?_; rintro e w1 ⟨rfl, hw1⟩; subst w1)
  go_ret
  exact ⟨rfl, rfl⟩
theorem grown_refl (w : World) (r : Option Nat) : w.grownBy w r := ⟨rfl, rfl, rfl, Nat.le_refl _, fun _ _ _ => rfl⟩
theorem step_append_none {P : Program} {w : World} {ops : Array Oper} {o : Oper} {a : Act} {K : Act → World → Prop} {Q : Exit → Act → World → Prop} {E : Prop} (hgd : o.guard = none) (s x : Operand) (t : TypeId)
    (ho : o.op = .call { callee := .builtin .append, args := #[s, x], argTypes := #[t, t] })
    (base : Nat) (e : TypeId) (i : TypeInfo) (size : Nat) (ht : P.underlying t = some (.slice e)) (hi : P.info? e = some i)
    (v : Value) (n : Nat) (xs : List Value) (hs : a.eval s = v) (hown : w.ownsRow base e size v n xs) (hx : a.eval x = .slice none 0 0)
    (h : K (a.put o.dst v) w) : if Region.wanted o (yielded ops a.tmps) = true then Oper.wp P o a w K Q else E := by
  have hw : Region.wanted o (yielded ops a.tmps) = true := by simp [Region.wanted, hgd]
  rw [if_pos hw]
  have hrun := run_append_owned_none (P := P) (w := w) base t o.type e i size ht hi v n xs hown
  unfold Oper.wp
  simp [execOp, ho, resolve, invoke, builtin, hs, hx, hrun, Result.andThen]
  exact h
set_option maxRecDepth 20000 in
/-- append of numbers onto a list of one's own, in a region that draws its order -/
theorem step_appN {w : World} {ops : Array Oper} {o : Oper} {a : Act} {K : Act → World → Prop} {Q : Exit → Act → World → Prop} {E : Prop} (hgd : o.guard = none) (s x : Operand)
    (ho : o.op = .call { callee := .builtin .append, args := #[s, x], argTypes := #[23, 23] })
    (B : Nat) (l1 l2 : List Int) (v vx : Value) (hs : a.eval s = v) (hx : a.eval x = vx) (hown : Own w B v l1) (hN : Nums w vx l2) (hN0 : l2 = [] → vx = .slice none 0 0) (hl : l1.length + l2.length ≤ 4000000) (hB : B ≤ w.heap.size)
    (h : ∀ av c w', Own w' B (.slice av (l1.length + l2.length) c) (l1 ++ l2) → w.grownBy w' v.ownBlock → (∀ k, (Value.slice av (l1.length + l2.length) c).ownBlock = some k → v.ownBlock = some k ∨ w.heap.size ≤ k) → K (a.put o.dst (.slice av (l1.length + l2.length) c)) w') :
    if Region.wanted o (yielded ops a.tmps) = true then Oper.wp Tryz.prog o a w K Q else E := by
  obtain ⟨i0, hi, hz0, hz1, hz2⟩ := info_parts Tryz.info3
  by_cases h0 : l2 = []
  · subst h0
    have hv := hN0 rfl
    subst hv
    obtain ⟨av, c, rfl⟩ := own_shape hown
    refine step_append_none hgd s x 23 ho B 3 i0 1 Tryz.underlying23 hi _ _ _ hs hown hx ?_
    have := h av c w (by rw [List.append_nil]; exact hown) (grown_refl _ _) (fun k hk => Or.inl hk)
    exact this
  · have hpos := List.length_pos_iff.2 h0
    obtain ⟨b, o', cap, rfl, hcap, hb, hc⟩ := hN.at hpos
    refine step_append_lies w hgd s x 23 ho B 3 i0 (.int .i64 0) 1 8 Tryz.underlying23 hi hz0 hz1 hz2 rfl (by decide) v _ _ hs hown ⟨b, o', none⟩ l2.length cap (numCells l2) hx (by rw [numCells_len]; omega) (Nums.news hc) (numCells_one l2) hpos (by unfold maxLen; omega) (by omega) hB w.heap.size rfl ?_
    intro g cap' w' hO hg hat _
    refine h _ _ w' ?_ hg ?_
    · unfold Own
      rw [numCells_app, List.length_append]
      exact hO
    · intro k hk
      have e1 : g = k := by injection hk
      subst e1
      rcases hat with h1 | h1
      · exact Or.inl h1
      · exact Or.inr (by omega)

end Go.Proofs.YtonlcnmlklaicaaGreatDoor
