/- Sets of bytes word by word: or, and, not, one; how many bits a word has. Or, Not of package bytes. bit, One of package bytes. Span of package bytes. -/
import Derived.Test.YtonlcnmlklaicaaGreatDoorJ1
import Derived.Test.YtonlcnmlklaicaaGreatDoorJ2
import Derived.Laws.BitsAllLaws
import Derived.Laws.Bits128
import Derived.BigQuiet
import Derived.Deep.RegionHeld3
namespace Go.Proofs.YtonlcnmlklaicaaGreatDoor

theorem or_words (S T : W4) (hS : Fit4 S) (hT : Fit4 T) : orB S T = ⟨S.a ||| T.a, S.b ||| T.b, S.c ||| T.c, S.d ||| T.d⟩ := by
  have lt : ∀ m n : Nat, m < 18446744073709551616 → n < 18446744073709551616 → m ||| n < 18446744073709551616 := fun m n hm hn => Nat.or_lt_two_pow (n := 64) hm hn
  refine (mkB_eq ⟨lt _ _ hS.a hT.a, lt _ _ hS.b hT.b, lt _ _ hS.c hT.c, lt _ _ hS.d hT.d⟩ fun x hx => ?_).symm
  unfold hasB
  have h4 : x / 64 = 0 ∨ x / 64 = 1 ∨ x / 64 = 2 ∨ x / 64 = 3 := by omega
  rcases h4 with h | h | h | h <;> rw [h] <;> exact Nat.testBit_or _ _ _
theorem and_words (S T : W4) (hS : Fit4 S) : andB S T = ⟨S.a &&& T.a, S.b &&& T.b, S.c &&& T.c, S.d &&& T.d⟩ := by
  have lt : ∀ m n : Nat, m < 18446744073709551616 → m &&& n < 18446744073709551616 := fun m n hm => Nat.lt_of_le_of_lt Nat.and_le_left hm
  refine (mkB_eq ⟨lt _ _ hS.a, lt _ _ hS.b, lt _ _ hS.c, lt _ _ hS.d⟩ fun x hx => ?_).symm
  unfold hasB
  have h4 : x / 64 = 0 ∨ x / 64 = 1 ∨ x / 64 = 2 ∨ x / 64 = 3 := by omega
  rcases h4 with h | h | h | h <;> rw [h] <;> exact Nat.testBit_and _ _ _
theorem not_bit (n j : Nat) (hn : n < 18446744073709551616) (hj : j < 64) : (18446744073709551615 - n).testBit j = !n.testBit j := by
  have := Nat.testBit_two_pow_sub_succ (n := 64) (x := n) hn j
  rw [show (2 : Nat) ^ 64 - (n + 1) = 18446744073709551615 - n by omega] at this
  rw [this]
  simp [hj]
theorem not_words (S : W4) (hS : Fit4 S) : notB S = ⟨18446744073709551615 - S.a, 18446744073709551615 - S.b, 18446744073709551615 - S.c, 18446744073709551615 - S.d⟩ := by
  have lt : ∀ n : Nat, 18446744073709551615 - n < 18446744073709551616 := fun n => by omega
  refine (mkB_eq ⟨lt _, lt _, lt _, lt _⟩ fun x hx => ?_).symm
  unfold hasB
  have h4 : x / 64 = 0 ∨ x / 64 = 1 ∨ x / 64 = 2 ∨ x / 64 = 3 := by omega
  rcases h4 with h | h | h | h <;> rw [h]
  · exact not_bit _ _ hS.a (by omega)
  · exact not_bit _ _ hS.b (by omega)
  · exact not_bit _ _ hS.c (by omega)
  · exact not_bit _ _ hS.d (by omega)
theorem xor_all (n : Nat) (hn : n < 18446744073709551616) : n ^^^ 18446744073709551615 = 18446744073709551615 - n := by
  refine word_ext (Nat.xor_lt_two_pow (n := 64) hn (by decide)) (by omega) fun j hj => ?_
  rw [Nat.testBit_xor, not_bit n j hn hj]
  have : (18446744073709551615 : Nat).testBit j = true := by
    have h := not_bit 0 j (by omega) hj
    rw [Nat.zero_testBit] at h
    exact h
  rw [this]
  cases n.testBit j <;> rfl
theorem one_word (x : Nat) (hx : x < 256) : spanB x x = noneB.set (x / 64) (2 ^ (x % 64)) := by
  have h0 : noneB.w (x / 64) = 0 := by
    have h4 : x / 64 = 0 ∨ x / 64 = 1 ∨ x / 64 = 2 ∨ x / 64 = 3 := by omega
    rcases h4 with h | h | h | h <;> rw [h] <;> rfl
  have h1 : putB noneB x = noneB.set (x / 64) (2 ^ (x % 64)) := by
    unfold putB
    rw [noneB_has, h0]
    simp
  rw [← h1]
  refine (mkB_eq (putB_fit noneB_fit x) fun y hy => ?_).symm
  rw [putB_has _ x y hx hy, noneB_has, Bool.false_or, Bool.eq_iff_iff]
  simp only [Bool.and_eq_true, decide_eq_true_eq]
  omega

/-! ### how many bits -/
end Go.Proofs.YtonlcnmlklaicaaGreatDoor
namespace Go.Proofs.YtonlcnmlklaicaaGreatDoor
open Go.RowKit

/-- the first k words of the one, the rest of the other -/
def mixW (R S : W4) (k : Nat) : W4 := ⟨if 0 < k then R.a else S.a, if 1 < k then R.b else S.b, if 2 < k then R.c else S.c, if 3 < k then R.d else S.d⟩

set_option maxRecDepth 20000 in
theorem index4 (x0 x1 x2 x3 : Int) (i : Nat) (v : Int) (w : World) (hv : [x0, x1, x2, x3][i]? = some v) :
    (Instr.index 65 (.agg #[.int .u64 x0, .int .u64 x1, .int .u64 x2, .int .u64 x3]) (.int .i64 (i : Int))).run Tryz.prog w = .ok (.int .u64 v) w := by
  have hi : i = 0 ∨ i = 1 ∨ i = 2 ∨ i = 3 := by
    have : i < 4 := by
      rcases Nat.lt_or_ge i 4 with h | h
      · exact h
      · rw [List.getElem?_eq_none (by simpa using h)] at hv; cases hv
    omega
  rcases hi with rfl | rfl | rfl | rfl
  all_goals
    simp at hv
    subst hv
    simp [Instr.index, run_underlying Tryz.underlying65, asIntOf, go_sem, part, isAgg, run_underlying Tryz.underlying63]

set_option maxRecDepth 20000 in
set_option maxHeartbeats 1000000 in
theorem orC (sa sb sc sd ta tb tc td : Nat) (w : World) (hS : Fit4 ⟨sa, sb, sc, sd⟩) (hT : Fit4 ⟨ta, tb, tc, td⟩) :
    Calls Tryz.prog 120 #[valB ⟨sa, sb, sc, sd⟩, valB ⟨ta, tb, tc, td⟩] w fun e w' => e = .returned (valB (orB ⟨sa, sb, sc, sd⟩ ⟨ta, tb, tc, td⟩)) ∧ Below w.heap.size w w' := by
  rw [or_words _ _ hS hT]
  have k0 := u64_or_nat sa ta hS.1 hT.1
  have k1 := u64_or_nat sb tb hS.2 hT.2
  have k2 := u64_or_nat sc tc hS.3 hT.3
  have k3 := u64_or_nat sd td hS.4 hT.4
  simp only
  generalize sa ||| ta = ra at k0 ⊢
  generalize sb ||| tb = rb at k1 ⊢
  generalize sc ||| tc = rc at k2 ⊢
  generalize sd ||| td = rd at k3 ⊢
  clear hS hT
  have ix0 : ∀ u, (Instr.index 65 (.agg #[.int .u64 (ta : Int), .int .u64 (tb : Int), .int .u64 (tc : Int), .int .u64 (td : Int)]) (.int .i64 0)).run Tryz.prog u = .ok (.int .u64 (ta : Int)) u := fun u => index4 ta tb tc td 0 ta u rfl
  have ix1 : ∀ u, (Instr.index 65 (.agg #[.int .u64 (ta : Int), .int .u64 (tb : Int), .int .u64 (tc : Int), .int .u64 (td : Int)]) (.int .i64 1)).run Tryz.prog u = .ok (.int .u64 (tb : Int)) u := fun u => index4 ta tb tc td 1 tb u rfl
  have ix2 : ∀ u, (Instr.index 65 (.agg #[.int .u64 (ta : Int), .int .u64 (tb : Int), .int .u64 (tc : Int), .int .u64 (td : Int)]) (.int .i64 2)).run Tryz.prog u = .ok (.int .u64 (tc : Int)) u := fun u => index4 ta tb tc td 2 tc u rfl
  have ix3 : ∀ u, (Instr.index 65 (.agg #[.int .u64 (ta : Int), .int .u64 (tb : Int), .int .u64 (tc : Int), .int .u64 (td : Int)]) (.int .i64 3)).run Tryz.prog u = .ok (.int .u64 (td : Int)) u := fun u => index4 ta tb tc td 3 td u rfl
  go_enter Tryz.func120, Tryz.ntmps120
  go_wp2
  go_loopw [8] (fun i wr => ∃ k : Nat, k ≤ 4 ∧ i = .int .i64 k ∧ Hid (Blk wr w.heap.size (mixW ⟨ra, rb, rc, rd⟩ ⟨sa, sb, sc, sd⟩ k)) ∧ Hid (Blk wr (w.heap.size + 2) noneB) ∧ Below w.heap.size w wr) (fun i _ => 4 - (intOf i).toNat)
  case atStart => exact ⟨0, Nat.zero_le _, rfl, hid (three_blocks w _ _ _).1, hid (three_blocks w _ _ _).2.2, bl_step (bl_step (al' w _) (al' _ _)) (al' _ _)⟩
  case round =>
    obtain ⟨k, hk, rfl, bS0, bR0, hbl⟩ := hrel
    have hk5 : k = 0 ∨ k = 1 ∨ k = 2 ∨ k = 3 ∨ k = 4 := by omega
    rcases hk5 with rfl | rfl | rfl | rfl | rfl
    · have bS0' : Blk wr w.heap.size ⟨sa, sb, sc, sd⟩ := bS0.out
      obtain ⟨s0, s1, s2, s3, s4, s5, s6, s7⟩ := bS0'.cells
      have bS1 : Blk (wr.setCell ⟨w.heap.size, 0, none⟩ (.int .u64 (ra : Int))) w.heap.size ⟨ra, sb, sc, sd⟩ := heap_setCell bS0'
      have bR1 : Blk (wr.setCell ⟨w.heap.size, 0, none⟩ (.int .u64 (ra : Int))) (w.heap.size + 2) noneB := (Below.heap_setCell _ _ _ _ (by simp)).trans bR0.out
      have bS1 := hid bS1
      have bR1 := hid bR1
      clear bS0'
      go_wp2
      go_roundw
      case rel => exact ⟨1, by omega, rfl, bS1, bR1, bl_set hbl _ _ _ (Nat.le_refl _)⟩
      case measure => simp [intOf]
    · have bS0' : Blk wr w.heap.size ⟨ra, sb, sc, sd⟩ := bS0.out
      obtain ⟨s0, s1, s2, s3, s4, s5, s6, s7⟩ := bS0'.cells
      have bS1 : Blk (wr.setCell ⟨w.heap.size, 1, none⟩ (.int .u64 (rb : Int))) w.heap.size ⟨ra, rb, sc, sd⟩ := heap_setCell bS0'
      have bR1 : Blk (wr.setCell ⟨w.heap.size, 1, none⟩ (.int .u64 (rb : Int))) (w.heap.size + 2) noneB := (Below.heap_setCell _ _ _ _ (by simp)).trans bR0.out
      have bS1 := hid bS1
      have bR1 := hid bR1
      clear bS0'
      go_wp2
      go_roundw
      case rel => exact ⟨2, by omega, rfl, bS1, bR1, bl_set hbl _ _ _ (Nat.le_refl _)⟩
      case measure => simp [intOf]
    · have bS0' : Blk wr w.heap.size ⟨ra, rb, sc, sd⟩ := bS0.out
      obtain ⟨s0, s1, s2, s3, s4, s5, s6, s7⟩ := bS0'.cells
      have bS1 : Blk (wr.setCell ⟨w.heap.size, 2, none⟩ (.int .u64 (rc : Int))) w.heap.size ⟨ra, rb, rc, sd⟩ := heap_setCell bS0'
      have bR1 : Blk (wr.setCell ⟨w.heap.size, 2, none⟩ (.int .u64 (rc : Int))) (w.heap.size + 2) noneB := (Below.heap_setCell _ _ _ _ (by simp)).trans bR0.out
      have bS1 := hid bS1
      have bR1 := hid bR1
      clear bS0'
      go_wp2
      go_roundw
      case rel => exact ⟨3, by omega, rfl, bS1, bR1, bl_set hbl _ _ _ (Nat.le_refl _)⟩
      case measure => simp [intOf]
    · have bS0' : Blk wr w.heap.size ⟨ra, rb, rc, sd⟩ := bS0.out
      obtain ⟨s0, s1, s2, s3, s4, s5, s6, s7⟩ := bS0'.cells
      have bS1 : Blk (wr.setCell ⟨w.heap.size, 3, none⟩ (.int .u64 (rd : Int))) w.heap.size ⟨ra, rb, rc, rd⟩ := heap_setCell bS0'
      have bR1 : Blk (wr.setCell ⟨w.heap.size, 3, none⟩ (.int .u64 (rd : Int))) (w.heap.size + 2) noneB := (Below.heap_setCell _ _ _ _ (by simp)).trans bR0.out
      have bS1 := hid bS1
      have bR1 := hid bR1
      clear bS0'
      go_wp2
      go_roundw
      case rel => exact ⟨4, by omega, rfl, bS1, bR1, bl_set hbl _ _ _ (Nat.le_refl _)⟩
      case measure => simp [intOf]
    · obtain ⟨o0, o1, o2, o3, o4, o5, o6, o7⟩ := Blk.cells (show Blk wr w.heap.size ⟨ra, rb, rc, rd⟩ from bS0.out)
      obtain ⟨r0, r1, r2, r3, r4, r5, r6, r7⟩ := Blk.cells (sa := 0) (sb := 0) (sc := 0) (sd := 0) bR0.out
      go_wp2
      refine bodyPost_ret (v := .agg #[.int .u64 ra, .int .u64 rb, .int .u64 rc, .int .u64 rd]) (by simp [results, Tryz.results120, go_sem, r0, r1, r2, r3]) rfl ⟨rfl, bl_put hbl ⟨ra, rb, rc, rd⟩ (by omega)⟩

theorem not_u64 (n : Nat) (hn : n < 18446744073709551616) : bits .xor .u64 (if IntKind.u64.signed = true then -1 else IntKind.u64.max) (n : Int) = ((18446744073709551615 - n : Nat) : Int) := by
  rw [show (if IntKind.u64.signed = true then -1 else IntKind.u64.max) = ((18446744073709551615 : Nat) : Int) by decide, u64_xor_nat _ _ (by omega) hn, Nat.xor_comm, xor_all n hn]
set_option maxRecDepth 20000 in
set_option maxHeartbeats 1000000 in
theorem notC (sa sb sc sd : Nat) (w : World) (hS : Fit4 ⟨sa, sb, sc, sd⟩) :
    Calls Tryz.prog 37 #[valB ⟨sa, sb, sc, sd⟩] w fun e w' => e = .returned (valB (notB ⟨sa, sb, sc, sd⟩)) ∧ Below w.heap.size w w' := by
  rw [not_words _ hS]
  have k0 := not_u64 sa hS.1
  have k1 := not_u64 sb hS.2
  have k2 := not_u64 sc hS.3
  have k3 := not_u64 sd hS.4
  simp only
  generalize 18446744073709551615 - sa = ra at k0 ⊢
  generalize 18446744073709551615 - sb = rb at k1 ⊢
  generalize 18446744073709551615 - sc = rc at k2 ⊢
  generalize 18446744073709551615 - sd = rd at k3 ⊢
  clear hS
  have ix0 : ∀ u, (Instr.index 65 (.agg #[.int .u64 (sa : Int), .int .u64 (sb : Int), .int .u64 (sc : Int), .int .u64 (sd : Int)]) (.int .i64 0)).run Tryz.prog u = .ok (.int .u64 (sa : Int)) u := fun u => index4 sa sb sc sd 0 sa u rfl
  have ix1 : ∀ u, (Instr.index 65 (.agg #[.int .u64 (sa : Int), .int .u64 (sb : Int), .int .u64 (sc : Int), .int .u64 (sd : Int)]) (.int .i64 1)).run Tryz.prog u = .ok (.int .u64 (sb : Int)) u := fun u => index4 sa sb sc sd 1 sb u rfl
  have ix2 : ∀ u, (Instr.index 65 (.agg #[.int .u64 (sa : Int), .int .u64 (sb : Int), .int .u64 (sc : Int), .int .u64 (sd : Int)]) (.int .i64 2)).run Tryz.prog u = .ok (.int .u64 (sc : Int)) u := fun u => index4 sa sb sc sd 2 sc u rfl
  have ix3 : ∀ u, (Instr.index 65 (.agg #[.int .u64 (sa : Int), .int .u64 (sb : Int), .int .u64 (sc : Int), .int .u64 (sd : Int)]) (.int .i64 3)).run Tryz.prog u = .ok (.int .u64 (sd : Int)) u := fun u => index4 sa sb sc sd 3 sd u rfl
  go_enter Tryz.func37, Tryz.ntmps37
  go_wp2
  go_loopw [7] (fun i wr => ∃ k : Nat, k ≤ 4 ∧ i = .int .i64 k ∧ Hid (Blk wr (w.heap.size + 2) (mixW ⟨ra, rb, rc, rd⟩ ⟨0, 0, 0, 0⟩ k)) ∧ Hid (Blk wr (w.heap.size + 1) noneB) ∧ Below w.heap.size w wr) (fun i _ => 4 - (intOf i).toNat)
  case atStart => exact ⟨0, Nat.zero_le _, rfl, hid (three_blocks w _ _ _).2.2, hid (three_blocks w _ _ _).2.1, bl_step (bl_step (al' w _) (al' _ _)) (al' _ _)⟩
  case round =>
    obtain ⟨k, hk, rfl, bS0, bR0, hbl⟩ := hrel
    have hk5 : k = 0 ∨ k = 1 ∨ k = 2 ∨ k = 3 ∨ k = 4 := by omega
    rcases hk5 with rfl | rfl | rfl | rfl | rfl
    · have bS0' : Blk wr (w.heap.size + 2) ⟨0, 0, 0, 0⟩ := bS0.out
      obtain ⟨s0, s1, s2, s3, s4, s5, s6, s7⟩ := bS0'.cells
      have bS1 : Blk (wr.setCell ⟨w.heap.size + 2, 0, none⟩ (.int .u64 (ra : Int))) (w.heap.size + 2) ⟨ra, 0, 0, 0⟩ := heap_setCell bS0'
      have bR1 : Blk (wr.setCell ⟨w.heap.size + 2, 0, none⟩ (.int .u64 (ra : Int))) (w.heap.size + 1) noneB := (Below.heap_setCell _ _ _ _ (by simp)).trans bR0.out
      have bS1 := hid bS1
      have bR1 := hid bR1
      clear bS0'
      go_wp2
      go_roundw
      case rel => exact ⟨1, by omega, rfl, bS1, bR1, bl_set hbl _ _ _ (by omega)⟩
      case measure => simp [intOf]
    · have bS0' : Blk wr (w.heap.size + 2) ⟨ra, 0, 0, 0⟩ := bS0.out
      obtain ⟨s0, s1, s2, s3, s4, s5, s6, s7⟩ := bS0'.cells
      have bS1 : Blk (wr.setCell ⟨w.heap.size + 2, 1, none⟩ (.int .u64 (rb : Int))) (w.heap.size + 2) ⟨ra, rb, 0, 0⟩ := heap_setCell bS0'
      have bR1 : Blk (wr.setCell ⟨w.heap.size + 2, 1, none⟩ (.int .u64 (rb : Int))) (w.heap.size + 1) noneB := (Below.heap_setCell _ _ _ _ (by simp)).trans bR0.out
      have bS1 := hid bS1
      have bR1 := hid bR1
      clear bS0'
      go_wp2
      go_roundw
      case rel => exact ⟨2, by omega, rfl, bS1, bR1, bl_set hbl _ _ _ (by omega)⟩
      case measure => simp [intOf]
    · have bS0' : Blk wr (w.heap.size + 2) ⟨ra, rb, 0, 0⟩ := bS0.out
      obtain ⟨s0, s1, s2, s3, s4, s5, s6, s7⟩ := bS0'.cells
      have bS1 : Blk (wr.setCell ⟨w.heap.size + 2, 2, none⟩ (.int .u64 (rc : Int))) (w.heap.size + 2) ⟨ra, rb, rc, 0⟩ := heap_setCell bS0'
      have bR1 : Blk (wr.setCell ⟨w.heap.size + 2, 2, none⟩ (.int .u64 (rc : Int))) (w.heap.size + 1) noneB := (Below.heap_setCell _ _ _ _ (by simp)).trans bR0.out
      have bS1 := hid bS1
      have bR1 := hid bR1
      clear bS0'
      go_wp2
      go_roundw
      case rel => exact ⟨3, by omega, rfl, bS1, bR1, bl_set hbl _ _ _ (by omega)⟩
      case measure => simp [intOf]
    · have bS0' : Blk wr (w.heap.size + 2) ⟨ra, rb, rc, 0⟩ := bS0.out
      obtain ⟨s0, s1, s2, s3, s4, s5, s6, s7⟩ := bS0'.cells
      have bS1 : Blk (wr.setCell ⟨w.heap.size + 2, 3, none⟩ (.int .u64 (rd : Int))) (w.heap.size + 2) ⟨ra, rb, rc, rd⟩ := heap_setCell bS0'
      have bR1 : Blk (wr.setCell ⟨w.heap.size + 2, 3, none⟩ (.int .u64 (rd : Int))) (w.heap.size + 1) noneB := (Below.heap_setCell _ _ _ _ (by simp)).trans bR0.out
      have bS1 := hid bS1
      have bR1 := hid bR1
      clear bS0'
      go_wp2
      go_roundw
      case rel => exact ⟨4, by omega, rfl, bS1, bR1, bl_set hbl _ _ _ (by omega)⟩
      case measure => simp [intOf]
    · obtain ⟨o0, o1, o2, o3, o4, o5, o6, o7⟩ := Blk.cells (show Blk wr (w.heap.size + 2) ⟨ra, rb, rc, rd⟩ from bS0.out)
      obtain ⟨r0, r1, r2, r3, r4, r5, r6, r7⟩ := Blk.cells (sa := 0) (sb := 0) (sc := 0) (sd := 0) bR0.out
      go_wp2
      refine bodyPost_ret (v := .agg #[.int .u64 ra, .int .u64 rb, .int .u64 rc, .int .u64 rd]) (by simp [results, Tryz.results37, go_sem, r0, r1, r2, r3]) rfl ⟨rfl, bl_put hbl ⟨ra, rb, rc, rd⟩ (by omega)⟩


end Go.Proofs.YtonlcnmlklaicaaGreatDoor
namespace Go.Proofs.YtonlcnmlklaicaaGreatDoor
open Go.RowKit

set_option maxRecDepth 20000 in
/-- the word of a byte: one bit -/
theorem bitC (x : Nat) (w : World) (hx : x < 256) :
    Calls Tryz.prog 61 #[.int .u8 (x : Int)] w fun e w' => e = .returned (.int .u64 ((2 ^ (x % 64) : Nat) : Int)) ∧ w' = w := by
  have hp := wrap_pow (j := x % 64) (by omega)
  have hr : (x : Int) % 64 = ((x % 64 : Nat) : Int) := by omega
  have hrl : x % 64 < 64 := by omega
  generalize hm : 2 ^ (x % 64) = m at hp ⊢
  generalize x % 64 = r at hr hrl hp hm
  go_enter Tryz.func61, Tryz.ntmps61
  go_wp2
  go_ret
  exact ⟨rfl, rfl⟩

set_option maxRecDepth 20000 in
set_option maxHeartbeats 1000000 in
theorem oneC (x : Nat) (w : World) (hx : x < 256) :
    Calls Tryz.prog 113 #[.int .u8 (x : Int)] w fun e w' => e = .returned (valB (spanB x x)) ∧ Below w.heap.size w w' := by
  rw [one_word x hx]
  have GB := hid (fun u => bitC x u hx)
  have hq : (x : Int) / 64 = ((x / 64 : Nat) : Int) := by omega
  have hql : x / 64 = 0 ∨ x / 64 = 1 ∨ x / 64 = 2 ∨ x / 64 = 3 := by omega
  generalize hm : 2 ^ (x % 64) = m at GB ⊢
  generalize x / 64 = q at hq hql ⊢
  clear hm
  rcases hql with rfl | rfl | rfl | rfl
  · go_enter Tryz.func113, Tryz.ntmps113
    go_wp2_with (go_at_call 61; refine (GB.out _).mono ?_; rintro e u1 ⟨rfl, hu⟩; subst u1)
    exact bodyPost_ret (v := .agg #[.int .u64 (m : Int), .int .u64 0, .int .u64 0, .int .u64 0]) (by simp [results, Tryz.results113, go_sem]) rfl ⟨rfl, bl_step (al' w _) (al' _ _)⟩
  · go_enter Tryz.func113, Tryz.ntmps113
    go_wp2_with (go_at_call 61; refine (GB.out _).mono ?_; rintro e u1 ⟨rfl, hu⟩; subst u1)
    exact bodyPost_ret (v := .agg #[.int .u64 0, .int .u64 (m : Int), .int .u64 0, .int .u64 0]) (by simp [results, Tryz.results113, go_sem]) rfl ⟨rfl, bl_step (al' w _) (al' _ _)⟩
  · go_enter Tryz.func113, Tryz.ntmps113
    go_wp2_with (go_at_call 61; refine (GB.out _).mono ?_; rintro e u1 ⟨rfl, hu⟩; subst u1)
    exact bodyPost_ret (v := .agg #[.int .u64 0, .int .u64 0, .int .u64 (m : Int), .int .u64 0]) (by simp [results, Tryz.results113, go_sem]) rfl ⟨rfl, bl_step (al' w _) (al' _ _)⟩
  · go_enter Tryz.func113, Tryz.ntmps113
    go_wp2_with (go_at_call 61; refine (GB.out _).mono ?_; rintro e u1 ⟨rfl, hu⟩; subst u1)
    exact bodyPost_ret (v := .agg #[.int .u64 0, .int .u64 0, .int .u64 0, .int .u64 (m : Int)]) (by simp [results, Tryz.results113, go_sem]) rfl ⟨rfl, bl_step (al' w _) (al' _ _)⟩

end Go.Proofs.YtonlcnmlklaicaaGreatDoor
namespace Go.Proofs.YtonlcnmlklaicaaGreatDoor
open Go.RowKit

/-- a set to which those for which something holds are put, up to a byte -/
def addN (S : W4) (p : Nat → Bool) : Nat → W4
  | 0 => S
  | k + 1 => if p k then putB (addN S p k) k else addN S p k
theorem addN_yes {S : W4} {p : Nat → Bool} {k : Nat} (h : p k = true) : addN S p (k + 1) = putB (addN S p k) k := by rw [addN, if_pos h]
theorem addN_fit {S : W4} (h : Fit4 S) (p : Nat → Bool) : ∀ k, Fit4 (addN S p k)
  | 0 => h
  | k + 1 => by
    unfold addN
    cases p k with
    | true => simpa using putB_fit (addN_fit h p k) k
    | false => simpa using addN_fit h p k
theorem addN_has (S : W4) (p : Nat → Bool) : ∀ k, k ≤ 256 → ∀ x, x < 256 → hasB (addN S p k) x = (hasB S x || (decide (x < k) && p x))
  | 0, _, x, _ => by rw [addN]; simp
  | k + 1, hk, x, hx => by
    have ih := addN_has S p k (by omega) x hx
    unfold addN
    by_cases e : x = k
    · subst e
      cases hp : p x with
      | true => simp [putB_has _ x x hx hx]
      | false => simp [ih]
    · have h1 : decide (x < k + 1) = decide (x < k) := by rw [decide_eq_decide]; omega
      rw [h1, ← ih]
      cases p k with
      | true => simp [putB_has _ k x (by omega) hx, e]
      | false => simp
theorem span_low (f k : Nat) (h : k ≤ f) (hf : f ≤ 256) : addN noneB (fun x => decide (f ≤ x)) k = noneB :=
  set_ext (addN_fit noneB_fit _ _) noneB_fit fun x hx => by
    rw [addN_has _ _ k (by omega) x hx, noneB_has]
    have : (decide (x < k) && decide (f ≤ x)) = false := by
      by_cases h1 : x < k
      · have h2 : ¬ f ≤ x := by omega
        simp [h2]
      · simp [h1]
    rw [this]; rfl
theorem span_end (f t k : Nat) (ht : t < 256) (h : k = t + 1 ∨ (t < f ∧ k = f)) (hf : f < 256) : addN noneB (fun x => decide (f ≤ x)) k = spanB f t := by
  refine mkB_eq (addN_fit noneB_fit _ _) fun x hx => ?_
  rw [addN_has _ _ k (by omega) x hx, noneB_has, Bool.false_or, Bool.eq_iff_iff]
  simp only [Bool.and_eq_true, decide_eq_true_eq]
  omega

theorem set_w (S : W4) (i v x : Nat) (hi : i < 4) (hx : x < 256) : hasB (S.set i v) x = if x / 64 = i then v.testBit (x % 64) else hasB S x := by
  unfold hasB
  by_cases e : x / 64 = i
  · rw [if_pos e, e, W4.set_same]
  · rw [if_neg e, W4.set_other _ _ _ _ hi (by omega) e]
/-- one more, by an or -/
theorem putB_or {Q : W4} (hQ : Fit4 Q) (k : Nat) (hk : k < 256) : putB Q k = Q.set (k / 64) (Q.w (k / 64) ||| 2 ^ (k % 64)) := by
  have h2 : 2 ^ (k % 64) < 18446744073709551616 := Nat.pow_lt_pow_right (a := 2) (by omega) (by omega : k % 64 < 64)
  refine set_ext (putB_fit hQ k) (hQ.set _ _ (Nat.or_lt_two_pow (n := 64) (hQ.w _) h2)) fun x hx => ?_
  rw [putB_has Q k x hk hx, set_w _ _ _ _ (by omega) hx, Nat.testBit_or, Nat.testBit_two_pow]
  by_cases e : x / 64 = k / 64
  · rw [if_pos e, ← e]
    unfold hasB
    congr 1
    rw [decide_eq_decide]
    omega
  · rw [if_neg e]
    have : ¬ x = k := fun h => e (by rw [h])
    simp [this]

set_option maxRecDepth 20000 in
set_option maxHeartbeats 4000000 in
theorem spanC (f t : Nat) (w : World) (hf : f < 256) (ht : t < 256) :
    Calls Tryz.prog 125 #[.int .u8 (f : Int), .int .u8 (t : Int)] w fun e w' => e = .returned (valB (spanB f t)) ∧ Below w.heap.size w w' := by
  obtain ⟨p, hp⟩ : ∃ p : Nat → Bool, Hid (p = fun x => decide (f ≤ x)) := ⟨_, hid rfl⟩
  obtain ⟨R, hR⟩ : ∃ R, Hid (spanB f t = R) := ⟨_, hid rfl⟩
  have hlast : Hid (∀ k, (k = t + 1 ∨ (t < f ∧ k = f)) → addN noneB p k = R) := hid (fun k hk => by rw [hp.out, ← hR.out]; exact span_end f t k ht hk hf)
  have hfirst : Hid (addN noneB p f = noneB) := hid (by rw [hp.out]; exact span_low f f (Nat.le_refl _) (by omega))
  have hyes : Hid (∀ k, f ≤ k → p k = true) := hid (fun k hk => by rw [hp.out]; exact decide_eq_true hk)
  rw [show spanB f t = R from hR.out]
  have hfit := hid (addN_fit noneB_fit p)
  obtain ⟨ra, rb, rc, rd⟩ := R
  clear hR hp
  go_enter Tryz.func125, Tryz.ntmps125
  go_wp2
  go_loopw [6] (fun i wr => ∃ k : Nat, f ≤ k ∧ (k ≤ t + 1 ∨ k = f) ∧ i = .int .i64 k ∧ Hid (Blk wr w.heap.size noneB) ∧ Hid (Blk wr (w.heap.size + 1) (addN noneB p k)) ∧ Below w.heap.size w wr) (fun i _ => 256 - (intOf i).toNat)
  case atStart => exact ⟨f, Nat.le_refl _, Or.inr rfl, by go_num, hid (two_blocks w _ _).1, by rw [hfirst.out]; exact hid (two_blocks w _ _).2, bl_step (al' w _) (al' _ _)⟩
  case round =>
    obtain ⟨k, hk, hk2, rfl, bR0, bO0, hbl⟩ := hrel
    have htw : IntKind.i64.wrap (t : Int) = (t : Int) := by rw [IntKind.wrap_i64]; omega
    by_cases hlt : k ≤ t
    · have hltz : (k : Int) ≤ (t : Int) := by omega
      have hQ := hid (hfit.out k)
      have hy := @addN_yes noneB p k (hyes.out k hk)
      generalize addN noneB p k = Q at hQ hy bO0
      rw [putB_or hQ.out k (by omega)] at hy
      have hk8 : IntKind.u8.wrap (k : Int) = (k : Int) := by rw [IntKind.wrap_u8]; omega
      have hqz : (k : Int) / 64 = ((k / 64 : Nat) : Int) := by omega
      have hql : k / 64 = 0 ∨ k / 64 = 1 ∨ k / 64 = 2 ∨ k / 64 = 3 := by omega
      have GB := hid (fun u => bitC k u (by omega))
      have hm : 2 ^ (k % 64) < 18446744073709551616 := Nat.pow_lt_pow_right (a := 2) (by omega) (by omega : k % 64 < 64)
      generalize 2 ^ (k % 64) = m at hy GB hm
      generalize k / 64 = q at hy hqz hql
      have hbd : Below wr.heap.size wr wr.drew := (Below.refl _ _).drew
      have bR1 := hid (bR0.out.keep hbd)
      have bO1 := hid (bO0.out.keep hbd)
      have hbl1 := bl_step hbl hbd
      obtain ⟨a, b, c, d⟩ := Q
      obtain ⟨o0, o1, o2, o3, o4, o5, o6, o7⟩ := bO1.out.cells
      clear hfit hyes hlast
      rcases hql with rfl | rfl | rfl | rfl
      · have hor := u64_or_nat a m hQ.out.a hm
        have hy' : Hid (addN noneB p (k + 1) = ⟨a ||| m, b, c, d⟩) := hid hy
        generalize a ||| m = n at hor hy'
        clear hy hm
        have bO2 : Hid (Blk (wr.drew.setCell ⟨w.heap.size + 1, 0, none⟩ (.int .u64 (n : Int))) (w.heap.size + 1) ⟨n, b, c, d⟩) := hid (heap_setCell bO1.out)
        have bR2 : Hid (Blk (wr.drew.setCell ⟨w.heap.size + 1, 0, none⟩ (.int .u64 (n : Int))) w.heap.size noneB) := hid ((Below.heap_setCell _ _ _ _ (by simp)).trans bR1.out)
        go_wp2_with fail
        go_region_with (first
          | (go_at_call 61; refine (GB.out _).mono ?_; rintro e u1 ⟨rfl, hu⟩; subst u1)
          | fail)
        all_goals
          go_wp2
          exact ⟨⟨k + 1, by omega, by omega, by go_num, bR2, by rw [hy'.out]; exact bO2, bl_set hbl1 _ _ _ (by omega)⟩, by simp [intOf]; omega⟩
      · have hor := u64_or_nat b m hQ.out.b hm
        have hy' : Hid (addN noneB p (k + 1) = ⟨a, b ||| m, c, d⟩) := hid hy
        generalize b ||| m = n at hor hy'
        clear hy hm
        have bO2 : Hid (Blk (wr.drew.setCell ⟨w.heap.size + 1, 1, none⟩ (.int .u64 (n : Int))) (w.heap.size + 1) ⟨a, n, c, d⟩) := hid (heap_setCell bO1.out)
        have bR2 : Hid (Blk (wr.drew.setCell ⟨w.heap.size + 1, 1, none⟩ (.int .u64 (n : Int))) w.heap.size noneB) := hid ((Below.heap_setCell _ _ _ _ (by simp)).trans bR1.out)
        go_wp2_with fail
        go_region_with (first
          | (go_at_call 61; refine (GB.out _).mono ?_; rintro e u1 ⟨rfl, hu⟩; subst u1)
          | fail)
        all_goals
          go_wp2
          exact ⟨⟨k + 1, by omega, by omega, by go_num, bR2, by rw [hy'.out]; exact bO2, bl_set hbl1 _ _ _ (by omega)⟩, by simp [intOf]; omega⟩
      · have hor := u64_or_nat c m hQ.out.c hm
        have hy' : Hid (addN noneB p (k + 1) = ⟨a, b, c ||| m, d⟩) := hid hy
        generalize c ||| m = n at hor hy'
        clear hy hm
        have bO2 : Hid (Blk (wr.drew.setCell ⟨w.heap.size + 1, 2, none⟩ (.int .u64 (n : Int))) (w.heap.size + 1) ⟨a, b, n, d⟩) := hid (heap_setCell bO1.out)
        have bR2 : Hid (Blk (wr.drew.setCell ⟨w.heap.size + 1, 2, none⟩ (.int .u64 (n : Int))) w.heap.size noneB) := hid ((Below.heap_setCell _ _ _ _ (by simp)).trans bR1.out)
        go_wp2_with fail
        go_region_with (first
          | (go_at_call 61; refine (GB.out _).mono ?_; rintro e u1 ⟨rfl, hu⟩; subst u1)
          | fail)
        all_goals
          go_wp2
          exact ⟨⟨k + 1, by omega, by omega, by go_num, bR2, by rw [hy'.out]; exact bO2, bl_set hbl1 _ _ _ (by omega)⟩, by simp [intOf]; omega⟩
      · have hor := u64_or_nat d m hQ.out.d hm
        have hy' : Hid (addN noneB p (k + 1) = ⟨a, b, c, d ||| m⟩) := hid hy
        generalize d ||| m = n at hor hy'
        clear hy hm
        have bO2 : Hid (Blk (wr.drew.setCell ⟨w.heap.size + 1, 3, none⟩ (.int .u64 (n : Int))) (w.heap.size + 1) ⟨a, b, c, n⟩) := hid (heap_setCell bO1.out)
        have bR2 : Hid (Blk (wr.drew.setCell ⟨w.heap.size + 1, 3, none⟩ (.int .u64 (n : Int))) w.heap.size noneB) := hid ((Below.heap_setCell _ _ _ _ (by simp)).trans bR1.out)
        go_wp2_with fail
        go_region_with (first
          | (go_at_call 61; refine (GB.out _).mono ?_; rintro e u1 ⟨rfl, hu⟩; subst u1)
          | fail)
        all_goals
          go_wp2
          exact ⟨⟨k + 1, by omega, by omega, by go_num, bR2, by rw [hy'.out]; exact bO2, bl_set hbl1 _ _ _ (by omega)⟩, by simp [intOf]; omega⟩
    · have hltz : ¬ (k : Int) ≤ (t : Int) := by omega
      rw [hlast.out k (by omega)] at bO0
      obtain ⟨o0, o1, o2, o3, o4, o5, o6, o7⟩ := bO0.out.cells
      obtain ⟨r0, r1, r2, r3, r4, r5, r6, r7⟩ := Blk.cells (sa := 0) (sb := 0) (sc := 0) (sd := 0) bR0.out
      clear hfit hyes
      go_wp2
      refine bodyPost_ret (v := .agg #[.int .u64 ra, .int .u64 rb, .int .u64 rc, .int .u64 rd]) (by simp [results, Tryz.results125, go_sem, r0, r1, r2, r3]) rfl ⟨rfl, bl_put hbl ⟨ra, rb, rc, rd⟩ (by omega)⟩


end Go.Proofs.YtonlcnmlklaicaaGreatDoor
