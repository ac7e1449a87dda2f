/- Or, Not of package bytes. bit, One of package bytes. Has of package bytes. -/
import Derived.Test.YtlpbeieljjgbaaaGreatDoorJ2
import Derived.Test.YtlpbeieljjgbaaaGreatDoorJ24
import Derived.Laws.BitsAllLaws
import Derived.Laws.Bits128
import Derived.BigQuiet
import Derived.Deep.RegionHeld3
namespace Go.Proofs.YtlpbeieljjgbaaaGreatDoor
open Go.RowKit

/-- the first k words of the one, the rest of the other -/
def mixW (R S : W4) (k : Nat) : W4 := ⟨if 0 < k then R.a else S.a, if 1 < k then R.b else S.b, if 2 < k then R.c else S.c, if 3 < k then R.d else S.d⟩

set_option maxRecDepth 20000 in
theorem index4 (x0 x1 x2 x3 : Int) (i : Nat) (v : Int) (w : World) (hv : [x0, x1, x2, x3][i]? = some v) :
    (Instr.index 80 (.agg #[.int .u64 x0, .int .u64 x1, .int .u64 x2, .int .u64 x3]) (.int .i64 (i : Int))).run Tryz.prog w = .ok (.int .u64 v) w := by
  have hi : i = 0 ∨ i = 1 ∨ i = 2 ∨ i = 3 := by
    have : i < 4 := by
      rcases Nat.lt_or_ge i 4 with h | h
      · exact h
      · rw [List.getElem?_eq_none (by simpa using h)] at hv; cases hv
    omega
  rcases hi with rfl | rfl | rfl | rfl
  all_goals
    simp at hv
    subst hv
    simp [Instr.index, run_underlying Tryz.underlying80, asIntOf, go_sem, part, isAgg, run_underlying Tryz.underlying78]

set_option maxRecDepth 20000 in
set_option maxHeartbeats 1000000 in
theorem orC (sa sb sc sd ta tb tc td : Nat) (w : World) (hS : Fit4 ⟨sa, sb, sc, sd⟩) (hT : Fit4 ⟨ta, tb, tc, td⟩) :
    Calls Tryz.prog 128 #[valB ⟨sa, sb, sc, sd⟩, valB ⟨ta, tb, tc, td⟩] w fun e w' => e = .returned (valB (orB ⟨sa, sb, sc, sd⟩ ⟨ta, tb, tc, td⟩)) ∧ Below w.heap.size w w' := by
  rw [or_words _ _ hS hT]
  have k0 := u64_or_nat sa ta hS.1 hT.1
  have k1 := u64_or_nat sb tb hS.2 hT.2
  have k2 := u64_or_nat sc tc hS.3 hT.3
  have k3 := u64_or_nat sd td hS.4 hT.4
  simp only
  generalize sa ||| ta = ra at k0 ⊢
  generalize sb ||| tb = rb at k1 ⊢
  generalize sc ||| tc = rc at k2 ⊢
  generalize sd ||| td = rd at k3 ⊢
  clear hS hT
  have ix0 : ∀ u, (Instr.index 80 (.agg #[.int .u64 (ta : Int), .int .u64 (tb : Int), .int .u64 (tc : Int), .int .u64 (td : Int)]) (.int .i64 0)).run Tryz.prog u = .ok (.int .u64 (ta : Int)) u := fun u => index4 ta tb tc td 0 ta u rfl
  have ix1 : ∀ u, (Instr.index 80 (.agg #[.int .u64 (ta : Int), .int .u64 (tb : Int), .int .u64 (tc : Int), .int .u64 (td : Int)]) (.int .i64 1)).run Tryz.prog u = .ok (.int .u64 (tb : Int)) u := fun u => index4 ta tb tc td 1 tb u rfl
  have ix2 : ∀ u, (Instr.index 80 (.agg #[.int .u64 (ta : Int), .int .u64 (tb : Int), .int .u64 (tc : Int), .int .u64 (td : Int)]) (.int .i64 2)).run Tryz.prog u = .ok (.int .u64 (tc : Int)) u := fun u => index4 ta tb tc td 2 tc u rfl
  have ix3 : ∀ u, (Instr.index 80 (.agg #[.int .u64 (ta : Int), .int .u64 (tb : Int), .int .u64 (tc : Int), .int .u64 (td : Int)]) (.int .i64 3)).run Tryz.prog u = .ok (.int .u64 (td : Int)) u := fun u => index4 ta tb tc td 3 td u rfl
  go_enter Tryz.func128, Tryz.ntmps128
  go_wp2
  go_loopw [8] (fun i wr => ∃ k : Nat, k ≤ 4 ∧ i = .int .i64 k ∧ Hid (Blk wr w.heap.size (mixW ⟨ra, rb, rc, rd⟩ ⟨sa, sb, sc, sd⟩ k)) ∧ Hid (Blk wr (w.heap.size + 2) noneB) ∧ Below w.heap.size w wr) (fun i _ => 4 - (intOf i).toNat)
  case atStart => exact ⟨0, Nat.zero_le _, rfl, hid (three_blocks w _ _ _).1, hid (three_blocks w _ _ _).2.2, bl_step (bl_step (al' w _) (al' _ _)) (al' _ _)⟩
  case round =>
    obtain ⟨k, hk, rfl, bS0, bR0, hbl⟩ := hrel
    have hk5 : k = 0 ∨ k = 1 ∨ k = 2 ∨ k = 3 ∨ k = 4 := by omega
    rcases hk5 with rfl | rfl | rfl | rfl | rfl
    · have bS0' : Blk wr w.heap.size ⟨sa, sb, sc, sd⟩ := bS0.out
      obtain ⟨s0, s1, s2, s3, s4, s5, s6, s7⟩ := bS0'.cells
      have bS1 : Blk (wr.setCell ⟨w.heap.size, 0, none⟩ (.int .u64 (ra : Int))) w.heap.size ⟨ra, sb, sc, sd⟩ := heap_setCell bS0'
      have bR1 : Blk (wr.setCell ⟨w.heap.size, 0, none⟩ (.int .u64 (ra : Int))) (w.heap.size + 2) noneB := (Below.heap_setCell _ _ _ _ (by simp)).trans bR0.out
      have bS1 := hid bS1
      have bR1 := hid bR1
      clear bS0'
      go_wp2
      go_roundw
      case rel => exact ⟨1, by omega, rfl, bS1, bR1, bl_set hbl _ _ _ (Nat.le_refl _)⟩
      case measure => simp [intOf]
    · have bS0' : Blk wr w.heap.size ⟨ra, sb, sc, sd⟩ := bS0.out
      obtain ⟨s0, s1, s2, s3, s4, s5, s6, s7⟩ := bS0'.cells
      have bS1 : Blk (wr.setCell ⟨w.heap.size, 1, none⟩ (.int .u64 (rb : Int))) w.heap.size ⟨ra, rb, sc, sd⟩ := heap_setCell bS0'
      have bR1 : Blk (wr.setCell ⟨w.heap.size, 1, none⟩ (.int .u64 (rb : Int))) (w.heap.size + 2) noneB := (Below.heap_setCell _ _ _ _ (by simp)).trans bR0.out
      have bS1 := hid bS1
      have bR1 := hid bR1
      clear bS0'
      go_wp2
      go_roundw
      case rel => exact ⟨2, by omega, rfl, bS1, bR1, bl_set hbl _ _ _ (Nat.le_refl _)⟩
      case measure => simp [intOf]
    · have bS0' : Blk wr w.heap.size ⟨ra, rb, sc, sd⟩ := bS0.out
      obtain ⟨s0, s1, s2, s3, s4, s5, s6, s7⟩ := bS0'.cells
      have bS1 : Blk (wr.setCell ⟨w.heap.size, 2, none⟩ (.int .u64 (rc : Int))) w.heap.size ⟨ra, rb, rc, sd⟩ := heap_setCell bS0'
      have bR1 : Blk (wr.setCell ⟨w.heap.size, 2, none⟩ (.int .u64 (rc : Int))) (w.heap.size + 2) noneB := (Below.heap_setCell _ _ _ _ (by simp)).trans bR0.out
      have bS1 := hid bS1
      have bR1 := hid bR1
      clear bS0'
      go_wp2
      go_roundw
      case rel => exact ⟨3, by omega, rfl, bS1, bR1, bl_set hbl _ _ _ (Nat.le_refl _)⟩
      case measure => simp [intOf]
    · have bS0' : Blk wr w.heap.size ⟨ra, rb, rc, sd⟩ := bS0.out
      obtain ⟨s0, s1, s2, s3, s4, s5, s6, s7⟩ := bS0'.cells
      have bS1 : Blk (wr.setCell ⟨w.heap.size, 3, none⟩ (.int .u64 (rd : Int))) w.heap.size ⟨ra, rb, rc, rd⟩ := heap_setCell bS0'
      have bR1 : Blk (wr.setCell ⟨w.heap.size, 3, none⟩ (.int .u64 (rd : Int))) (w.heap.size + 2) noneB := (Below.heap_setCell _ _ _ _ (by simp)).trans bR0.out
      have bS1 := hid bS1
      have bR1 := hid bR1
      clear bS0'
      go_wp2
      go_roundw
      case rel => exact ⟨4, by omega, rfl, bS1, bR1, bl_set hbl _ _ _ (Nat.le_refl _)⟩
      case measure => simp [intOf]
    · obtain ⟨o0, o1, o2, o3, o4, o5, o6, o7⟩ := Blk.cells (show Blk wr w.heap.size ⟨ra, rb, rc, rd⟩ from bS0.out)
      obtain ⟨r0, r1, r2, r3, r4, r5, r6, r7⟩ := Blk.cells (sa := 0) (sb := 0) (sc := 0) (sd := 0) bR0.out
      go_wp2
      refine bodyPost_ret (v := .agg #[.int .u64 ra, .int .u64 rb, .int .u64 rc, .int .u64 rd]) (by simp [results, Tryz.results128, go_sem, r0, r1, r2, r3]) rfl ⟨rfl, bl_put hbl ⟨ra, rb, rc, rd⟩ (by omega)⟩

theorem not_u64 (n : Nat) (hn : n < 18446744073709551616) : bits .xor .u64 (if IntKind.u64.signed = true then -1 else IntKind.u64.max) (n : Int) = ((18446744073709551615 - n : Nat) : Int) := by
  rw [show (if IntKind.u64.signed = true then -1 else IntKind.u64.max) = ((18446744073709551615 : Nat) : Int) by decide, u64_xor_nat _ _ (by omega) hn, Nat.xor_comm, xor_all n hn]
set_option maxRecDepth 20000 in
set_option maxHeartbeats 1000000 in
theorem notC (sa sb sc sd : Nat) (w : World) (hS : Fit4 ⟨sa, sb, sc, sd⟩) :
    Calls Tryz.prog 40 #[valB ⟨sa, sb, sc, sd⟩] w fun e w' => e = .returned (valB (notB ⟨sa, sb, sc, sd⟩)) ∧ Below w.heap.size w w' := by
  rw [not_words _ hS]
  have k0 := not_u64 sa hS.1
  have k1 := not_u64 sb hS.2
  have k2 := not_u64 sc hS.3
  have k3 := not_u64 sd hS.4
  simp only
  generalize 18446744073709551615 - sa = ra at k0 ⊢
  generalize 18446744073709551615 - sb = rb at k1 ⊢
  generalize 18446744073709551615 - sc = rc at k2 ⊢
  generalize 18446744073709551615 - sd = rd at k3 ⊢
  clear hS
  have ix0 : ∀ u, (Instr.index 80 (.agg #[.int .u64 (sa : Int), .int .u64 (sb : Int), .int .u64 (sc : Int), .int .u64 (sd : Int)]) (.int .i64 0)).run Tryz.prog u = .ok (.int .u64 (sa : Int)) u := fun u => index4 sa sb sc sd 0 sa u rfl
  have ix1 : ∀ u, (Instr.index 80 (.agg #[.int .u64 (sa : Int), .int .u64 (sb : Int), .int .u64 (sc : Int), .int .u64 (sd : Int)]) (.int .i64 1)).run Tryz.prog u = .ok (.int .u64 (sb : Int)) u := fun u => index4 sa sb sc sd 1 sb u rfl
  have ix2 : ∀ u, (Instr.index 80 (.agg #[.int .u64 (sa : Int), .int .u64 (sb : Int), .int .u64 (sc : Int), .int .u64 (sd : Int)]) (.int .i64 2)).run Tryz.prog u = .ok (.int .u64 (sc : Int)) u := fun u => index4 sa sb sc sd 2 sc u rfl
  have ix3 : ∀ u, (Instr.index 80 (.agg #[.int .u64 (sa : Int), .int .u64 (sb : Int), .int .u64 (sc : Int), .int .u64 (sd : Int)]) (.int .i64 3)).run Tryz.prog u = .ok (.int .u64 (sd : Int)) u := fun u => index4 sa sb sc sd 3 sd u rfl
  go_enter Tryz.func40, Tryz.ntmps40
  go_wp2
  go_loopw [7] (fun i wr => ∃ k : Nat, k ≤ 4 ∧ i = .int .i64 k ∧ Hid (Blk wr (w.heap.size + 2) (mixW ⟨ra, rb, rc, rd⟩ ⟨0, 0, 0, 0⟩ k)) ∧ Hid (Blk wr (w.heap.size + 1) noneB) ∧ Below w.heap.size w wr) (fun i _ => 4 - (intOf i).toNat)
  case atStart => exact ⟨0, Nat.zero_le _, rfl, hid (three_blocks w _ _ _).2.2, hid (three_blocks w _ _ _).2.1, bl_step (bl_step (al' w _) (al' _ _)) (al' _ _)⟩
  case round =>
    obtain ⟨k, hk, rfl, bS0, bR0, hbl⟩ := hrel
    have hk5 : k = 0 ∨ k = 1 ∨ k = 2 ∨ k = 3 ∨ k = 4 := by omega
    rcases hk5 with rfl | rfl | rfl | rfl | rfl
    · have bS0' : Blk wr (w.heap.size + 2) ⟨0, 0, 0, 0⟩ := bS0.out
      obtain ⟨s0, s1, s2, s3, s4, s5, s6, s7⟩ := bS0'.cells
      have bS1 : Blk (wr.setCell ⟨w.heap.size + 2, 0, none⟩ (.int .u64 (ra : Int))) (w.heap.size + 2) ⟨ra, 0, 0, 0⟩ := heap_setCell bS0'
      have bR1 : Blk (wr.setCell ⟨w.heap.size + 2, 0, none⟩ (.int .u64 (ra : Int))) (w.heap.size + 1) noneB := (Below.heap_setCell _ _ _ _ (by simp)).trans bR0.out
      have bS1 := hid bS1
      have bR1 := hid bR1
      clear bS0'
      go_wp2
      go_roundw
      case rel => exact ⟨1, by omega, rfl, bS1, bR1, bl_set hbl _ _ _ (by omega)⟩
      case measure => simp [intOf]
    · have bS0' : Blk wr (w.heap.size + 2) ⟨ra, 0, 0, 0⟩ := bS0.out
      obtain ⟨s0, s1, s2, s3, s4, s5, s6, s7⟩ := bS0'.cells
      have bS1 : Blk (wr.setCell ⟨w.heap.size + 2, 1, none⟩ (.int .u64 (rb : Int))) (w.heap.size + 2) ⟨ra, rb, 0, 0⟩ := heap_setCell bS0'
      have bR1 : Blk (wr.setCell ⟨w.heap.size + 2, 1, none⟩ (.int .u64 (rb : Int))) (w.heap.size + 1) noneB := (Below.heap_setCell _ _ _ _ (by simp)).trans bR0.out
      have bS1 := hid bS1
      have bR1 := hid bR1
      clear bS0'
      go_wp2
      go_roundw
      case rel => exact ⟨2, by omega, rfl, bS1, bR1, bl_set hbl _ _ _ (by omega)⟩
      case measure => simp [intOf]
    · have bS0' : Blk wr (w.heap.size + 2) ⟨ra, rb, 0, 0⟩ := bS0.out
      obtain ⟨s0, s1, s2, s3, s4, s5, s6, s7⟩ := bS0'.cells
      have bS1 : Blk (wr.setCell ⟨w.heap.size + 2, 2, none⟩ (.int .u64 (rc : Int))) (w.heap.size + 2) ⟨ra, rb, rc, 0⟩ := heap_setCell bS0'
      have bR1 : Blk (wr.setCell ⟨w.heap.size + 2, 2, none⟩ (.int .u64 (rc : Int))) (w.heap.size + 1) noneB := (Below.heap_setCell _ _ _ _ (by simp)).trans bR0.out
      have bS1 := hid bS1
      have bR1 := hid bR1
      clear bS0'
      go_wp2
      go_roundw
      case rel => exact ⟨3, by omega, rfl, bS1, bR1, bl_set hbl _ _ _ (by omega)⟩
      case measure => simp [intOf]
    · have bS0' : Blk wr (w.heap.size + 2) ⟨ra, rb, rc, 0⟩ := bS0.out
      obtain ⟨s0, s1, s2, s3, s4, s5, s6, s7⟩ := bS0'.cells
      have bS1 : Blk (wr.setCell ⟨w.heap.size + 2, 3, none⟩ (.int .u64 (rd : Int))) (w.heap.size + 2) ⟨ra, rb, rc, rd⟩ := heap_setCell bS0'
      have bR1 : Blk (wr.setCell ⟨w.heap.size + 2, 3, none⟩ (.int .u64 (rd : Int))) (w.heap.size + 1) noneB := (Below.heap_setCell _ _ _ _ (by simp)).trans bR0.out
      have bS1 := hid bS1
      have bR1 := hid bR1
      clear bS0'
      go_wp2
      go_roundw
      case rel => exact ⟨4, by omega, rfl, bS1, bR1, bl_set hbl _ _ _ (by omega)⟩
      case measure => simp [intOf]
    · obtain ⟨o0, o1, o2, o3, o4, o5, o6, o7⟩ := Blk.cells (show Blk wr (w.heap.size + 2) ⟨ra, rb, rc, rd⟩ from bS0.out)
      obtain ⟨r0, r1, r2, r3, r4, r5, r6, r7⟩ := Blk.cells (sa := 0) (sb := 0) (sc := 0) (sd := 0) bR0.out
      go_wp2
      refine bodyPost_ret (v := .agg #[.int .u64 ra, .int .u64 rb, .int .u64 rc, .int .u64 rd]) (by simp [results, Tryz.results40, go_sem, r0, r1, r2, r3]) rfl ⟨rfl, bl_put hbl ⟨ra, rb, rc, rd⟩ (by omega)⟩


end Go.Proofs.YtlpbeieljjgbaaaGreatDoor
namespace Go.Proofs.YtlpbeieljjgbaaaGreatDoor
open Go.RowKit

set_option maxRecDepth 20000 in
/-- the word of a byte: one bit -/
theorem bitC (x : Nat) (w : World) (hx : x < 256) :
    Calls Tryz.prog 74 #[.int .u8 (x : Int)] w fun e w' => e = .returned (.int .u64 ((2 ^ (x % 64) : Nat) : Int)) ∧ w' = w := by
  have hp := wrap_pow (j := x % 64) (by omega)
  have hr : (x : Int) % 64 = ((x % 64 : Nat) : Int) := by omega
  have hrl : x % 64 < 64 := by omega
  generalize hm : 2 ^ (x % 64) = m at hp ⊢
  generalize x % 64 = r at hr hrl hp hm
  go_enter Tryz.func74, Tryz.ntmps74
  go_wp2
  go_ret
  exact ⟨rfl, rfl⟩

set_option maxRecDepth 20000 in
set_option maxHeartbeats 1000000 in
theorem oneC (x : Nat) (w : World) (hx : x < 256) :
    Calls Tryz.prog 116 #[.int .u8 (x : Int)] w fun e w' => e = .returned (valB (spanB x x)) ∧ Below w.heap.size w w' := by
  rw [one_word x hx]
  have GB := hid (fun u => bitC x u hx)
  have hq : (x : Int) / 64 = ((x / 64 : Nat) : Int) := by omega
  have hql : x / 64 = 0 ∨ x / 64 = 1 ∨ x / 64 = 2 ∨ x / 64 = 3 := by omega
  generalize hm : 2 ^ (x % 64) = m at GB ⊢
  generalize x / 64 = q at hq hql ⊢
  clear hm
  rcases hql with rfl | rfl | rfl | rfl
  · go_enter Tryz.func116, Tryz.ntmps116
    go_wp2_with (go_at_call 74; refine (GB.out _).mono ?_; rintro e u1 ⟨rfl, hu⟩; subst u1)
    exact bodyPost_ret (v := .agg #[.int .u64 (m : Int), .int .u64 0, .int .u64 0, .int .u64 0]) (by simp [results, Tryz.results116, go_sem]) rfl ⟨rfl, bl_step (al' w _) (al' _ _)⟩
  · go_enter Tryz.func116, Tryz.ntmps116
    go_wp2_with (go_at_call 74; refine (GB.out _).mono ?_; rintro e u1 ⟨rfl, hu⟩; subst u1)
    exact bodyPost_ret (v := .agg #[.int .u64 0, .int .u64 (m : Int), .int .u64 0, .int .u64 0]) (by simp [results, Tryz.results116, go_sem]) rfl ⟨rfl, bl_step (al' w _) (al' _ _)⟩
  · go_enter Tryz.func116, Tryz.ntmps116
    go_wp2_with (go_at_call 74; refine (GB.out _).mono ?_; rintro e u1 ⟨rfl, hu⟩; subst u1)
    exact bodyPost_ret (v := .agg #[.int .u64 0, .int .u64 0, .int .u64 (m : Int), .int .u64 0]) (by simp [results, Tryz.results116, go_sem]) rfl ⟨rfl, bl_step (al' w _) (al' _ _)⟩
  · go_enter Tryz.func116, Tryz.ntmps116
    go_wp2_with (go_at_call 74; refine (GB.out _).mono ?_; rintro e u1 ⟨rfl, hu⟩; subst u1)
    exact bodyPost_ret (v := .agg #[.int .u64 0, .int .u64 0, .int .u64 0, .int .u64 (m : Int)]) (by simp [results, Tryz.results116, go_sem]) rfl ⟨rfl, bl_step (al' w _) (al' _ _)⟩

end Go.Proofs.YtlpbeieljjgbaaaGreatDoor
namespace Go.Proofs.YtlpbeieljjgbaaaGreatDoor
open Go.RowKit

theorem has_and (n r : Nat) (hn : n < 18446744073709551616) (hr : r < 64) : bits .and .u64 (n : Int) ((2 ^ r : Nat) : Int) = if n.testBit r then ((2 ^ r : Nat) : Int) else 0 := by
  have h2 : 2 ^ r < 18446744073709551616 := Nat.pow_lt_pow_right (a := 2) (by omega) hr
  have e : n &&& 2 ^ r = if n.testBit r then 2 ^ r else 0 := by
    apply Nat.eq_of_testBit_eq
    intro j
    rw [Nat.testBit_and, Nat.testBit_two_pow]
    by_cases hj : r = j
    · subst hj
      cases hb : n.testBit r <;> simp [Nat.testBit_two_pow_self]
    · cases hb : n.testBit r <;> simp [hj]
  rw [u64_and_nat n _ hn h2, e]
  cases n.testBit r <;> simp
theorem not_zero (r : Bool) (m : Nat) (hm : 0 < m) : (!((if r then (m : Int) else 0) == 0)) = r := by
  cases r
  · rfl
  · have : ((m : Int) == 0) = false := beq_eq_false_iff_ne.2 (by omega)
    simp [this]
set_option maxRecDepth 20000 in
set_option maxHeartbeats 2000000 in
theorem hasC' (a b c d x : Nat) (w : World) (hS : Fit4 ⟨a, b, c, d⟩) (hx : x < 256) :
    Calls Tryz.prog 46 #[valB ⟨a, b, c, d⟩, .int .u8 (x : Int)] w fun e w' => e = .returned (.bool (hasB ⟨a, b, c, d⟩ x)) ∧ Below w.heap.size w w' := by
  have hq : (x : Int) / 64 = ((x / 64 : Nat) : Int) := by omega
  have hql : x / 64 = 0 ∨ x / 64 = 1 ∨ x / 64 = 2 ∨ x / 64 = 3 := by omega
  have GB := hid (fun u => bitC x u hx)
  have hand := has_and _ (x % 64) (hS.w (x / 64)) (by omega)
  have hpos : 0 < 2 ^ (x % 64) := Nat.two_pow_pos _
  have hh : hasB ⟨a, b, c, d⟩ x = (W4.w ⟨a, b, c, d⟩ (x / 64)).testBit (x % 64) := rfl
  rw [hh]
  generalize (W4.w ⟨a, b, c, d⟩ (x / 64)).testBit (x % 64) = r at hand ⊢
  generalize 2 ^ (x % 64) = m at GB hand hpos ⊢
  generalize x / 64 = q at hq hql hand
  clear hS hh
  have hbd : Below w.heap.size w (w.alloc (.cells #[.int .u64 (a : Int), .int .u64 (b : Int), .int .u64 (c : Int), .int .u64 (d : Int)] 80)).drew := (al' w _).drew
  rcases hql with rfl | rfl | rfl | rfl
  · have hfin : Hid ((!(bits .and .u64 (a : Int) (m : Int) == 0)) = r) := hid (by rw [show bits .and .u64 (a : Int) (m : Int) = if r then (m : Int) else 0 from hand]; exact not_zero r m hpos)
    go_enter Tryz.func46, Tryz.ntmps46
    go_wp2_with fail
    go_region_with (first | (go_at_call 74; refine (GB.out _).mono ?_; rintro e u1 ⟨rfl, hu⟩; subst u1) | fail)
    all_goals
      go_wp2
      go_ret
      exact ⟨congrArg Ending.returned (congrArg Value.bool hfin.out), hbd⟩
  · have hfin : Hid ((!(bits .and .u64 (b : Int) (m : Int) == 0)) = r) := hid (by rw [show bits .and .u64 (b : Int) (m : Int) = if r then (m : Int) else 0 from hand]; exact not_zero r m hpos)
    go_enter Tryz.func46, Tryz.ntmps46
    go_wp2_with fail
    go_region_with (first | (go_at_call 74; refine (GB.out _).mono ?_; rintro e u1 ⟨rfl, hu⟩; subst u1) | fail)
    all_goals
      go_wp2
      go_ret
      exact ⟨congrArg Ending.returned (congrArg Value.bool hfin.out), hbd⟩
  · have hfin : Hid ((!(bits .and .u64 (c : Int) (m : Int) == 0)) = r) := hid (by rw [show bits .and .u64 (c : Int) (m : Int) = if r then (m : Int) else 0 from hand]; exact not_zero r m hpos)
    go_enter Tryz.func46, Tryz.ntmps46
    go_wp2_with fail
    go_region_with (first | (go_at_call 74; refine (GB.out _).mono ?_; rintro e u1 ⟨rfl, hu⟩; subst u1) | fail)
    all_goals
      go_wp2
      go_ret
      exact ⟨congrArg Ending.returned (congrArg Value.bool hfin.out), hbd⟩
  · have hfin : Hid ((!(bits .and .u64 (d : Int) (m : Int) == 0)) = r) := hid (by rw [show bits .and .u64 (d : Int) (m : Int) = if r then (m : Int) else 0 from hand]; exact not_zero r m hpos)
    go_enter Tryz.func46, Tryz.ntmps46
    go_wp2_with fail
    go_region_with (first | (go_at_call 74; refine (GB.out _).mono ?_; rintro e u1 ⟨rfl, hu⟩; subst u1) | fail)
    all_goals
      go_wp2
      go_ret
      exact ⟨congrArg Ending.returned (congrArg Value.bool hfin.out), hbd⟩


end Go.Proofs.YtlpbeieljjgbaaaGreatDoor
