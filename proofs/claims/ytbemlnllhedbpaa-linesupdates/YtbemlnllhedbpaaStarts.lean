/- The contracts of lines.Starts, topiaryref03.Starts, topiaryref03.Same. -/
import Derived.Test.YtbemlnllhedbpaaNums
namespace Go.Proofs.Ytbemlnllhedbpaa
open Go.RowKit

set_option maxHeartbeats 1000000 in
theorem starts11 (s : ByteArray) (w : World) (hs : s.size ≤ 1000000) :
    Calls Try.prog 11 #[.string s] w fun e w' => ∃ v, e = .returned v ∧ w'.ownsRow w.heap.size 3 1 v (stN s s.size).length (numCells (stN s s.size)) ∧ Below w.heap.size w w' := by
  obtain ⟨i0, hi, hz0, hz1, hz2⟩ := info_parts Try.info3
  go_enter Try.func11, Try.ntmps11
  go_wp2
  go_loopw [3, 8] (fun v i wr => ∃ k : Nat, k ≤ s.size ∧ i = .int .i64 k ∧ wr.ownsRow w.heap.size 3 1 v (stN s k).length (numCells (stN s k)) ∧ Below w.heap.size w wr) (fun _ i _ => s.size - (intOf i).toNat)
  case atStart => exact ⟨0, Nat.zero_le _, rfl, World.ownsRow_lit w #[.int .i64 0] 1 (Nat.le_refl _) (by unfold maxLen; omega) rfl, (Below.refl _ w).alloc (Nat.le_refl _) _⟩
  case round =>
    obtain ⟨k, hk, rfl, hown, hbl⟩ := hrel
    have hsz := hbl.size
    have hln := (stN_len s k).2
    by_cases hlt : k < s.size
    · cases hn : nl s k with
      | true =>
        have h10 := nl_true hlt hn
        go_wp2_with (at_builtin; refine wpList_append_own _ rfl _ _ 25 rfl w.heap.size 3 i0 (.int .i64 0) 1 8 Try.underlying25 hi hz0 hz1 hz2 rfl (by decide) _ _ _ rfl (hown.alloc _) ⟨wr.heap.size, 0, none⟩ 1 1 [.int .i64 ((k : Int) + 1)] rfl rfl ?c1 ?c2 ?c3 ?c4 ?c5 ?_)
        case c1 =>
          intro j u hj
          match j, hj with
          | 0, hj => simp at hj; subst hj; simp [Addr.add]
        case c2 => intro u hu; simp at hu; subst hu; rfl
        case c3 => unfold maxLen; omega
        case c4 => omega
        case c5 => simp; omega
        intro v' w2 hown' hgrow _
        have R := below_app hown hbl (Nat.le_refl _) hgrow
        rw [← numCells_snoc, ← stN_yes hn] at hown'
        clear hgrow hown
        go_wp2
        go_roundw
        case rel => exact ⟨k + 1, by omega, by go_num, by rw [stN_yes hn, List.length_append] at *; exact hown', R⟩
        case measure => simp [intOf]; omega
      | false =>
        have h10 := nl_false hlt hn
        go_wp2
        go_roundw
        case rel => exact ⟨k + 1, by omega, by go_num, by rw [stN_no hn]; exact hown, hbl⟩
        case measure => simp [intOf]; omega
    · obtain rfl : k = s.size := by omega
      go_wp2
      go_ret
      exact ⟨_, rfl, hown, hbl⟩


def stR (s : ByteArray) : Nat → List Int
  | 0 => []
  | k + 1 => stN s k

set_option maxHeartbeats 1000000 in
theorem refStarts12 (s : ByteArray) (w : World) (hs : s.size ≤ 1000000) :
    Calls Try.prog 12 #[.string s] w fun e w' => ∃ v, e = .returned v ∧ w'.ownsRow w.heap.size 3 1 v (stN s s.size).length (numCells (stN s s.size)) ∧ Below w.heap.size w w' := by
  obtain ⟨i0, hi, hz0, hz1, hz2⟩ := info_parts Try.info3
  go_enter Try.func12, Try.ntmps12
  go_wp2
  go_loopw [3, 4] (fun v i wr => ∃ k : Nat, k ≤ s.size + 1 ∧ i = .int .i64 k ∧ wr.ownsRow w.heap.size 3 1 v (stR s k).length (numCells (stR s k)) ∧ Below w.heap.size w wr) (fun _ i _ => s.size + 1 - (intOf i).toNat)
  case atStart => exact ⟨0, Nat.zero_le _, rfl, World.ownsRow_nil w _ _ _, Below.refl _ w⟩
  case round =>
    obtain ⟨k, hk, rfl, hown, hbl⟩ := hrel
    have hsz := hbl.size
    cases k with
    | zero =>
      have hown : wr.ownsRow w.heap.size 3 1 u3 0 [] := hown
      go_wp2_with (at_builtin; refine wpList_append_own _ rfl _ _ 25 rfl w.heap.size 3 i0 (.int .i64 0) 1 8 Try.underlying25 hi hz0 hz1 hz2 rfl (by decide) _ _ _ rfl (hown.alloc _) ⟨wr.heap.size, 0, none⟩ 1 1 [.int .i64 0] rfl rfl ?c1 ?c2 ?c3 ?c4 ?c5 ?_)
      case c1 =>
        intro j u hj
        match j, hj with
        | 0, hj => simp at hj; subst hj; simp [Addr.add]
      case c2 => intro u hu; simp at hu; subst hu; rfl
      case c3 => unfold maxLen; omega
      case c4 => omega
      case c5 => simp; omega
      intro v' w2 hown' hgrow _
      have R := below_app hown hbl (Nat.le_refl _) hgrow
      clear hgrow hown
      go_wp2
      go_roundw
      case rel => exact ⟨1, by omega, by go_num, hown', R⟩
      case measure => simp [intOf]
    | succ k =>
      have hown : wr.ownsRow w.heap.size 3 1 u3 (stN s k).length (numCells (stN s k)) := hown
      have hln := (stN_len s k).2
      by_cases hlt : k < s.size
      · have hne : ¬ ((k : Int) + 1 = 0) := by omega
        cases hn : nl s k with
        | true =>
          have h10 := nl_true hlt hn
          go_wp2_with (at_builtin; refine wpList_append_own _ rfl _ _ 25 rfl w.heap.size 3 i0 (.int .i64 0) 1 8 Try.underlying25 hi hz0 hz1 hz2 rfl (by decide) _ _ _ rfl (hown.alloc _) ⟨wr.heap.size, 0, none⟩ 1 1 [.int .i64 ((k : Int) + 1)] rfl rfl ?c1 ?c2 ?c3 ?c4 ?c5 ?_)
          case c1 =>
            intro j u hj
            match j, hj with
            | 0, hj => simp at hj; subst hj; simp [Addr.add]
          case c2 => intro u hu; simp at hu; subst hu; rfl
          case c3 => unfold maxLen; omega
          case c4 => omega
          case c5 => simp; omega
          intro v' w2 hown' hgrow _
          have R := below_app hown hbl (Nat.le_refl _) hgrow
          rw [← numCells_snoc, ← stN_yes hn] at hown'
          clear hgrow hown
          go_wp2
          go_roundw
          case rel => exact ⟨k + 2, by omega, by go_num, by show w2.ownsRow w.heap.size 3 1 v' (stN s (k + 1)).length (numCells (stN s (k + 1))); rw [stN_yes hn, List.length_append] at *; exact hown', R⟩
          case measure => simp [intOf]; omega
        | false =>
          have hb0 : (((k : Int) + 1) == 0) = false := beq_eq_false_iff_ne.2 hne
          have hb1 : ((s[k].toNat : Int) == 10) = false := beq_eq_false_iff_ne.2 (nl_false hlt hn)
          go_wp2
          go_roundw
          case rel => exact ⟨k + 2, by omega, by go_num, by show wr.ownsRow w.heap.size 3 1 _ (stN s (k + 1)).length (numCells (stN s (k + 1))); rw [stN_no hn]; exact hown, hbl⟩
          case measure => simp [intOf]; omega
      · obtain rfl : k = s.size := by omega
        go_wp2
        go_ret
        exact ⟨_, rfl, hown, hbl⟩

end Go.Proofs.Ytbemlnllhedbpaa
