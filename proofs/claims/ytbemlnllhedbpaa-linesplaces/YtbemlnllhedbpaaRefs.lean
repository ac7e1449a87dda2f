/- The contracts of topiaryref03.Line, Column, At. -/
import Derived.Test.YtbemlnllhedbpaaMath
namespace Go.Proofs.Ytbemlnllhedbpaa
open Go.RowKit

def atN (s : ByteArray) (l c : Int) : Int := match atV s l c with | some i => (i : Int) | none => 0
def atE (s : ByteArray) (l c : Int) : Int := match atV s l c with | some _ => 0 | none => 2

set_option maxHeartbeats 1000000 in
theorem lineC (s : ByteArray) (a : Nat) (w : World) (hs : s.size ≤ 1000000) (ha : a ≤ s.size) :
    Calls Try.prog 15 #[.string s, .int .i64 a] w fun e w' => e = .returned (.int .i64 (ln s a)) ∧ w' = w := by
  go_enter Try.func15, Try.ntmps15
  go_wp2
  go_loopw [5, 6] (fun n i wr => ∃ k : Nat, k ≤ a ∧ i = .int .i64 k ∧ n = .int .i64 (ln s k) ∧ wr = w) (fun _ i _ => a - (intOf i).toNat)
  case atStart => exact ⟨0, Nat.zero_le _, rfl, rfl, rfl⟩
  case round =>
    obtain ⟨k, hk, rfl, rfl, rfl⟩ := hrel
    have hln := (ln_pos s k).2
    by_cases hlt : k < a
    · have hlt2 : k < s.size := by omega
      cases hn : nl s k with
      | true =>
        have h10 := nl_true hlt2 hn
        go_wp2
        go_roundw
        case rel => exact ⟨k + 1, by omega, by go_num, by rw [ln_yes hn]; go_num, trivial⟩
        case measure => simp [intOf]; omega
      | false =>
        have h10 := nl_false hlt2 hn
        go_wp2
        go_roundw
        case rel => exact ⟨k + 1, by omega, by go_num, by rw [ln_no hn], trivial⟩
        case measure => simp [intOf]; omega
    · obtain rfl : k = a := by omega
      go_wp2
      go_ret
      exact ⟨rfl, rfl⟩

set_option maxHeartbeats 1000000 in
theorem columnC (s : ByteArray) (a : Nat) (w : World) (hs : s.size ≤ 1000000) (ha : a ≤ s.size) :
    Calls Try.prog 16 #[.string s, .int .i64 a] w fun e w' => e = .returned (.int .i64 (cl s a)) ∧ w' = w := by
  go_enter Try.func16, Try.ntmps16
  go_wp2
  go_loopw [5, 6] (fun n i wr => ∃ k : Nat, k ≤ a ∧ i = .int .i64 ((k : Int) - 1) ∧ n = .int .i64 ((a : Int) - k + 1) ∧ lastSt s a = lastSt s k ∧ wr = w) (fun _ i _ => (intOf i + 1).toNat)
  case atStart => exact ⟨a, Nat.le_refl _, by go_num, by go_num, rfl, rfl⟩
  case round =>
    obtain ⟨k, hk, rfl, rfl, hla, rfl⟩ := hrel
    cases k with
    | zero =>
      have hcl : cl s a = (a : Int) + 1 := by unfold cl; rw [hla]; show (a : Int) - 0 + 1 = _; omega
      go_wp2
      go_ret
      exact ⟨by rw [hcl]; first | rfl | (go_num), rfl⟩
    | succ k =>
      have hlt2 : k < s.size := by omega
      have e1 : ((k + 1 : Nat) : Int) - 1 = k := by omega
      rw [e1]
      cases hn : nl s k with
      | true =>
        have hcl : cl s a = (a : Int) - ((k + 1 : Nat) : Int) + 1 := by unfold cl; rw [hla, last_yes hn]; omega
        have hb1 : ((s[k].toNat : Int) != 10) = false := by have := nl_true hlt2 hn; simp [this]
        have h10 := nl_true hlt2 hn
        go_wp2
        go_ret
        exact ⟨by rw [hcl]; first | rfl | (go_num), rfl⟩
      | false =>
        have hb1 : ((s[k].toNat : Int) != 10) = true := by have := nl_false hlt2 hn; simpa using this
        have h10 := nl_false hlt2 hn
        go_wp2
        go_roundw
        case rel => exact ⟨k, by omega, by go_num, by go_num, by rw [hla, last_no hn], trivial⟩
        case measure => simp [intOf]

set_option maxHeartbeats 2000000 in
theorem refAtC (s : ByteArray) (l c : Int) (w : World) (hs : s.size ≤ 1000000) :
    Calls Try.prog 17 #[.string s, .int .i64 l, .int .i64 c] w fun e w' => e = .returned (.tuple #[.int .i64 (atN s l c), .int .i64 (atE s l c)]) ∧ w' = w := by
  go_enter Try.func17, Try.ntmps17
  go_wp2
  go_loopw [8, 9, 10] (fun x y i wr => ∃ k : Nat, k ≤ s.size + 1 ∧ i = .int .i64 k ∧ x = .int .i64 (ln s k) ∧ y = .int .i64 (cl s k) ∧ (∀ j, j < k → ¬ ((ln s j : Int) = l ∧ cl s j = c)) ∧ wr = w) (fun _ _ i _ => s.size + 1 - (intOf i).toNat)
  case atStart => exact ⟨0, Nat.zero_le _, rfl, rfl, rfl, fun j hj => absurd hj (Nat.not_lt_zero _), rfl⟩
  case round =>
    obtain ⟨k, hk, rfl, rfl, rfl, hno, rfl⟩ := hrel
    have hln := (ln_pos s k).2
    have hcl := cl_pos s k
    by_cases hle : k ≤ s.size
    · have hle' : (k : Int) ≤ (s.size : Int) := by omega
      by_cases h1 : (ln s k : Int) = l
      · by_cases h2 : cl s k = c
        · have hv := atV_some hle h1 h2
          have hN : atN s l c = k := by unfold atN; rw [hv]
          have hE : atE s l c = 0 := by unfold atE; rw [hv]
          have hb1 : ((ln s k : Int) == l) = true := by simp [h1]
          have hb2 : (cl s k == c) = true := by simp [h2]
          clear h1 h2
          go_wp2
          go_ret2
          exact ⟨by rw [hN, hE]; rfl, rfl⟩
        · have hstep : ∀ j, j < k + 1 → ¬ ((ln s j : Int) = l ∧ cl s j = c) := fun j hj => by
            by_cases hjk : j < k
            · exact hno j hjk
            · obtain rfl : j = k := by omega
              exact fun h => h2 h.2
          have hb1 : ((ln s k : Int) == l) = true := by simp [h1]
          have hb2 : (cl s k == c) = false := beq_eq_false_iff_ne.2 h2
          clear hno h1
          by_cases hlt : k < s.size
          · cases hn : nl s k with
            | true =>
              have h10 := nl_true hlt hn
              have hb3 : ((s[k].toNat : Int) == 10) = true := by simp [h10]
              go_wp2
              go_roundw
              case rel => exact ⟨k + 1, by omega, by go_num, by rw [ln_yes hn]; go_num, by rw [cl_yes hn], hstep, trivial⟩
              case measure => simp [intOf]; omega
            | false =>
              have h10 := nl_false hlt hn
              have hb3 : ((s[k].toNat : Int) == 10) = false := beq_eq_false_iff_ne.2 h10
              go_wp2
              go_roundw
              case rel => exact ⟨k + 1, by omega, by go_num, by rw [ln_no hn], by rw [cl_no hn], hstep, trivial⟩
              case measure => simp [intOf]; omega
          · have hn := nl_out hlt
            have hlt' : ¬ (k : Int) < (s.size : Int) := by omega
            go_wp2
            go_roundw
            case rel => exact ⟨k + 1, by omega, by go_num, by rw [ln_no hn], by rw [cl_no hn], hstep, trivial⟩
            case measure => simp [intOf]; omega
      · have hstep : ∀ j, j < k + 1 → ¬ ((ln s j : Int) = l ∧ cl s j = c) := fun j hj => by
          by_cases hjk : j < k
          · exact hno j hjk
          · obtain rfl : j = k := by omega
            exact fun h => h1 h.1
        have hb1 : ((ln s k : Int) == l) = false := beq_eq_false_iff_ne.2 h1
        clear hno
        by_cases hlt : k < s.size
        · cases hn : nl s k with
          | true =>
            have h10 := nl_true hlt hn
            have hb3 : ((s[k].toNat : Int) == 10) = true := by simp [h10]
            go_wp2
            go_roundw
            case rel => exact ⟨k + 1, by omega, by go_num, by rw [ln_yes hn]; go_num, by rw [cl_yes hn], hstep, trivial⟩
            case measure => simp [intOf]; omega
          | false =>
            have h10 := nl_false hlt hn
            have hb3 : ((s[k].toNat : Int) == 10) = false := beq_eq_false_iff_ne.2 h10
            go_wp2
            go_roundw
            case rel => exact ⟨k + 1, by omega, by go_num, by rw [ln_no hn], by rw [cl_no hn], hstep, trivial⟩
            case measure => simp [intOf]; omega
        · have hn := nl_out hlt
          have hlt' : ¬ (k : Int) < (s.size : Int) := by omega
          go_wp2
          go_roundw
          case rel => exact ⟨k + 1, by omega, by go_num, by rw [ln_no hn], by rw [cl_no hn], hstep, trivial⟩
          case measure => simp [intOf]; omega
    · obtain rfl : k = s.size + 1 := by omega
      have hv : atV s l c = none := atV_none fun i hi => hno i (by omega)
      have hN : atN s l c = 0 := by unfold atN; rw [hv]
      have hE : atE s l c = 2 := by unfold atE; rw [hv]
      clear hno
      go_wp2
      go_ret2
      exact ⟨by rw [hN, hE]; rfl, rfl⟩

end Go.Proofs.Ytbemlnllhedbpaa
