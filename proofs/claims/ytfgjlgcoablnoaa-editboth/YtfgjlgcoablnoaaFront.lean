/- The contracts of sameFront and sameEnd. -/
import Derived.Test.YtfgjlgcoablnoaaMath
namespace Go.Proofs.Ytfgjlgcoablnoaa
open Go.RowKit

/-- n is the length of the longest common beginning -/
def IsFront (a b : ByteArray) (n : Nat) : Prop :=
  n ≤ a.size ∧ n ≤ b.size ∧ (∀ j (h1 : j < a.size) (h2 : j < b.size), j < n → a[j] = b[j]) ∧ ∀ (h1 : n < a.size) (h2 : n < b.size), a[n] ≠ b[n]
theorem IsFront.one {a b : ByteArray} {n m : Nat} (hn : IsFront a b n) (hm : IsFront a b m) : n = m := by
  obtain ⟨n1, n2, n3, n4⟩ := hn
  obtain ⟨m1, m2, m3, m4⟩ := hm
  rcases Nat.lt_trichotomy n m with h | h | h
  · exact absurd (m3 n (by omega) (by omega) h) (n4 (by omega) (by omega))
  · exact h
  · exact absurd (n3 m (by omega) (by omega) h) (m4 (by omega) (by omega))
/-- n is the length of the longest common end -/
def IsEnd (a b : ByteArray) (n : Nat) : Prop :=
  n ≤ a.size ∧ n ≤ b.size ∧ (∀ j (h1 : j < a.size) (h2 : j < b.size), j < n → a[a.size - 1 - j] = b[b.size - 1 - j]) ∧ ∀ (h1 : n < a.size) (h2 : n < b.size), a[a.size - 1 - n] ≠ b[b.size - 1 - n]
theorem IsEnd.one {a b : ByteArray} {n m : Nat} (hn : IsEnd a b n) (hm : IsEnd a b m) : n = m := by
  obtain ⟨n1, n2, n3, n4⟩ := hn
  obtain ⟨m1, m2, m3, m4⟩ := hm
  rcases Nat.lt_trichotomy n m with h | h | h
  · exact absurd (m3 n (by omega) (by omega) h) (n4 (by omega) (by omega))
  · exact h
  · exact absurd (n3 m (by omega) (by omega) h) (m4 (by omega) (by omega))

theorem byte_eq {x y : UInt8} (h : x = y) : ((x.toNat : Int) == (y.toNat : Int)) = true := by subst h; simp
theorem byte_ne {x y : UInt8} (h : x ≠ y) : ((x.toNat : Int) == (y.toNat : Int)) = false := by
  rw [beq_eq_false_iff_ne]; intro e; apply h; apply UInt8.toNat_inj.1; omega

set_option maxHeartbeats 2000000 in
theorem sameFront26 (a b : ByteArray) (w : World) (ha : a.size ≤ 1000000) (_hb : b.size ≤ 1000000) :
    Calls Try.prog 26 #[.string a, .string b] w fun e w' => ∃ n q : Nat, e = .returned (.int .i64 n) ∧ IsFront a b n ∧ w' = w.drewN q := by
  go_enter Try.func26, Try.ntmps26
  go_wp2
  go_loopw [5] (fun i wr => ∃ k q : Nat, i = .int .i64 k ∧ k ≤ a.size ∧ k ≤ b.size ∧ (∀ j (h1 : j < a.size) (h2 : j < b.size), j < k → a[j] = b[j]) ∧ wr = w.drewN q) (fun i _ => a.size - (intOf i).toNat)
  case atStart => exact ⟨0, 0, rfl, Nat.zero_le _, Nat.zero_le _, fun j _ _ h => absurd h (Nat.not_lt_zero _), rfl⟩
  case round =>
    obtain ⟨k, q, rfl, k1, k2, hall, rfl⟩ := hrel
    have HA := (show Hid _ from hall)
    clear hall
    by_cases h1 : k < a.size
    · have h1' : (k : Int) < a.size := by omega
      by_cases h2 : k < b.size
      · have h2' : (k : Int) < b.size := by omega
        by_cases h3 : a[k] = b[k]
        · have h3' := byte_eq h3
          have H3 := (show Hid _ from h3)
          clear h3
          go_wp2_with fail
          go_quiet (fail)
          go_wp2
          go_roundw
          case rel => exact ⟨k + 1, _, by go_num, by omega, by omega, fun j g1 g2 g => by
            by_cases e : j = k
            · subst e; exact H3.out
            · exact HA.out j g1 g2 (by omega), rfl⟩
          case measure => simp [intOf]; omega
        · have h3' := byte_ne h3
          have H3 := (show Hid _ from h3)
          clear h3
          go_wp2_with fail
          go_quiet (fail)
          go_wp2
          go_ret
          exact ⟨k, q + nq, rfl, ⟨k1, k2, HA.out, fun _ _ => H3.out⟩, World.drewN_drewN _ _ _⟩
      · have h2' : decide ((k : Int) < b.size) = false := by simp; omega
        go_wp2_with fail
        go_quiet (fail)
        go_wp2
        go_ret
        exact ⟨k, q + nq, rfl, ⟨k1, k2, HA.out, fun _ g2 => absurd g2 h2⟩, World.drewN_drewN _ _ _⟩
    · have h1' : decide ((k : Int) < a.size) = false := by simp; omega
      go_wp2_with fail
      go_quiet (fail)
      go_wp2
      go_ret
      exact ⟨k, q + nq, rfl, ⟨k1, k2, HA.out, fun g1 _ => absurd g1 h1⟩, World.drewN_drewN _ _ _⟩

theorem end_index (s : ByteArray) (k : Nat) (h : k < s.size) (hs : s.size ≤ 1000000) (u : World) :
    (Instr.index 9 (.string s) (.int .i64 (IntKind.i64.wrap (IntKind.i64.wrap ((s.size : Int) - 1) - (k : Int))))).run Try.prog u = .ok (.int .u8 (s[s.size - 1 - k].toNat : Int)) u := by
  have h1 : IntKind.i64.wrap (IntKind.i64.wrap ((s.size : Int) - 1) - (k : Int)) = ((s.size - 1 - k : Nat) : Int) := by
    rw [IntWalk.i64_left ((s.size : Int) - 1), IntWalk.wrap64_in ((s.size : Int) - 1) (by omega), IntWalk.i64_left, IntWalk.wrap64_in _ (by omega)]; omega
  rw [h1, run_index_string _ _ _ _ _ Try.underlying9, dif_pos (by omega)]
  simp

set_option maxHeartbeats 2000000 in
theorem sameEnd27 (a b : ByteArray) (w : World) (ha : a.size ≤ 1000000) (hb : b.size ≤ 1000000) :
    Calls Try.prog 27 #[.string a, .string b] w fun e w' => ∃ n q : Nat, e = .returned (.int .i64 n) ∧ IsEnd a b n ∧ w' = w.drewN q := by
  go_enter Try.func27, Try.ntmps27
  go_wp2
  go_loopw [5] (fun i wr => ∃ k q : Nat, i = .int .i64 k ∧ k ≤ a.size ∧ k ≤ b.size ∧ (∀ j (h1 : j < a.size) (h2 : j < b.size), j < k → a[a.size - 1 - j] = b[b.size - 1 - j]) ∧ wr = w.drewN q) (fun i _ => a.size - (intOf i).toNat)
  case atStart => exact ⟨0, 0, rfl, Nat.zero_le _, Nat.zero_le _, fun j _ _ h => absurd h (Nat.not_lt_zero _), rfl⟩
  case round =>
    obtain ⟨k, q, rfl, k1, k2, hall, rfl⟩ := hrel
    have HA := (show Hid _ from hall)
    clear hall
    by_cases h1 : k < a.size
    · have h1' : (k : Int) < a.size := by omega
      by_cases h2 : k < b.size
      · have h2' : (k : Int) < b.size := by omega
        have e1 := end_index a k h1 (by omega)
        have e2 := end_index b k h2 (by omega)
        by_cases h3 : a[a.size - 1 - k] = b[b.size - 1 - k]
        · have h3' := byte_eq h3
          have H3 := (show Hid _ from h3)
          clear h3
          go_wp2_with fail
          go_quiet (fail)
          go_wp2
          go_roundw
          case rel => exact ⟨k + 1, _, by go_num, by omega, by omega, fun j g1 g2 g => by
            by_cases e : j = k
            · subst e; exact H3.out
            · exact HA.out j g1 g2 (by omega), rfl⟩
          case measure => simp [intOf]; omega
        · have h3' := byte_ne h3
          have H3 := (show Hid _ from h3)
          clear h3
          go_wp2_with fail
          go_quiet (fail)
          go_wp2
          go_ret
          exact ⟨k, q + nq, rfl, ⟨k1, k2, HA.out, fun _ _ => H3.out⟩, World.drewN_drewN _ _ _⟩
      · have h2' : decide ((k : Int) < b.size) = false := by simp; omega
        go_wp2_with fail
        go_quiet (fail)
        go_wp2
        go_ret
        exact ⟨k, q + nq, rfl, ⟨k1, k2, HA.out, fun _ g2 => absurd g2 h2⟩, World.drewN_drewN _ _ _⟩
    · have h1' : decide ((k : Int) < a.size) = false := by simp; omega
      go_wp2_with fail
      go_quiet (fail)
      go_wp2
      go_ret
      exact ⟨k, q + nq, rfl, ⟨k1, k2, HA.out, fun g1 _ => absurd g1 h1⟩, World.drewN_drewN _ _ _⟩

end Go.Proofs.Ytfgjlgcoablnoaa
