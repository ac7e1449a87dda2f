/- The contracts of topiaryref01.Apply (every input), wakes, Long. -/
import Derived.Test.YtfgjlgcoablnoaaRefApply
namespace Go.Proofs.Ytfgjlgcoablnoaa
open Go.RowKit

set_option maxHeartbeats 400000 in
theorem refApply12 (s t : ByteArray) (a n : Int) (w : World) (hs : s.size ≤ 1000000) (ht : t.size ≤ 1000000) (ha : a ≤ 9223372036854775807) :
    Calls Try.prog 12 #[.string s, .agg #[.int .i64 a, .int .i64 n, .string t]] w fun e w' => e = .returned (appV s t a n) ∧ Below w.heap.size w w' := by
  have H0 := fun w => fits23 s t a n w (by omega) ha
  rcases errNo_cases s.size a n t.size with ⟨he, hf, hm⟩ | ⟨he, hf, hm⟩ | ⟨he, hf⟩
  · obtain ⟨f1, f2, f3⟩ := fitsB_true hf
    obtain ⟨a', rfl⟩ := Int.eq_ofNat_of_zero_le f1
    obtain ⟨n', rfl⟩ := Int.eq_ofNat_of_zero_le f2
    have hv : appV s t a' n' = .tuple #[.string (madeOf s t a' n'), .int .i64 0] := by
      unfold appV; rw [appS_ok he, he]; rfl
    rw [hv]
    exact refApplyOk s t a' n' w hs ht (by omega) (by omega)
  · have hv : Hid (appV s t a n = .tuple #[.string ⟨#[]⟩, .int .i64 3]) := by
      unfold Hid appV; rw [appS_bad (by omega), he]
    obtain ⟨f1, f2, f3⟩ := fitsB_true hf
    have H : Hid (∀ w, Calls Try.prog 23 #[.string s, .agg #[.int .i64 a, .int .i64 n, .string t]] w fun e w' => e = .returned (.bool true) ∧ Below w.heap.size w w') := by
      unfold Hid; rw [hf] at H0; exact H0
    clear H0 he hf
    go_enter Try.func12, Try.ntmps12
    by_cases h4 : (4000 : Int) < t.size
    all_goals
      go_wp2_with (first
        | (go_at_call 23; refine (H.out _).mono ?_; rintro e w1 ⟨rfl, hb⟩; obtain ⟨hc, hfz⟩ := bcell hb))
      go_ret2
      exact ⟨by rw [hv.out]; rfl, bl_step ((Below.refl _ _).alloc (Nat.le_refl _) _) hb⟩
  · have hv : Hid (appV s t a n = .tuple #[.string ⟨#[]⟩, .int .i64 2]) := by
      unfold Hid appV; rw [appS_bad (by omega), he]
    have H : Hid (∀ w, Calls Try.prog 23 #[.string s, .agg #[.int .i64 a, .int .i64 n, .string t]] w fun e w' => e = .returned (.bool false) ∧ Below w.heap.size w w') := by
      unfold Hid; rw [hf] at H0; exact H0
    clear H0 he hf
    go_enter Try.func12, Try.ntmps12
    go_wp2_with (first
      | (go_at_call 23; refine (H.out _).mono ?_; rintro e w1 ⟨rfl, hb⟩; obtain ⟨hc, hfz⟩ := bcell hb))
    go_ret2
    exact ⟨by rw [hv.out]; rfl, bl_step ((Below.refl _ _).alloc (Nat.le_refl _) _) hb⟩

theorem appV_wakes : appV ⟨#[97, 98, 99]⟩ ⟨#[120, 121]⟩ 1 1 = .tuple #[.string ⟨#[97, 120, 121, 99]⟩, .int .i64 0] := by
  have he : errNo ((⟨#[97, 98, 99]⟩ : ByteArray).size : Int) 1 1 ((⟨#[120, 121]⟩ : ByteArray).size : Int) = 0 := by decide +kernel
  unfold appV
  rw [appS_ok he, he]
  rfl

set_option maxHeartbeats 400000 in
theorem wakes9 (w : World) : Calls Try.prog 9 #[] w fun e w' => e = .returned (.bool true) ∧ Below w.heap.size w w' := by
  have H : Hid (∀ w, Calls Try.prog 11 #[.string ⟨#[97, 98, 99]⟩, .agg #[.int .i64 1, .int .i64 1, .string ⟨#[120, 121]⟩]] w fun e w' => e = .returned (.tuple #[.string ⟨#[97, 120, 121, 99]⟩, .int .i64 0]) ∧ Below w.heap.size w w') := by
    intro w
    rw [← appV_wakes]
    exact apply11 ⟨#[97, 98, 99]⟩ ⟨#[120, 121]⟩ 1 1 w (by decide) (by decide) (by decide)
  go_enter Try.func9, Try.ntmps9
  go_wp2_with (first
    | (go_at_call 11; refine (H.out _).mono ?_; rintro e w1 ⟨rfl, hb⟩))
  go_ret
  exact ⟨rfl, hb⟩

def longB (l : Nat) (ts : List ByteArray) : Bool := decide (5000 < l) || decide (100 < ts.length) || ts.any (fun t => decide (5000 < t.size))

set_option maxHeartbeats 400000 in
theorem long10 (s : ByteArray) (ts : List ByteArray) (b off cap : Nat) (w : World) (hs : s.size ≤ 9223372036854775807) (hl : ts.length ≤ 9223372036854775807)
    (hc : ∀ j (hj : j < ts.length), w.cell? ⟨b, off + j * 3 + 2, none⟩ = some (.string ts[j])) :
    Calls Try.prog 10 #[.string s, .slice (some ⟨b, off, none⟩) ts.length cap] w fun e w' => e = .returned (.bool (longB s.size ts)) ∧ w' = w := by
  by_cases h1 : 5000 < s.size
  · have hv : Hid (longB s.size ts = true) := by unfold Hid longB; simp [h1]
    have h1' : (5000 : Int) < s.size := by omega
    go_enter Try.func10, Try.ntmps10
    go_wp2
    go_ret
    exact ⟨by rw [hv.out]; rfl, rfl⟩
  · by_cases h2 : 100 < ts.length
    · have hv : Hid (longB s.size ts = true) := by unfold Hid longB; simp [h2]
      have h1' : ¬ (5000 : Int) < s.size := by omega
      have h2' : (100 : Int) < ts.length := by omega
      go_enter Try.func10, Try.ntmps10
      go_wp2
      go_ret
      exact ⟨by rw [hv.out]; rfl, rfl⟩
    · have h1' : ¬ (5000 : Int) < s.size := by omega
      have h2' : ¬ (100 : Int) < ts.length := by omega
      have hv : Hid (longB s.size ts = ts.any (fun t => decide (5000 < t.size))) := by unfold Hid longB; simp [h1, h2]
      go_enter Try.func10, Try.ntmps10
      go_wp2
      go_loop [5] (fun i => ∃ k : Nat, k ≤ ts.length ∧ i = .int .i64 k ∧ ∀ j (hj : j < ts.length), j < k → ¬ 5000 < ts[j].size) (fun i => ts.length - (intOf i).toNat)
      case atStart => exact ⟨0, Nat.zero_le _, rfl, fun j hj h => absurd h (Nat.not_lt_zero _)⟩
      case round =>
        obtain ⟨k, hk, rfl, hno⟩ := hrel
        by_cases hlt : k < ts.length
        · have hck := hc k hlt
          have HN : Hid (∀ j (hj : j < ts.length), j < k → ¬ 5000 < ts[j].size) := hno
          have HC : Hid (∀ j (hj : j < ts.length), w.cell? ⟨b, off + j * 3 + 2, none⟩ = some (.string ts[j])) := hc
          clear hno hc
          have hlt' : (k : Int) < ts.length := by omega
          by_cases hbig : (5000 : Int) < ts[k].size
          · have HA : Hid ((ts.any fun t => decide (5000 < t.size)) = true) := by
              unfold Hid; rw [List.any_eq_true]; exact ⟨ts[k], List.getElem_mem hlt, by simp; omega⟩
            go_wp2
            go_ret
            exact ⟨by rw [hv.out, HA.out]; rfl, rfl⟩
          · go_wp2
            go_round
            case rel => exact ⟨k + 1, by omega, by go_num, fun j hj h => by
              by_cases e : j = k
              · subst e; omega
              · exact HN.out j hj (by omega)⟩
            case measure => simp [intOf]; omega
        · have HA : Hid ((ts.any fun t => decide (5000 < t.size)) = false) := by
            unfold Hid; rw [List.any_eq_false]
            intro x hx
            obtain ⟨j, hj, rfl⟩ := List.getElem_of_mem hx
            have := hno j hj (by omega)
            simpa using this
          clear hno hc
          go_wp2
          go_ret
          exact ⟨by rw [hv.out, HA.out]; rfl, rfl⟩

end Go.Proofs.Ytfgjlgcoablnoaa
