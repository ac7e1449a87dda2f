/- The contract of topiaryref01.Apply, of every input. -/
import Derived.Test.YtnhabinnmkjnbaaRefA
namespace Go.Proofs.Ytnhabinnmkjnbaa
open Go.RowKit

set_option maxHeartbeats 400000 in
theorem refApply12 (s t : ByteArray) (a n : Int) (w : World) (hs : s.size ≤ 1000000) (ht : t.size ≤ 1000000) (ha : a ≤ 9223372036854775807) :
    Calls Try.prog 34 #[.string s, .agg #[.int .i64 a, .int .i64 n, .string t]] w fun e w' => e = .returned (appV s t a n) ∧ Below w.heap.size w w' := by
  have H0 := fun w => fits23 s t a n w (by omega) ha
  rcases errNo_cases s.size a n t.size with ⟨he, hf, hm⟩ | ⟨he, hf, hm⟩ | ⟨he, hf⟩
  · obtain ⟨f1, f2, f3⟩ := fitsB_true hf
    obtain ⟨a', rfl⟩ := Int.eq_ofNat_of_zero_le f1
    obtain ⟨n', rfl⟩ := Int.eq_ofNat_of_zero_le f2
    have hv : appV s t a' n' = .tuple #[.string (madeOf s t a' n'), .int .i64 0] := by
      unfold appV; rw [appS_ok he, he]; rfl
    rw [hv]
    exact refApplyOk s t a' n' w hs ht (by omega) (by omega)
  · have hv : Hid (appV s t a n = .tuple #[.string ⟨#[]⟩, .int .i64 3]) := by
      unfold Hid appV; rw [appS_bad (by omega), he]
    obtain ⟨f1, f2, f3⟩ := fitsB_true hf
    have H : Hid (∀ w, Calls Try.prog 17 #[.string s, .agg #[.int .i64 a, .int .i64 n, .string t]] w fun e w' => e = .returned (.bool true) ∧ Below w.heap.size w w') := by
      unfold Hid; rw [hf] at H0; exact H0
    clear H0 he hf
    go_enter Try.func34, Try.ntmps34
    by_cases h4 : (4000 : Int) < t.size
    all_goals
      go_wp2_with (first
        | (go_at_call 17; refine (H.out _).mono ?_; rintro e w1 ⟨rfl, hb⟩; obtain ⟨hc, hfz⟩ := bcell hb))
      go_ret2
      exact ⟨by rw [hv.out]; rfl, bl_step ((Below.refl _ _).alloc (Nat.le_refl _) _) hb⟩
  · have hv : Hid (appV s t a n = .tuple #[.string ⟨#[]⟩, .int .i64 2]) := by
      unfold Hid appV; rw [appS_bad (by omega), he]
    have H : Hid (∀ w, Calls Try.prog 17 #[.string s, .agg #[.int .i64 a, .int .i64 n, .string t]] w fun e w' => e = .returned (.bool false) ∧ Below w.heap.size w w') := by
      unfold Hid; rw [hf] at H0; exact H0
    clear H0 he hf
    go_enter Try.func34, Try.ntmps34
    go_wp2_with (first
      | (go_at_call 17; refine (H.out _).mono ?_; rintro e w1 ⟨rfl, hb⟩; obtain ⟨hc, hfz⟩ := bcell hb))
    go_ret2
    exact ⟨by rw [hv.out]; rfl, bl_step ((Below.refl _ _).alloc (Nat.le_refl _) _) hb⟩

end Go.Proofs.Ytnhabinnmkjnbaa
