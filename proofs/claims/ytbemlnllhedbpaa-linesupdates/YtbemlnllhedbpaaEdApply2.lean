/- The contract of edit.Apply. -/
import Derived.Test.YtbemlnllhedbpaaEdApply
namespace Go.Proofs.Ytbemlnllhedbpaa
open Go.RowKit

theorem errNo_bad {l a n tl : Int} (h : fitsB l a n = false) : errNo l a n tl = 2 := by unfold errNo; rw [h]; rfl
theorem errNo_full {l a n tl : Int} (h : fitsB l a n = true) (hm : 4000 < l - n + tl) : errNo l a n tl = 3 := by unfold errNo; rw [h, if_pos rfl, if_pos hm]
theorem errNo_ok {l a n tl : Int} (h : fitsB l a n = true) (hm : ¬ 4000 < l - n + tl) : errNo l a n tl = 0 := by unfold errNo; rw [h, if_pos rfl, if_neg hm]
theorem fitsB_true {l a n : Int} (h : fitsB l a n = true) : 0 ≤ a ∧ 0 ≤ n ∧ n ≤ l - a := of_decide_eq_true h
theorem errNo_cases (l a n tl : Int) : (errNo l a n tl = 0 ∧ fitsB l a n = true ∧ ¬ 4000 < l - n + tl) ∨ (errNo l a n tl = 3 ∧ fitsB l a n = true ∧ 4000 < l - n + tl) ∨ (errNo l a n tl = 2 ∧ fitsB l a n = false) := by
  cases hf : fitsB l a n with
  | false => exact Or.inr (Or.inr ⟨errNo_bad hf, rfl⟩)
  | true =>
    by_cases hm : 4000 < l - n + tl
    · exact Or.inr (Or.inl ⟨errNo_full hf hm, rfl, hm⟩)
    · exact Or.inl ⟨errNo_ok hf hm, rfl, hm⟩
theorem appS_bad {s t : ByteArray} {a n : Int} (h : errNo s.size a n t.size ≠ 0) : appS s t a n = ⟨#[]⟩ := if_neg h
theorem appS_ok {s t : ByteArray} {a n : Int} (h : errNo s.size a n t.size = 0) : appS s t a n = madeOf s t a.toNat n.toNat := if_pos h

/-- what an Apply answers -/
def appV (s t : ByteArray) (a n : Int) : Value := .tuple #[.string (appS s t a n), .int .i64 (errNo s.size a n t.size)]

set_option maxHeartbeats 400000 in
theorem apply11 (s t : ByteArray) (a n : Int) (w : World) (hs : s.size ≤ 1000000) (ht : t.size ≤ 1000000) (ha : a ≤ 9223372036854775807) :
    Calls Try.prog 24 #[.string s, .agg #[.int .i64 a, .int .i64 n, .string t]] w fun e w' => e = .returned (appV s t a n) ∧ Below w.heap.size w w' := by
  have H21 := fun w => refusal21 s t a n w hs ht ha
  rcases errNo_cases s.size a n t.size with ⟨he, hf, hm⟩ | ⟨he, hf, hm⟩ | ⟨he, hf⟩
  · obtain ⟨f1, f2, f3⟩ := fitsB_true hf
    obtain ⟨a', rfl⟩ := Int.eq_ofNat_of_zero_le f1
    obtain ⟨n', rfl⟩ := Int.eq_ofNat_of_zero_le f2
    have hv : Hid (appV s t a' n' = .tuple #[.string (madeOf s t a' n'), .int .i64 0]) := by
      unfold Hid appV; rw [appS_ok he, he]; rfl
    have H : Hid (∀ w, Calls Try.prog 26 #[.string s, .agg #[.int .i64 (a' : Int), .int .i64 (n' : Int), .string t]] w fun e w' => e = .returned (.int .i64 0) ∧ Below w.heap.size w w') := by
      unfold Hid; rw [he] at H21; exact H21
    have h22 : Hid (∀ w, Calls Try.prog 27 #[.string s, .agg #[.int .i64 (a' : Int), .int .i64 (n' : Int), .string t]] w fun e w' => e = .returned (.string (madeOf s t a' n')) ∧ Below w.heap.size w w') :=
      fun w => replaced22 s t a' n' w (by omega) (by omega) (by omega)
    clear H21 he hf hm
    go_enter Try.func24, Try.ntmps24
    go_wp2_with (first
      | (go_at_call 26; refine (H.out _).mono ?_; rintro e w1 ⟨rfl, hb⟩; obtain ⟨hc, hfz⟩ := bcell hb)
      | (go_at_call 27; refine (h22.out _).mono ?_; rintro e w2 ⟨rfl, hb2⟩))
    go_ret2
    exact ⟨by rw [hv.out]; rfl, bl_stepE (bl_stepE ((Below.refl _ _).alloc (Nat.le_refl _) _) hb) hb2⟩
  · have hv : Hid (appV s t a n = .tuple #[.string ⟨#[]⟩, .int .i64 3]) := by
      unfold Hid appV; rw [appS_bad (by omega), he]
    have H : Hid (∀ w, Calls Try.prog 26 #[.string s, .agg #[.int .i64 a, .int .i64 n, .string t]] w fun e w' => e = .returned (.int .i64 3) ∧ Below w.heap.size w w') := by
      unfold Hid; rw [he] at H21; exact H21
    clear H21 he hf hm
    go_enter Try.func24, Try.ntmps24
    go_wp2_with (first
      | (go_at_call 26; refine (H.out _).mono ?_; rintro e w1 ⟨rfl, hb⟩; obtain ⟨hc, hfz⟩ := bcell hb))
    go_ret2
    exact ⟨by rw [hv.out]; rfl, bl_stepE ((Below.refl _ _).alloc (Nat.le_refl _) _) hb⟩
  · have hv : Hid (appV s t a n = .tuple #[.string ⟨#[]⟩, .int .i64 2]) := by
      unfold Hid appV; rw [appS_bad (by omega), he]
    have H : Hid (∀ w, Calls Try.prog 26 #[.string s, .agg #[.int .i64 a, .int .i64 n, .string t]] w fun e w' => e = .returned (.int .i64 2) ∧ Below w.heap.size w w') := by
      unfold Hid; rw [he] at H21; exact H21
    clear H21 he hf
    go_enter Try.func24, Try.ntmps24
    go_wp2_with (first
      | (go_at_call 26; refine (H.out _).mono ?_; rintro e w1 ⟨rfl, hb⟩; obtain ⟨hc, hfz⟩ := bcell hb))
    go_ret2
    exact ⟨by rw [hv.out]; rfl, bl_stepE ((Below.refl _ _).alloc (Nat.le_refl _) _) hb⟩

end Go.Proofs.Ytbemlnllhedbpaa
