/- The contract of edit.Idle. -/
import Derived.Test.YtfgjlgcoablnoaaApply2
import Derived.Deep.RegionWith
namespace Go.Proofs.Ytfgjlgcoablnoaa
open Go.RowKit

def idleB (s t : ByteArray) (a n : Int) : Bool := fitsB s.size a n && ((s.extract a.toNat (a.toNat + n.toNat)).toList == t.toList)

set_option maxHeartbeats 1000000 in
theorem idle19 (s t : ByteArray) (a n : Int) (w : World) (hs : s.size ≤ 1000000) (ha : a ≤ 9223372036854775807) :
    Calls Try.prog 19 #[.string s, .agg #[.int .i64 a, .int .i64 n, .string t]] w fun e w' => e = .returned (.bool (idleB s t a n)) ∧ Below w.heap.size w w' := by
  have H0 := fun w => fits28 s t a n w (by omega) ha
  cases hf : fitsB s.size a n with
  | true =>
    obtain ⟨f1, f2, f3⟩ := fitsB_true hf
    obtain ⟨a', rfl⟩ := Int.eq_ofNat_of_zero_le f1
    obtain ⟨n', rfl⟩ := Int.eq_ofNat_of_zero_le f2
    have hv : Hid (idleB s t a' n' = ((s.extract a' (a' + n')).toList == t.toList)) := by
      unfold Hid idleB; rw [hf]; rfl
    have H : Hid (∀ w, Calls Try.prog 28 #[.string s, .agg #[.int .i64 (a' : Int), .int .i64 (n' : Int), .string t]] w fun e w' => e = .returned (.bool true) ∧ Below w.heap.size w w') := by
      unfold Hid; rw [hf] at H0; exact H0
    have G : Hid (∀ w, Calls Try.prog 25 #[.string s, .agg #[.int .i64 (a' : Int), .int .i64 (n' : Int), .string t]] w fun e w' => e = .returned (.string (s.extract a' (a' + n'))) ∧ Below w.heap.size w w') :=
      fun w => gone25 s t a' n' w (by omega) (by omega)
    clear H0 hf
    go_enter Try.func19, Try.ntmps19
    go_wp2
    go_region_held3 (fun w' => w'.cell? ⟨w.heap.size, 0, none⟩ = some (.int .i64 a') ∧ w'.cell? ⟨w.heap.size, 1, none⟩ = some (.int .i64 n') ∧ w'.cell? ⟨w.heap.size, 2, none⟩ = some (.string t)) (go_keep) ((first | (go_at_call 28; refine (H.out _).mono ?_; rintro e w1 ⟨rfl, hb⟩; obtain ⟨hc, hfz⟩ := bcell hb) | (go_at_call 25; refine (G.out _).mono ?_; rintro e w2 ⟨rfl, hb2⟩; obtain ⟨hc2, hfz2⟩ := bcell hb2; have hz : w.heap.size < w1.heap.size := by (have := hb.size; simp at this; omega))))
    go_wp2
    go_ret
    exact ⟨by rw [hv.out]; rfl, bl_step (bl_step (((Below.refl _ _).alloc (Nat.le_refl _) _).drew) hb) hb2⟩
  | false =>
    have hv : Hid (idleB s t a n = false) := by
      unfold Hid idleB; rw [hf]; rfl
    have H : Hid (∀ w, Calls Try.prog 28 #[.string s, .agg #[.int .i64 a, .int .i64 n, .string t]] w fun e w' => e = .returned (.bool false) ∧ Below w.heap.size w w') := by
      unfold Hid; rw [hf] at H0; exact H0
    clear H0 hf
    go_enter Try.func19, Try.ntmps19
    go_wp2
    first
      | (go_region_with (go_at_call 28; refine (H.out _).mono ?_; rintro e w1 ⟨rfl, hb⟩; obtain ⟨hc, hfz⟩ := bcell hb))
      | fail
    all_goals
      go_wp2
      go_ret
      exact ⟨by rw [hv.out]; rfl, bl_step (((Below.refl _ _).alloc (Nat.le_refl _) _).drew) hb⟩

end Go.Proofs.Ytfgjlgcoablnoaa
