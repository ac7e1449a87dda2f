/- For every text s and every edit e, topiarylaw01.EditIdle(s, e) returns true and leaves its arguments as they were; no condition. -/
import Derived.Test.YtfgjlgcoablnoaaLong
import Derived.Test.YtfgjlgcoablnoaaClose
import Derived.Test.YtfgjlgcoablnoaaMath
import Derived.Test.YtfgjlgcoablnoaaOne
namespace Go.Proofs.Ytfgjlgcoablnoaa
open Go.RowKit
open Go.ChangeShapes Go.WideShapes Go.ChangeAt

theorem idle_b : idleB ⟨#[97, 98]⟩ ⟨#[98]⟩ 1 1 = true := by decide +kernel
theorem idle_a : idleB ⟨#[97, 98]⟩ ⟨#[97]⟩ 1 1 = false := by decide +kernel
theorem idle_wakes (w : World) : Calls Try.prog 19 #[.string ⟨#[97, 98]⟩, .agg #[.int .i64 1, .int .i64 1, .string ⟨#[98]⟩]] w fun e w' => e = .returned (.bool true) ∧ Below w.heap.size w w' := by
  rw [← idle_b]; exact idle19 ⟨#[97, 98]⟩ ⟨#[98]⟩ 1 1 w (by decide) (by decide)
theorem idle_sleeps (w : World) : Calls Try.prog 19 #[.string ⟨#[97, 98]⟩, .agg #[.int .i64 1, .int .i64 1, .string ⟨#[97]⟩]] w fun e w' => e = .returned (.bool false) ∧ Below w.heap.size w w' := by
  rw [← idle_a]; exact idle19 ⟨#[97, 98]⟩ ⟨#[97]⟩ 1 1 w (by decide) (by decide)

set_option maxHeartbeats 1000000 in
theorem editIdle7 (s t : ByteArray) (a n : Int) (w : World) (hs : s.size ≤ 9223372036854775807) (ha : a ≤ 9223372036854775807) :
    Calls Try.prog 7 #[.string s, .agg #[.int .i64 a, .int .i64 n, .string t]] w fun e w' => e = .returned (.bool true) ∧ Below w.heap.size w w' := by
  have L := fun b cap w => long10_one s t b cap w hs
  cases hl : longB s.size [t] with
  | true =>
    rw [hl] at L
    have HL := hid L
    clear L hl
    go_enter Try.func7, Try.ntmps7
    go_wp2_with (first
        | (go_at_call_of 19 (Value.string ⟨#[98]⟩); refine (idle_wakes _).mono ?_; rintro e w1 ⟨rfl, hb⟩; obtain ⟨hc, hfz⟩ := bcell hb; have hz1 : w.heap.size < w1.heap.size := by (have := hb.size; simp at this; omega))
        | (go_at_call_of 19 (Value.string ⟨#[97]⟩); refine (idle_sleeps _).mono ?_; rintro e w2 ⟨rfl, hb2⟩; obtain ⟨hc2, hfz2⟩ := bcell hb2; have hz2 : w.heap.size < w2.heap.size := by (have := hb2.size; omega))
        | (go_at_call 10; refine (HL.out _ _ _ (by simp)).mono ?_; rintro e w3 ⟨rfl, rfl⟩))
    go_ret
    exact ⟨rfl, (bl_step (bl_step ((Below.refl _ _).alloc (Nat.le_refl _) _) hb) hb2).alloc (by omega) _⟩
  | false =>
    obtain ⟨l1, l2⟩ := longB_one hl
    rw [hl] at L
    have HL := hid L
    clear L hl
    by_cases h4 : 4000 < s.size
    · have h4' : (4000 : Int) < s.size := by omega
      go_enter Try.func7, Try.ntmps7
      go_wp2_with (first
        | (go_at_call_of 19 (Value.string ⟨#[98]⟩); refine (idle_wakes _).mono ?_; rintro e w1 ⟨rfl, hb⟩; obtain ⟨hc, hfz⟩ := bcell hb; have hz1 : w.heap.size < w1.heap.size := by (have := hb.size; simp at this; omega))
        | (go_at_call_of 19 (Value.string ⟨#[97]⟩); refine (idle_sleeps _).mono ?_; rintro e w2 ⟨rfl, hb2⟩; obtain ⟨hc2, hfz2⟩ := bcell hb2; have hz2 : w.heap.size < w2.heap.size := by (have := hb2.size; omega))
        | (go_at_call 10; refine (HL.out _ _ _ (by simp)).mono ?_; rintro e w3 ⟨rfl, rfl⟩))
      go_ret
      exact ⟨rfl, (bl_step (bl_step ((Below.refl _ _).alloc (Nat.le_refl _) _) hb) hb2).alloc (by omega) _⟩
    · have h4' : ¬ (4000 : Int) < s.size := by omega
      have H19 := fun w => idle19 s t a n w (by omega) ha
      have H12 : ∀ w, Calls Try.prog 12 #[.string s, .agg #[.int .i64 a, .int .i64 n, .string t]] w fun e w' => e = .returned (.tuple #[.string (appS s t a n), .int .i64 (errNo s.size a n t.size)]) ∧ Below w.heap.size w w' :=
        fun w => refApply12 s t a n w (by omega) (by omega) ha
      rw [idle_spec s t a n (by omega)] at H19
      generalize appS s t a n = x at H19 H12
      generalize errNo s.size a n t.size = k at H19 H12
      by_cases hk : k = 0
      · subst hk
        have G19 : Hid (∀ w, Calls Try.prog 19 #[.string s, .agg #[.int .i64 a, .int .i64 n, .string t]] w fun e w' => e = .returned (.bool (x.toList == s.toList)) ∧ Below w.heap.size w w') := by
          unfold Hid; simpa using H19
        have G12 := hid H12
        clear H19 H12
        go_enter Try.func7, Try.ntmps7
        go_wp2_with (first
        | (go_at_call_of 19 (Value.string ⟨#[98]⟩); refine (idle_wakes _).mono ?_; rintro e w1 ⟨rfl, hb⟩; obtain ⟨hc, hfz⟩ := bcell hb; have hz1 : w.heap.size < w1.heap.size := by (have := hb.size; simp at this; omega))
        | (go_at_call_of 19 (Value.string ⟨#[97]⟩); refine (idle_sleeps _).mono ?_; rintro e w2 ⟨rfl, hb2⟩; obtain ⟨hc2, hfz2⟩ := bcell hb2; have hz2 : w.heap.size < w2.heap.size := by (have := hb2.size; omega))
        | (go_at_call 10; refine (HL.out _ _ _ (by simp)).mono ?_; rintro e w3 ⟨rfl, rfl⟩)
        | (go_at_call 12; refine (G12.out _).mono ?_; rintro e w4 ⟨rfl, hb4⟩; obtain ⟨hc4, hfz4⟩ := bcell hb4; have hz4 : w.heap.size < w2.heap.size + 1 := by omega)
        | (go_at_call_of 19 (Value.string s); refine (G19.out _).mono ?_; rintro e w5 ⟨rfl, hb5⟩))
        go_ret
        exact ⟨rfl, bl_step (bl_step ((bl_step (bl_step ((Below.refl _ _).alloc (Nat.le_refl _) _) hb) hb2).alloc (by omega) _) hb4) hb5⟩
      · have hk' : (k == 0) = false := by simpa using hk
        have G19 : Hid (∀ w, Calls Try.prog 19 #[.string s, .agg #[.int .i64 a, .int .i64 n, .string t]] w fun e w' => e = .returned (.bool false) ∧ Below w.heap.size w w') := by
          unfold Hid; rw [hk', Bool.false_and] at H19; exact H19
        have G12 := hid H12
        clear H19 H12
        go_enter Try.func7, Try.ntmps7
        go_wp2_with (first
        | (go_at_call_of 19 (Value.string ⟨#[98]⟩); refine (idle_wakes _).mono ?_; rintro e w1 ⟨rfl, hb⟩; obtain ⟨hc, hfz⟩ := bcell hb; have hz1 : w.heap.size < w1.heap.size := by (have := hb.size; simp at this; omega))
        | (go_at_call_of 19 (Value.string ⟨#[97]⟩); refine (idle_sleeps _).mono ?_; rintro e w2 ⟨rfl, hb2⟩; obtain ⟨hc2, hfz2⟩ := bcell hb2; have hz2 : w.heap.size < w2.heap.size := by (have := hb2.size; omega))
        | (go_at_call 10; refine (HL.out _ _ _ (by simp)).mono ?_; rintro e w3 ⟨rfl, rfl⟩)
        | (go_at_call 12; refine (G12.out _).mono ?_; rintro e w4 ⟨rfl, hb4⟩; obtain ⟨hc4, hfz4⟩ := bcell hb4; have hz4 : w.heap.size < w2.heap.size + 1 := by omega)
        | (go_at_call_of 19 (Value.string s); refine (G19.out _).mono ?_; rintro e w5 ⟨rfl, hb5⟩))
        go_ret
        exact ⟨rfl, bl_step (bl_step ((bl_step (bl_step ((Below.refl _ _).alloc (Nat.le_refl _) _) hb) hb2).alloc (by omega) _) hb4) hb5⟩

set_option maxRecDepth 100000 in
theorem editIdle_lifted (os : Os) (started : os.Started) (H : Type) (enc : TypeId × Value → H) :
    ReturnsInHanded {} Try.checked os 7 .any (Rows.editIdleSpec.pre6 enc Try.prog Try.f7 Rows.editIdleRow.domain false) (Rows.editIdleSpec.post enc Try.prog Try.f7 false true false false) := by
  refine returnsInHanded_of_change (C := Try.checked) Try.own started (by kernel_rfl) Try.func7
    (ChangeSpec.witness6 (enc := enc) (C := Try.checked) false ⟨#[], #[.string .empty, .agg #[.int .i64 0, .int .i64 0, .string .empty]], []⟩ 8 (by kernel_rfl) (by kernel_rfl) (by kernel_rfl) (by kernel_rfl)) ?_
  intro W base args ds gs before hval0 hW hcnd _
  have hval : ∀ (j : Nat) t v, Try.f7.params[j]? = some t → args[j]? = some v → Value.okWide Try.prog W .any base t v := hval0
  have hW' := hW
  obtain ⟨p, q, hA0, hV, rfl, hfz, hnd⟩ := hW
  have hA : DataW.TrodAll enc Try.prog W 0 (fun _ => true) true Try.f7.params.toList args.toList ds p := hA0
  rw [Try.params7] at hA hval
  obtain ⟨s, t, a, n, d0, d1, rfl, rfl, hs, ht, ha0, ha, hn0, hn⟩ := open_se hval hA
  obtain ⟨rfl, rfl⟩ := trodVars_none hV
  clear hA0 hval0
  refine (editIdle7 s t a n W hs ha).mono fun e W' ⟨he, hb⟩ => ?_
  subst he
  exact ⟨_, rfl, law_post (by kernel_rfl) rfl (by kernel_rfl) rfl hW' hb⟩

theorem editIdle_holds : Rows.EditIdleSaid :=
  OpenClaim.holds_of_wide 7 Try.f7 rfl rfl rfl rfl rfl rfl rfl ⟨rfl, rfl, rfl, rfl, rfl⟩ rfl rfl rfl rfl rfl (by kernel_rfl) Try.func7 (by kernel_rfl)
    (of_decide_eq_true (by kernel_rfl)) (by unfold Func.isWrapper; first | (rw [if_pos (by decide +kernel)]; kernel_rfl) | (rw [if_neg (by decide +kernel)]; exact ⟨rfl, rfl⟩))
    (fun os started H enc _ => editIdle_lifted os started H enc)

end Go.Proofs.Ytfgjlgcoablnoaa
