/- For every text s and every edit e, topiarylaw01.EditApplies(s, e) returns true and leaves its arguments as they were; no condition. -/
import Derived.Test.YtfgjlgcoablnoaaOne
import Derived.Test.YtfgjlgcoablnoaaClose
namespace Go.Proofs.Ytfgjlgcoablnoaa
open Go.RowKit
open Go.ChangeShapes Go.WideShapes Go.ChangeAt
open Go.ChangeMaps (open_string shut_string)

set_option maxHeartbeats 400000 in
theorem editApplies3 (s t : ByteArray) (a n : Int) (w : World) (hs : s.size ≤ 9223372036854775807) (ha : a ≤ 9223372036854775807) :
    Calls Try.prog 3 #[.string s, .agg #[.int .i64 a, .int .i64 n, .string t]] w fun e w' => e = .returned (.bool true) ∧ Below w.heap.size w w' := by
  have L := fun b cap w => long10_one s t b cap w hs
  cases hl : longB s.size [t] with
  | true =>
    rw [hl] at L
    have HL := hid L
    clear L hl
    go_enter Try.func3, Try.ntmps3
    go_wp2_with (first
      | (go_at_call 9; refine (wakes9 _).mono ?_; rintro e w1 ⟨rfl, hb⟩; obtain ⟨hc, hfz⟩ := bcell hb; have hz1 : w.heap.size < w1.heap.size := by (have := hb.size; simp at this; omega))
      | (go_at_call 10; refine (HL.out _ _ _ (by simp)).mono ?_; rintro e w2 ⟨rfl, rfl⟩))
    go_ret
    exact ⟨rfl, (bl_step ((Below.refl _ _).alloc (Nat.le_refl _) _) hb).alloc (by have := hb.size; simp at this; omega) _⟩
  | false =>
    obtain ⟨l1, l2⟩ := longB_one hl
    rw [hl] at L
    have HL := hid L
    have H11 : ∀ w, Calls Try.prog 11 #[.string s, .agg #[.int .i64 a, .int .i64 n, .string t]] w fun e w' => e = .returned (.tuple #[.string (appS s t a n), .int .i64 (errNo s.size a n t.size)]) ∧ Below w.heap.size w w' :=
      fun w => apply11 s t a n w (by omega) (by omega) ha
    have H12 : ∀ w, Calls Try.prog 12 #[.string s, .agg #[.int .i64 a, .int .i64 n, .string t]] w fun e w' => e = .returned (.tuple #[.string (appS s t a n), .int .i64 (errNo s.size a n t.size)]) ∧ Below w.heap.size w w' :=
      fun w => refApply12 s t a n w (by omega) (by omega) ha
    generalize appS s t a n = x at H11 H12
    generalize errNo s.size a n t.size = k at H11 H12
    have G11 := hid H11
    have G12 := hid H12
    clear L hl H11 H12
    go_enter Try.func3, Try.ntmps3
    go_wp2_with (first
      | (go_at_call 9; refine (wakes9 _).mono ?_; rintro e w1 ⟨rfl, hb⟩; obtain ⟨hc, hfz⟩ := bcell hb; have hz1 : w.heap.size < w1.heap.size := by (have := hb.size; simp at this; omega))
      | (go_at_call 10; refine (HL.out _ _ _ (by simp)).mono ?_; rintro e w2 ⟨rfl, rfl⟩)
      | (go_at_call 11; refine (G11.out _).mono ?_; rintro e w3 ⟨rfl, hb3⟩; obtain ⟨hc3, hfz3⟩ := bcell hb3; have hz2 : w.heap.size < w1.heap.size + 1 := by omega)
      | (go_at_call 12; refine (G12.out _).mono ?_; rintro e w4 ⟨rfl, hb4⟩))
    go_ret
    exact ⟨rfl, bl_step (bl_step ((bl_step ((Below.refl _ _).alloc (Nat.le_refl _) _) hb).alloc (by have := hb.size; simp at this; omega) _) hb3) hb4⟩

set_option maxRecDepth 100000 in
theorem editApplies_lifted (os : Os) (started : os.Started) (H : Type) (enc : TypeId × Value → H) :
    ReturnsInHanded {} Try.checked os 3 .any (Rows.editAppliesSpec.pre6 enc Try.prog Try.f3 Rows.editAppliesRow.domain false) (Rows.editAppliesSpec.post enc Try.prog Try.f3 false true false false) := by
  refine returnsInHanded_of_change (C := Try.checked) Try.own started (by kernel_rfl) Try.func3
    (ChangeSpec.witness6 (enc := enc) (C := Try.checked) false ⟨#[], #[.string .empty, .agg #[.int .i64 0, .int .i64 0, .string .empty]], []⟩ 8 (by kernel_rfl) (by kernel_rfl) (by kernel_rfl) (by kernel_rfl)) ?_
  intro W base args ds gs before hval0 hW hcnd _
  have hval : ∀ (j : Nat) t v, Try.f3.params[j]? = some t → args[j]? = some v → Value.okWide Try.prog W .any base t v := hval0
  have hW' := hW
  obtain ⟨p, q, hA0, hV, rfl, hfz, hnd⟩ := hW
  have hA : DataW.TrodAll enc Try.prog W 0 (fun _ => true) true Try.f3.params.toList args.toList ds p := hA0
  rw [Try.params3] at hA hval
  obtain ⟨s, t, a, n, d0, d1, rfl, rfl, hs, ht, ha0, ha, hn0, hn⟩ := open_se hval hA
  obtain ⟨rfl, rfl⟩ := trodVars_none hV
  clear hA0 hval0
  refine (editApplies3 s t a n W hs ha).mono fun e W' ⟨he, hb⟩ => ?_
  subst he
  exact ⟨_, rfl, law_post (by kernel_rfl) rfl (by kernel_rfl) rfl hW' hb⟩

theorem editApplies_holds : Rows.EditAppliesSaid :=
  OpenClaim.holds_of_wide 3 Try.f3 rfl rfl rfl rfl rfl rfl rfl ⟨rfl, rfl, rfl, rfl, rfl⟩ rfl rfl rfl rfl rfl (by kernel_rfl) Try.func3 (by kernel_rfl)
    (of_decide_eq_true (by kernel_rfl)) (by unfold Func.isWrapper; first | (rw [if_pos (by decide +kernel)]; kernel_rfl) | (rw [if_neg (by decide +kernel)]; exact ⟨rfl, rfl⟩))
    (fun os started H enc _ => editApplies_lifted os started H enc)

#print axioms editApplies_holds
end Go.Proofs.Ytfgjlgcoablnoaa
