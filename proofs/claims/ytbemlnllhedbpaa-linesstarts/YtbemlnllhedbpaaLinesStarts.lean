/- LinesStarts, of every text: its lines begin where the document says. -/
import Derived.Test.YtbemlnllhedbpaaWakes
namespace Go.Proofs.Ytbemlnllhedbpaa
open Go.ChangeShapes Go.WideShapes Go.ChangeAt Go.RowKit

theorem startsWalk (s : ByteArray) (w : World) (hs : s.size ≤ 9223372036854775807) :
    Calls Try.prog 3 #[.string s] w fun e w' => e = .returned (.bool true) ∧ Below w.heap.size w w' := by
  have GW : Hid (∀ u, Calls Try.prog 8 #[] u fun e w' => e = .returned (.bool true) ∧ Below u.heap.size u w') := wakesC
  have GL := hid (fun u => longC s u hs)
  by_cases h : 4000 < s.size
  · rw [decide_eq_true h] at GL
    go_enter Try.func3, Try.ntmps3
    go_wp2_with (first
      | (go_at_call 8; refine (GW.out _).mono ?_; rintro e w1 ⟨rfl, hb1⟩)
      | (go_at_call 9; refine (GL.out _).mono ?_; rintro e w2 ⟨rfl, hw2⟩; subst w2))
    go_ret
    exact ⟨rfl, hb1⟩
  · rw [decide_eq_false h] at GL
    have GA : Hid (∀ u, Calls Try.prog 11 #[.string s] u fun e w' => ∃ v, e = .returned v ∧ Nums w' v (st s) ∧ Below u.heap.size u w') := fun u => startsC s u (by omega)
    have GB : Hid (∀ u, Calls Try.prog 12 #[.string s] u fun e w' => ∃ v, e = .returned v ∧ Nums w' v (st s) ∧ Below u.heap.size u w') := fun u => refStartsC s u (by omega)
    have GS : Hid (∀ va vb u, Nums u va (st s) → Nums u vb (st s) → Calls Try.prog 10 #[va, vb] u fun e w' => e = .returned (.bool true) ∧ Below u.heap.size u w') := fun va vb u ha hb => by
      have hl := st_len s
      have := same10 va vb (st s) (st s) u (by omega) (by omega) ha hb
      rwa [decide_eq_true rfl] at this
    go_enter Try.func3, Try.ntmps3
    go_wp2_with (first
      | (go_at_call 8; refine (GW.out _).mono ?_; rintro e w1 ⟨rfl, hb1⟩)
      | (go_at_call 9; refine (GL.out _).mono ?_; rintro e w2 ⟨rfl, hw2⟩; subst w2)
      | (go_at_call 11; refine (GA.out _).mono ?_; rintro e w3 ⟨va, rfl, hn3, hb3⟩)
      | (go_at_call 12; refine (GB.out _).mono ?_; rintro e w4 ⟨vb, rfl, hn4, hb4⟩)
      | (go_at_call 10; refine (GS.out _ _ _ (hn3.keep hb4) hn4).mono ?_; rintro e w5 ⟨rfl, hb5⟩))
    go_ret
    exact ⟨rfl, bl_step (bl_step (bl_step hb1 hb3) hb4) hb5⟩

set_option maxRecDepth 100000 in
theorem linesStarts_lifted (os : Os) (started : os.Started) (H : Type) (enc : TypeId × Value → H) :
    ReturnsInHanded {} Try.checked os 3 .any (Rows.linesStartsSpec.pre6 enc Try.prog Try.f3 Rows.linesStartsRow.domain false) (Rows.linesStartsSpec.post enc Try.prog Try.f3 false true false false) := by
  refine returnsInHanded_of_change (C := Try.checked) Try.own started (by kernel_rfl) Try.func3
    (ChangeSpec.witness6 (enc := enc) (C := Try.checked) false ⟨#[], #[.string .empty], []⟩ 8 (by kernel_rfl) (by kernel_rfl) (by kernel_rfl) (by kernel_rfl)) ?_
  intro W base args ds gs before hval0 hW hcnd _
  have hval : ∀ (j : Nat) t v, Try.f3.params[j]? = some t → args[j]? = some v → Value.okWide Try.prog W .any base t v := hval0
  have hW' := hW
  obtain ⟨p, q, hA0, hV, rfl, hfz, hnd⟩ := hW
  have hA : DataW.TrodAll enc Try.prog W 0 (fun _ => true) true Try.f3.params.toList args.toList ds p := hA0
  rw [Try.params3] at hA hval
  obtain ⟨s, d0, rfl, rfl, hs⟩ := open_s hval hA
  obtain ⟨rfl, rfl⟩ := trodVars_none hV
  clear hA0 hval0
  refine (startsWalk s W hs).mono fun e W' ⟨he, hb⟩ => ?_
  subst he
  exact ⟨_, rfl, law_post (by kernel_rfl) rfl (by kernel_rfl) rfl hW' hb⟩

theorem linesStarts_holds : Rows.LinesStartsSaid :=
  OpenClaim.holds_of_wide 3 Try.f3 rfl rfl rfl rfl rfl rfl rfl ⟨rfl, rfl, rfl, rfl, rfl⟩ rfl rfl rfl rfl rfl (by kernel_rfl) Try.func3 (by kernel_rfl)
    (of_decide_eq_true (by kernel_rfl)) (by unfold Func.isWrapper; first | (rw [if_pos (by decide +kernel)]; kernel_rfl) | (rw [if_neg (by decide +kernel)]; exact ⟨rfl, rfl⟩))
    (fun os started H enc _ => linesStarts_lifted os started H enc)

end Go.Proofs.Ytbemlnllhedbpaa
