/- LinesPlaces, of every text and place: its line and column are what the document says, or there is none; they lead back to it. -/
import Derived.Test.YtbemlnllhedbpaaPlace
namespace Go.Proofs.Ytbemlnllhedbpaa
open Go.ChangeShapes Go.WideShapes Go.ChangeAt Go.RowKit

theorem placesWalk (s : ByteArray) (a : Int) (w : World) (hs : s.size ≤ 9223372036854775807) :
    Calls Try.prog 4 #[.string s, .int .i64 a] w fun e w' => e = .returned (.bool true) ∧ Below w.heap.size w w' := by
  have GW : Hid (∀ u, Calls Try.prog 8 #[] u fun e w' => e = .returned (.bool true) ∧ Below u.heap.size u w') := wakesC
  have GL := hid (fun u => longC s u hs)
  by_cases h : 4000 < s.size
  · rw [decide_eq_true h] at GL
    go_enter Try.func4, Try.ntmps4
    go_wp2_with (first
      | (go_at_call 8; refine (GW.out _).mono ?_; rintro e w1 ⟨rfl, hb1⟩)
      | (go_at_call 9; refine (GL.out _).mono ?_; rintro e w2 ⟨rfl, hw2⟩; subst w2))
    go_ret
    exact ⟨rfl, hb1⟩
  · rw [decide_eq_false h] at GL
    by_cases hbad : a < 0 ∨ (s.size : Int) < a
    · have GP := hid (fun u => placeNo s a u hbad)
      by_cases h0 : a < 0
      · clear hbad
        go_enter Try.func4, Try.ntmps4
        go_wp2_with (first
          | (go_at_call 8; refine (GW.out _).mono ?_; rintro e w1 ⟨rfl, hb1⟩)
          | (go_at_call 9; refine (GL.out _).mono ?_; rintro e w2 ⟨rfl, hw2⟩; subst w2)
          | (go_at_call 13; refine (GP.out _).mono ?_; rintro e w3 ⟨rfl, hb3⟩))
        go_ret
        exact ⟨rfl, bl_step hb1 hb3⟩
      · have h2 : (s.size : Int) < a := by omega
        clear hbad
        go_enter Try.func4, Try.ntmps4
        go_wp2_with (first
          | (go_at_call 8; refine (GW.out _).mono ?_; rintro e w1 ⟨rfl, hb1⟩)
          | (go_at_call 9; refine (GL.out _).mono ?_; rintro e w2 ⟨rfl, hw2⟩; subst w2)
          | (go_at_call 13; refine (GP.out _).mono ?_; rintro e w3 ⟨rfl, hb3⟩))
        go_ret
        exact ⟨rfl, bl_step hb1 hb3⟩
    · obtain ⟨k, rfl⟩ : ∃ k : Nat, a = k := ⟨a.toNat, by omega⟩
      have hk : k ≤ s.size := by omega
      have h0 : ¬ (k : Int) < 0 := by omega
      have h2 : ¬ (s.size : Int) < (k : Int) := by omega
      have hv := atV_some hk rfl rfl
      have hN : atN s (ln s k) (cl s k) = k := by unfold atN; rw [hv]
      have hE : atE s (ln s k) (cl s k) = 0 := by unfold atE; rw [hv]
      have hc := cl_pos s k
      have GP := hid (fun u => placeOk s k u (by omega) hk)
      have GA0 := fun u => atC s (ln s k) (cl s k) u (by omega) (by omega)
      rw [hN, hE] at GA0
      have GA := hid GA0
      have GB := hid (fun u => lineC s k u (by omega) hk)
      have GC := hid (fun u => columnC s k u (by omega) hk)
      clear hv hN hE GA0 hbad hc
      generalize (ln s k : Int) = x at GP GA GB
      generalize cl s k = y at GP GA GC
      go_enter Try.func4, Try.ntmps4
      go_wp2_with (first
        | (go_at_call 8; refine (GW.out _).mono ?_; rintro e w1 ⟨rfl, hb1⟩)
        | (go_at_call 9; refine (GL.out _).mono ?_; rintro e w2 ⟨rfl, hw2⟩; subst w2)
        | (go_at_call 13; refine (GP.out _).mono ?_; rintro e w3 ⟨rfl, hb3⟩)
        | (go_at_call 14; refine (GA.out _).mono ?_; rintro e w4 ⟨rfl, hb4⟩)
        | (go_at_call 15; refine (GB.out _).mono ?_; rintro e w5 ⟨rfl, hw5⟩; subst w5)
        | (go_at_call 16; refine (GC.out _).mono ?_; rintro e w6 ⟨rfl, hw6⟩; subst w6))
      go_ret
      exact ⟨by first | rfl | simp, bl_step (bl_step hb1 hb3) hb4⟩

set_option maxRecDepth 100000 in
theorem linesPlaces_lifted (os : Os) (started : os.Started) (H : Type) (enc : TypeId × Value → H) :
    ReturnsInHanded {} Try.checked os 4 .any (Rows.linesPlacesSpec.pre6 enc Try.prog Try.f4 Rows.linesPlacesRow.domain false) (Rows.linesPlacesSpec.post enc Try.prog Try.f4 false true false false) := by
  refine returnsInHanded_of_change (C := Try.checked) Try.own started (by kernel_rfl) Try.func4
    (ChangeSpec.witness6 (enc := enc) (C := Try.checked) false ⟨#[], #[.string .empty, .int .i64 0], []⟩ 8 (by kernel_rfl) (by kernel_rfl) (by kernel_rfl) (by kernel_rfl)) ?_
  intro W base args ds gs before hval0 hW hcnd _
  have hval : ∀ (j : Nat) t v, Try.f4.params[j]? = some t → args[j]? = some v → Value.okWide Try.prog W .any base t v := hval0
  have hW' := hW
  obtain ⟨p, q, hA0, hV, rfl, hfz, hnd⟩ := hW
  have hA : DataW.TrodAll enc Try.prog W 0 (fun _ => true) true Try.f4.params.toList args.toList ds p := hA0
  rw [Try.params4] at hA hval
  obtain ⟨s, a, d0, d1, rfl, rfl, hs, ha0, ha⟩ := open_si hval hA
  obtain ⟨rfl, rfl⟩ := trodVars_none hV
  clear hA0 hval0
  refine (placesWalk s a W hs).mono fun e W' ⟨he, hb⟩ => ?_
  subst he
  exact ⟨_, rfl, law_post (by kernel_rfl) rfl (by kernel_rfl) rfl hW' hb⟩

theorem linesPlaces_holds : Rows.LinesPlacesSaid :=
  OpenClaim.holds_of_wide 4 Try.f4 rfl rfl rfl rfl rfl rfl rfl ⟨rfl, rfl, rfl, rfl, rfl⟩ rfl rfl rfl rfl rfl (by kernel_rfl) Try.func4 (by kernel_rfl)
    (of_decide_eq_true (by kernel_rfl)) (by unfold Func.isWrapper; first | (rw [if_pos (by decide +kernel)]; kernel_rfl) | (rw [if_neg (by decide +kernel)]; exact ⟨rfl, rfl⟩))
    (fun os started H enc _ => linesPlaces_lifted os started H enc)

end Go.Proofs.Ytbemlnllhedbpaa
