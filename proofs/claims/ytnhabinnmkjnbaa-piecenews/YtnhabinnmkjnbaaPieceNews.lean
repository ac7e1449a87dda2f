/- PieceNews, of every text s: a text is made of s just if it has at most 4000 bytes; a text that is not there tells so. -/
import Derived.Test.YtnhabinnmkjnbaaWakes
import Derived.Test.YtnhabinnmkjnbaaClose
namespace Go.Proofs.Ytnhabinnmkjnbaa
open Go.ChangeShapes Go.WideShapes Go.ChangeAt Go.RowKit
open Go.ChangeMaps (open_string shut_string)

set_option maxHeartbeats 4000000 in
theorem newsWalk (s : ByteArray) (w : World) (hs : s.size ≤ 9223372036854775807) : Calls Try.prog 6 #[.string s] w fun e w' => e = .returned (.bool true) ∧ Below w.heap.size w w' := by
  have GW : Hid (∀ u, Calls Try.prog 8 #[] u fun e w' => e = .returned (.bool true) ∧ Below u.heap.size u w') := wakesT
  have N1 := hid nilSlice
  have N2 := hid nilSteps
  have N3 := hid nilEdit
  have N4 := hid nilUndo
  have N5 := hid nilRedo
  have N6 := hid nilLen
  have N7 := hid nilString
  by_cases h1 : 65536 < s.size
  · have h1' : (65536 : Int) < s.size := by omega
    go_enter Try.func6, Try.ntmps6
    go_wp2_with (first
      | (go_at_call 8; refine (GW.out _).mono ?_; rintro e w2 ⟨rfl, hb2⟩; have acc2 := bl_step acc hb2)
      | (go_at_call 8; refine (GW.out _).mono ?_; rintro e w1 ⟨rfl, acc⟩))
    go_ret
    exact ⟨rfl, acc2⟩
  · have h1' : ¬ (65536 : Int) < s.size := by omega
    by_cases h2 : 4000 < s.size
    · have h2' : (4000 : Int) < s.size := by omega
      have GN : Hid (∀ u, Calls Try.prog 10 #[.string s] u fun e w' => e = .returned (.tuple #[.pointer none, .int .i64 3]) ∧ w' = u) := fun u => newFull s u hs h2
      go_enter Try.func6, Try.ntmps6
      go_wp2_with (first
      | (go_at_call 8; refine (GW.out _).mono ?_; rintro e w1 ⟨rfl, hb1⟩)
      | (go_at_call 10; refine (GN.out _).mono ?_; rintro e w2 ⟨rfl, hw2⟩; subst w2)
      | (go_at_call_of 16 (Value.pointer none); refine (N1.out _).mono ?_; rintro e w3 ⟨rfl, hb3⟩)
      | (go_at_call_of 12 (Value.pointer none); refine (N2.out _).mono ?_; rintro e w4 ⟨rfl, hb4⟩)
      | (go_at_call_of 15 (Value.pointer none); refine (N3.out _ _ rfl).mono ?_; rintro e w5 ⟨rfl, hb5⟩)
      | (go_at_call_of 18 (Value.pointer none); refine (N4.out _).mono ?_; rintro e w6 ⟨rfl, hb6⟩)
      | (go_at_call_of 19 (Value.pointer none); refine (N5.out _).mono ?_; rintro e w7 ⟨rfl, hb7⟩)
      | (go_at_call_of 14 (Value.pointer none); refine (N6.out _).mono ?_; rintro e w8 ⟨rfl, hb8⟩)
      | (go_at_call_of 13 (Value.pointer none); refine (N7.out _).mono ?_; rintro e w9 ⟨rfl, hb9⟩))
      go_ret
      exact ⟨rfl, bl_step (bl_step (bl_step (bl_step (bl_step (bl_step (bl_step hb1 hb3) hb4) hb5) hb6) hb7) hb8) hb9⟩
    · have h2' : ¬ (4000 : Int) < s.size := by omega
      have GN : Hid (∀ u, Calls Try.prog 10 #[.string s] u fun e w' => ∃ tb F, e = .returned (.tuple #[.pointer (some ⟨tb, 0, none⟩), .int .i64 0]) ∧ IsText w' tb F ⟨[], s, []⟩ ∧ (∀ k, F k → u.heap.size ≤ k) ∧ Below u.heap.size u w') := fun u => newT s u (by omega)
      have GS : Hid (∀ u tb F, IsText u tb F ⟨[], s, []⟩ → Calls Try.prog 13 #[.pointer (some ⟨tb, 0, none⟩)] u fun e w' => e = .returned (.string s) ∧ ∃ F', IsText w' tb F' ⟨[], s, []⟩ ∧ Moved F F' u w') := fun u tb F h => stringT h
      have GL : Hid (∀ u tb F, IsText u tb F ⟨[], s, []⟩ → Calls Try.prog 14 #[.pointer (some ⟨tb, 0, none⟩)] u fun e w' => e = .returned (.int .i64 (s.size : Int)) ∧ w' = u) := fun u tb F h => lenT h
      go_enter Try.func6, Try.ntmps6
      go_wp2_with (first
      | (go_at_call 8; refine (GW.out _).mono ?_; rintro e w1 ⟨rfl, hb1⟩)
      | (go_at_call 10; refine (GN.out _).mono ?_; rintro e w2 ⟨tb, F, rfl, ht, hF, hb2⟩)
      | (go_at_call_of 16 (Value.pointer none); refine (N1.out _).mono ?_; rintro e w3 ⟨rfl, hb3⟩)
      | (go_at_call_of 12 (Value.pointer none); refine (N2.out _).mono ?_; rintro e w4 ⟨rfl, hb4⟩)
      | (go_at_call_of 15 (Value.pointer none); refine (N3.out _ _ rfl).mono ?_; rintro e w5 ⟨rfl, hb5⟩)
      | (go_at_call_of 18 (Value.pointer none); refine (N4.out _).mono ?_; rintro e w6 ⟨rfl, hb6⟩)
      | (go_at_call_of 19 (Value.pointer none); refine (N5.out _).mono ?_; rintro e w7 ⟨rfl, hb7⟩)
      | (go_at_call_of 14 (Value.pointer none); refine (N6.out _).mono ?_; rintro e w8 ⟨rfl, hb8⟩)
      | (go_at_call_of 13 (Value.pointer none); refine (N7.out _).mono ?_; rintro e w9 ⟨rfl, hb9⟩)
      | (go_at_call 13; refine (GS.out _ _ _ (((((((ht.low hb3).low hb4).low hb5).low hb6).low hb7).low hb8).low hb9)).mono ?_; rintro e wa ⟨rfl, F', hta, ma⟩)
      | (go_at_call 14; refine (GL.out _ _ _ hta).mono ?_; rintro e wb ⟨rfl, hwb⟩; subst wb))
      go_ret
      have z1 := hb1.size
      have z2 := hb2.size
      have B : Below w.heap.size w w9 := bl_step (bl_step (bl_step (bl_step (bl_step (bl_step (bl_step (bl_step hb1 hb2) hb3) hb4) hb5) hb6) hb7) hb8) hb9
      exact ⟨rfl, B.trans (ma.1.below (fun k hk => Nat.le_trans z1 (hF k hk)) B.size)⟩

theorem open_s {H : Type} {enc : TypeId × Value → H} {W : World} {base : Nat} {args : Array Value} {ds : List (DataW H)} {p : List MemPlace}
    (hval : ∀ (j : Nat) t v, #[9][j]? = some t → args[j]? = some v → Value.okWide Try.prog W .any base t v)
    (hA : DataW.TrodAll enc Try.prog W 0 (fun _ => true) true [9] args.toList ds p) :
    ∃ (s : ByteArray) (d0 : DataW H), args = #[.string s] ∧ ds = [d0] ∧ s.size ≤ 9223372036854775807 := by
  obtain ⟨v0, d0, rfl, rfl, h0⟩ := trodAll_one hA
  obtain ⟨s, rfl, rfl, rfl, hs⟩ := open_string Try.underlying9 (hval 0 9 v0 rfl rfl) h0
  unfold maxLen at hs
  exact ⟨s, _, rfl, rfl, by omega⟩

set_option maxRecDepth 100000 in
theorem pieceNews_lifted (os : Os) (started : os.Started) (H : Type) (enc : TypeId × Value → H) :
    ReturnsInHanded {} Try.checked os 6 .any (Rows.pieceNewsSpec.pre6 enc Try.prog Try.f6 Rows.pieceNewsRow.domain false) (Rows.pieceNewsSpec.post enc Try.prog Try.f6 false true false false) := by
  refine returnsInHanded_of_change (C := Try.checked) Try.own started (by kernel_rfl) Try.func6
    (ChangeSpec.witness6 (enc := enc) (C := Try.checked) false ⟨#[], #[.string .empty], []⟩ 8 (by kernel_rfl) (by kernel_rfl) (by kernel_rfl) (by kernel_rfl)) ?_
  intro W base args ds gs before hval0 hW hcnd _
  have hval : ∀ (j : Nat) t v, Try.f6.params[j]? = some t → args[j]? = some v → Value.okWide Try.prog W .any base t v := hval0
  have hW' := hW
  obtain ⟨p, q, hA0, hV, rfl, hfz, hnd⟩ := hW
  have hA : DataW.TrodAll enc Try.prog W 0 (fun _ => true) true Try.f6.params.toList args.toList ds p := hA0
  rw [Try.params6] at hA hval
  obtain ⟨s, d0, rfl, rfl, hs⟩ := open_s hval hA
  obtain ⟨rfl, rfl⟩ := trodVars_none hV
  clear hA0 hval0
  refine (newsWalk s W hs).mono fun e W' ⟨he, hb⟩ => ?_
  subst he
  exact ⟨_, rfl, law_post (by kernel_rfl) rfl (by kernel_rfl) rfl hW' hb⟩

theorem pieceNews_holds : Rows.PieceNewsSaid :=
  OpenClaim.holds_of_wide 6 Try.f6 rfl rfl rfl rfl rfl rfl rfl ⟨rfl, rfl, rfl, rfl, rfl⟩ rfl rfl rfl rfl rfl (by kernel_rfl) Try.func6 (by kernel_rfl)
    (of_decide_eq_true (by kernel_rfl)) (by unfold Func.isWrapper; first | (rw [if_pos (by decide +kernel)]; kernel_rfl) | (rw [if_neg (by decide +kernel)]; exact ⟨rfl, rfl⟩))
    (fun os started H enc _ => pieceNews_lifted os started H enc)

end Go.Proofs.Ytnhabinnmkjnbaa
