/- For every text s and every edit e, topiarylaw01.EditBack(s, e) returns true and leaves its arguments as they were; no condition. -/
import Derived.Test.YtfgjlgcoablnoaaOne
import Derived.Test.YtfgjlgcoablnoaaClose
import Derived.Test.YtfgjlgcoablnoaaCells
namespace Go.Proofs.Ytfgjlgcoablnoaa
open Go.RowKit
open Go.ChangeShapes Go.WideShapes Go.ChangeAt

set_option maxHeartbeats 1000000 in
theorem editBack4_no (s t : ByteArray) (a n k : Int) (x : ByteArray) (w : World) (hk : (k != 0) = true)
    (HL : Hid (∀ b cap w, w.cell? ⟨b, 2, none⟩ = some (.string t) → Calls Try.prog 10 #[.string s, .slice (some ⟨b, 0, none⟩) 1 cap] w fun e w' => e = .returned (.bool false) ∧ w' = w))
    (G13 : Hid (∀ w, Calls Try.prog 13 #[.string s, .agg #[.int .i64 a, .int .i64 n, .string t]] w fun e w' => e = .returned (.tuple #[.agg #[.int .i64 0, .int .i64 0, .string ⟨#[]⟩], .int .i64 k]) ∧ Below w.heap.size w w'))
    (G12 : Hid (∀ w, Calls Try.prog 12 #[.string s, .agg #[.int .i64 a, .int .i64 n, .string t]] w fun e w' => e = .returned (.tuple #[.string x, .int .i64 k]) ∧ Below w.heap.size w w')) :
    Calls Try.prog 4 #[.string s, .agg #[.int .i64 a, .int .i64 n, .string t]] w fun e w' => e = .returned (.bool true) ∧ Below w.heap.size w w' := by
  go_enter Try.func4, Try.ntmps4
  go_wp2_with (first
    | (go_at_call 9; refine (wakes9 _).mono ?_; rintro e w1 ⟨rfl, hb⟩; have E1 := keep_blk hb (heap_alloc_new w _); have C1 := cells3 E1; have hz1 := blk_lt E1)
    | (go_at_call 10; refine (HL.out _ _ _ (by simp)).mono ?_; rintro e w' ⟨rfl, rfl⟩)
    | (go_at_call 13; refine (G13.out _).mono ?_; rintro e w2 ⟨rfl, hb2⟩; have E2 := keep_blk hb2 (blk_alloc E1 _); have C2 := cells3 E2; have hz2 := blk_lt E2)
    | (go_at_call 12; refine (G12.out _).mono ?_; rintro e w3 ⟨rfl, hb3⟩; have E3 := keep_blk hb3 (blk_alloc E2 _); have C3 := cells3 E3; have hz3 := blk_lt E3; have D3 := keep_blk hb3 (heap_alloc_new w2 _); have F3 := cells3 D3))
  go_ret
  exact ⟨rfl, bl_step (bl_alloc (bl_step (bl_alloc (bl_step (bl_alloc (Below.refl _ _)) hb)) hb2)) hb3⟩

set_option maxHeartbeats 4000000 in
theorem editBack4_long (s t : ByteArray) (a n tz : Int) (x y : ByteArray) (w : World) (hlen : (4000 : Int) < s.size)
    (HL : Hid (∀ b cap w, w.cell? ⟨b, 2, none⟩ = some (.string t) → Calls Try.prog 10 #[.string s, .slice (some ⟨b, 0, none⟩) 1 cap] w fun e w' => e = .returned (.bool false) ∧ w' = w))
    (G13 : Hid (∀ w, Calls Try.prog 13 #[.string s, .agg #[.int .i64 a, .int .i64 n, .string t]] w fun e w' => e = .returned (.tuple #[.agg #[.int .i64 a, .int .i64 tz, .string y], .int .i64 0]) ∧ Below w.heap.size w w'))
    (G12 : Hid (∀ w, Calls Try.prog 12 #[.string s, .agg #[.int .i64 a, .int .i64 n, .string t]] w fun e w' => e = .returned (.tuple #[.string x, .int .i64 0]) ∧ Below w.heap.size w w'))
    (G11 : Hid (∀ w, Calls Try.prog 11 #[.string x, .agg #[.int .i64 a, .int .i64 tz, .string y]] w fun e w' => e = .returned (.tuple #[.string ⟨#[]⟩, .int .i64 3]) ∧ Below w.heap.size w w'))
    (K13 : Hid (∀ w, Calls Try.prog 13 #[.string x, .agg #[.int .i64 a, .int .i64 tz, .string y]] w fun e w' => e = .returned (.tuple #[.agg #[.int .i64 0, .int .i64 0, .string ⟨#[]⟩], .int .i64 3]) ∧ Below w.heap.size w w'))
    (G14 : Hid (∀ w, Calls Try.prog 14 #[.string s, .agg #[.int .i64 a, .int .i64 n, .string t]] w fun e w' => e = .returned (.agg #[.int .i64 a, .int .i64 tz, .string y]) ∧ Below w.heap.size w w')) :
    Calls Try.prog 4 #[.string s, .agg #[.int .i64 a, .int .i64 n, .string t]] w fun e w' => e = .returned (.bool true) ∧ Below w.heap.size w w' := by
  go_enter Try.func4, Try.ntmps4
  go_wp2_with (first
    | (go_at_call 9; refine (wakes9 _).mono ?_; rintro e w1 ⟨rfl, hb⟩; have E1 := keep_blk hb (heap_alloc_new w _); have C1 := cells3 E1; have hz1 := blk_lt E1)
    | (go_at_call 10; refine (HL.out _ _ _ (by simp)).mono ?_; rintro e w' ⟨rfl, rfl⟩)
    | (go_at_call 12; refine (G12.out _).mono ?_; rintro e w3 ⟨rfl, hb3⟩; have E3 := keep_blk hb3 (blk_alloc E2 _); have C3 := cells3 E3; have hz3 := blk_lt E3; have D3 := keep_blk hb3 (heap_alloc_new w2 _); have F3 := cells3 D3)
    | (go_at_call 11; refine (G11.out _).mono ?_; rintro e w4 ⟨rfl, hb4⟩; have E4 := keep_blk hb4 E3; have C4 := cells3 E4; have D4 := keep_blk hb4 D3; have F4 := cells3 D4)
    | (go_at_call_of 13 (Value.string s); refine (G13.out _).mono ?_; rintro e w2 ⟨rfl, hb2⟩; have E2 := keep_blk hb2 (blk_alloc E1 _); have C2 := cells3 E2; have hz2 := blk_lt E2)
    | (go_at_call_of 13 (Value.string x); refine (K13.out _).mono ?_; rintro e w5 ⟨rfl, hb5⟩; have E5 := keep_blk hb5 E4; have C5 := cells3 E5; have D5 := keep_blk hb5 D4; have F5 := cells3 D5; have y5 := blk_lt E5; have z5 := blk_lt D5))
  go_region_held3 (fun w' => w'.cell? ⟨w.heap.size, 0, none⟩ = some (.int .i64 a) ∧ w'.cell? ⟨w.heap.size, 1, none⟩ = some (.int .i64 n) ∧ w'.cell? ⟨w.heap.size, 2, none⟩ = some (.string t) ∧ w'.cell? ⟨w2.heap.size, 0, none⟩ = some (.int .i64 a) ∧ w'.cell? ⟨w2.heap.size, 1, none⟩ = some (.int .i64 tz) ∧ w'.cell? ⟨w2.heap.size, 2, none⟩ = some (.string y)) (go_keep) ((first
    | (go_at_call 14; refine (G14.out _).mono ?_; rintro e w6 ⟨rfl, hb6⟩; have E6 := keep_blk hb6 (by exact blk_alloc E5 _); have C6 := cells3 E6; have D6 := keep_blk hb6 (by exact blk_alloc D5 _); have F6 := cells3 D6; have L6 := keep_blk hb6 (by exact heap_alloc_new w5 _); have M6 := cells3 L6)))
  go_wp2
  go_ret
  exact ⟨rfl, bl_step (bl_alloc (bl_step (bl_step (bl_step (bl_alloc (bl_step (bl_alloc (bl_step (bl_alloc (Below.refl _ _)) hb)) hb2)) hb3) hb4) hb5)).drew hb6⟩

set_option maxHeartbeats 4000000 in
theorem editBack4_ok (s t : ByteArray) (a n tz : Int) (x y : ByteArray) (w : World) (hlen : ¬ (4000 : Int) < s.size)
    (HL : Hid (∀ b cap w, w.cell? ⟨b, 2, none⟩ = some (.string t) → Calls Try.prog 10 #[.string s, .slice (some ⟨b, 0, none⟩) 1 cap] w fun e w' => e = .returned (.bool false) ∧ w' = w))
    (G13 : Hid (∀ w, Calls Try.prog 13 #[.string s, .agg #[.int .i64 a, .int .i64 n, .string t]] w fun e w' => e = .returned (.tuple #[.agg #[.int .i64 a, .int .i64 tz, .string y], .int .i64 0]) ∧ Below w.heap.size w w'))
    (G12 : Hid (∀ w, Calls Try.prog 12 #[.string s, .agg #[.int .i64 a, .int .i64 n, .string t]] w fun e w' => e = .returned (.tuple #[.string x, .int .i64 0]) ∧ Below w.heap.size w w'))
    (G11 : Hid (∀ w, Calls Try.prog 11 #[.string x, .agg #[.int .i64 a, .int .i64 tz, .string y]] w fun e w' => e = .returned (.tuple #[.string s, .int .i64 0]) ∧ Below w.heap.size w w'))
    (K13 : Hid (∀ w, Calls Try.prog 13 #[.string x, .agg #[.int .i64 a, .int .i64 tz, .string y]] w fun e w' => e = .returned (.tuple #[.agg #[.int .i64 a, .int .i64 n, .string t], .int .i64 0]) ∧ Below w.heap.size w w'))
    (G14 : Hid (∀ w, Calls Try.prog 14 #[.string s, .agg #[.int .i64 a, .int .i64 n, .string t]] w fun e w' => e = .returned (.agg #[.int .i64 a, .int .i64 tz, .string y]) ∧ Below w.heap.size w w')) :
    Calls Try.prog 4 #[.string s, .agg #[.int .i64 a, .int .i64 n, .string t]] w fun e w' => e = .returned (.bool true) ∧ Below w.heap.size w w' := by
  go_enter Try.func4, Try.ntmps4
  go_wp2_with (first
    | (go_at_call 9; refine (wakes9 _).mono ?_; rintro e w1 ⟨rfl, hb⟩; have E1 := keep_blk hb (heap_alloc_new w _); have C1 := cells3 E1; have hz1 := blk_lt E1)
    | (go_at_call 10; refine (HL.out _ _ _ (by simp)).mono ?_; rintro e w' ⟨rfl, rfl⟩)
    | (go_at_call 12; refine (G12.out _).mono ?_; rintro e w3 ⟨rfl, hb3⟩; have E3 := keep_blk hb3 (blk_alloc E2 _); have C3 := cells3 E3; have hz3 := blk_lt E3; have D3 := keep_blk hb3 (heap_alloc_new w2 _); have F3 := cells3 D3)
    | (go_at_call 11; refine (G11.out _).mono ?_; rintro e w4 ⟨rfl, hb4⟩; have E4 := keep_blk hb4 E3; have C4 := cells3 E4; have D4 := keep_blk hb4 D3; have F4 := cells3 D4)
    | (go_at_call_of 13 (Value.string s); refine (G13.out _).mono ?_; rintro e w2 ⟨rfl, hb2⟩; have E2 := keep_blk hb2 (blk_alloc E1 _); have C2 := cells3 E2; have hz2 := blk_lt E2)
    | (go_at_call_of 13 (Value.string x); refine (K13.out _).mono ?_; rintro e w5 ⟨rfl, hb5⟩; have E5 := keep_blk hb5 E4; have C5 := cells3 E5; have D5 := keep_blk hb5 D4; have F5 := cells3 D5; have y5 := blk_lt E5; have z5 := blk_lt D5))
  go_region_held3 (fun w' => w'.cell? ⟨w.heap.size, 0, none⟩ = some (.int .i64 a) ∧ w'.cell? ⟨w.heap.size, 1, none⟩ = some (.int .i64 n) ∧ w'.cell? ⟨w.heap.size, 2, none⟩ = some (.string t) ∧ w'.cell? ⟨w2.heap.size, 0, none⟩ = some (.int .i64 a) ∧ w'.cell? ⟨w2.heap.size, 1, none⟩ = some (.int .i64 tz) ∧ w'.cell? ⟨w2.heap.size, 2, none⟩ = some (.string y) ∧ w'.cell? ⟨w5.heap.size, 0, none⟩ = some (.int .i64 a) ∧ w'.cell? ⟨w5.heap.size, 1, none⟩ = some (.int .i64 n) ∧ w'.cell? ⟨w5.heap.size, 2, none⟩ = some (.string t)) (go_keep) ((first
    | (go_at_call 14; refine (G14.out _).mono ?_; rintro e w6 ⟨rfl, hb6⟩; have E6 := keep_blk hb6 (by exact blk_alloc E5 _); have C6 := cells3 E6; have D6 := keep_blk hb6 (by exact blk_alloc D5 _); have F6 := cells3 D6; have L6 := keep_blk hb6 (by exact heap_alloc_new w5 _); have M6 := cells3 L6)))
  go_wp2
  go_ret
  exact ⟨rfl, bl_step (bl_alloc (bl_step (bl_step (bl_step (bl_alloc (bl_step (bl_alloc (bl_step (bl_alloc (Below.refl _ _)) hb)) hb2)) hb3) hb4) hb5)).drew hb6⟩

set_option maxHeartbeats 400000 in
theorem editBack4_l (s t : ByteArray) (a n : Int) (w : World)
    (HL : Hid (∀ b cap w, w.cell? ⟨b, 2, none⟩ = some (.string t) → Calls Try.prog 10 #[.string s, .slice (some ⟨b, 0, none⟩) 1 cap] w fun e w' => e = .returned (.bool true) ∧ w' = w)) :
    Calls Try.prog 4 #[.string s, .agg #[.int .i64 a, .int .i64 n, .string t]] w fun e w' => e = .returned (.bool true) ∧ Below w.heap.size w w' := by
  go_enter Try.func4, Try.ntmps4
  go_wp2_with (first
    | (go_at_call 9; refine (wakes9 _).mono ?_; rintro e w1 ⟨rfl, hb⟩; have E1 := keep_blk hb (heap_alloc_new w _); have C1 := cells3 E1; have hz1 := blk_lt E1)
    | (go_at_call 10; refine (HL.out _ _ _ (by simp)).mono ?_; rintro e w' ⟨rfl, rfl⟩))
  go_ret
  exact ⟨rfl, bl_alloc (bl_step (bl_alloc (Below.refl _ _)) hb)⟩

theorem editBack4 (s t : ByteArray) (a n : Int) (w : World) (hs : s.size ≤ 9223372036854775807) (ha : a ≤ 9223372036854775807) :
    Calls Try.prog 4 #[.string s, .agg #[.int .i64 a, .int .i64 n, .string t]] w fun e w' => e = .returned (.bool true) ∧ Below w.heap.size w w' := by
  have L := fun b cap w => long10_one s t b cap w hs
  cases hl : longB s.size [t] with
  | true =>
    rw [hl] at L
    exact editBack4_l s t a n w L
  | false =>
    obtain ⟨l1, l2⟩ := longB_one hl
    rw [hl] at L
    have H12 : ∀ w, Calls Try.prog 12 #[.string s, .agg #[.int .i64 a, .int .i64 n, .string t]] w fun e w' => e = .returned (.tuple #[.string (appS s t a n), .int .i64 (errNo s.size a n t.size)]) ∧ Below w.heap.size w w' :=
      fun w => refApply12 s t a n w (by omega) (by omega) ha
    by_cases hk : errNo s.size a n t.size = 0
    · rcases errNo_cases s.size a n t.size with ⟨he, hf, hm⟩ | ⟨he, hf, hm⟩ | ⟨he, hf⟩
      · obtain ⟨f1, f2, f3⟩ := fitsB_true hf
        obtain ⟨a', rfl⟩ := Int.eq_ofNat_of_zero_le f1
        obtain ⟨n', rfl⟩ := Int.eq_ofNat_of_zero_le f2
        rw [appS_ok he, he] at H12
        have hfn : a' + n' ≤ s.size := by omega
        have hx := madeOf_size s t a' n' hfn
        have hy := extract_size s a' n' hfn
        have F : fitsB (madeOf s t a' n').size a' t.size = true := decide_eq_true (by omega)
        have H13 := fun w => back13_ok s t a' n' w (by omega) (by omega) hfn (by omega)
        have H14 := fun w => refBack14 s t a' n' w (by omega) hfn
        by_cases h4 : 4000 < s.size
        · have e3 : errNo (madeOf s t a' n').size a' t.size (s.extract a' (a' + n')).size = 3 := errNo_full F (by omega)
          have H11 : ∀ w, Calls Try.prog 11 #[.string (madeOf s t a' n'), .agg #[.int .i64 a', .int .i64 t.size, .string (s.extract a' (a' + n'))]] w fun e w' => e = .returned (.tuple #[.string ⟨#[]⟩, .int .i64 3]) ∧ Below w.heap.size w w' := by
            intro w
            have h := apply11 (madeOf s t a' n') (s.extract a' (a' + n')) a' t.size w (by omega) (by omega) (by omega)
            rw [show appV (madeOf s t a' n') (s.extract a' (a' + n')) a' t.size = .tuple #[.string ⟨#[]⟩, .int .i64 3] by unfold appV; rw [appS_bad (by omega), e3]] at h
            exact h
          exact editBack4_long s t a' n' t.size (madeOf s t a' n') (s.extract a' (a' + n')) w (by omega) L H13 H12 H11
            (fun w => back13_no (madeOf s t a' n') (s.extract a' (a' + n')) a' t.size 3 w (by omega) (by omega) (by omega) e3 (by decide)) H14
        · have e0 : errNo (madeOf s t a' n').size a' t.size (s.extract a' (a' + n')).size = 0 := errNo_ok F (by omega)
          have H11 : ∀ w, Calls Try.prog 11 #[.string (madeOf s t a' n'), .agg #[.int .i64 a', .int .i64 t.size, .string (s.extract a' (a' + n'))]] w fun e w' => e = .returned (.tuple #[.string s, .int .i64 0]) ∧ Below w.heap.size w w' := by
            intro w
            have h := apply11 (madeOf s t a' n') (s.extract a' (a' + n')) a' t.size w (by omega) (by omega) (by omega)
            rw [show appV (madeOf s t a' n') (s.extract a' (a' + n')) a' t.size = .tuple #[.string s, .int .i64 0] by
              unfold appV; rw [appS_ok e0, e0, Int.toNat_natCast, Int.toNat_natCast, made_back s t a' n' hfn]] at h
            exact h
          have K13 : ∀ w, Calls Try.prog 13 #[.string (madeOf s t a' n'), .agg #[.int .i64 a', .int .i64 t.size, .string (s.extract a' (a' + n'))]] w fun e w' => e = .returned (.tuple #[.agg #[.int .i64 a', .int .i64 n', .string t], .int .i64 0]) ∧ Below w.heap.size w w' := by
            intro w
            have h := back13_ok (madeOf s t a' n') (s.extract a' (a' + n')) a' t.size w (by omega) (by omega) (by omega) (by omega)
            rw [show backA (madeOf s t a' n') (s.extract a' (a' + n')) a' t.size = .agg #[.int .i64 a', .int .i64 n', .string t] by
              unfold backA; rw [made_extract s t a' n' hfn, hy]] at h
            exact h
          exact editBack4_ok s t a' n' t.size (madeOf s t a' n') (s.extract a' (a' + n')) w (by omega) L H13 H12 H11 K13 H14
      · omega
      · omega
    · exact editBack4_no s t a n _ _ w (by simpa using hk) L (fun w => back13_no s t a n _ w (by omega) (by omega) ha rfl hk) H12

set_option maxRecDepth 100000 in
theorem editBack_lifted (os : Os) (started : os.Started) (H : Type) (enc : TypeId × Value → H) :
    ReturnsInHanded {} Try.checked os 4 .any (Rows.editBackSpec.pre6 enc Try.prog Try.f4 Rows.editBackRow.domain false) (Rows.editBackSpec.post enc Try.prog Try.f4 false true false false) := by
  refine returnsInHanded_of_change (C := Try.checked) Try.own started (by kernel_rfl) Try.func4
    (ChangeSpec.witness6 (enc := enc) (C := Try.checked) false ⟨#[], #[.string .empty, .agg #[.int .i64 0, .int .i64 0, .string .empty]], []⟩ 8 (by kernel_rfl) (by kernel_rfl) (by kernel_rfl) (by kernel_rfl)) ?_
  intro W base args ds gs before hval0 hW hcnd _
  have hval : ∀ (j : Nat) t v, Try.f4.params[j]? = some t → args[j]? = some v → Value.okWide Try.prog W .any base t v := hval0
  have hW' := hW
  obtain ⟨p, q, hA0, hV, rfl, hfz, hnd⟩ := hW
  have hA : DataW.TrodAll enc Try.prog W 0 (fun _ => true) true Try.f4.params.toList args.toList ds p := hA0
  rw [Try.params4] at hA hval
  obtain ⟨s, t, a, n, d0, d1, rfl, rfl, hs, ht, ha0, ha, hn0, hn⟩ := open_se hval hA
  obtain ⟨rfl, rfl⟩ := trodVars_none hV
  clear hA0 hval0
  refine (editBack4 s t a n W hs ha).mono fun e W' ⟨he, hb⟩ => ?_
  subst he
  exact ⟨_, rfl, law_post (by kernel_rfl) rfl (by kernel_rfl) rfl hW' hb⟩

theorem editBack_holds : Rows.EditBackSaid :=
  OpenClaim.holds_of_wide 4 Try.f4 rfl rfl rfl rfl rfl rfl rfl ⟨rfl, rfl, rfl, rfl, rfl⟩ rfl rfl rfl rfl rfl (by kernel_rfl) Try.func4 (by kernel_rfl)
    (of_decide_eq_true (by kernel_rfl)) (by unfold Func.isWrapper; first | (rw [if_pos (by decide +kernel)]; kernel_rfl) | (rw [if_neg (by decide +kernel)]; exact ⟨rfl, rfl⟩))
    (fun os started H enc _ => editBack_lifted os started H enc)

end Go.Proofs.Ytfgjlgcoablnoaa
