/- PieceSlices, of every text s, every edit, every two numbers: any slice of an edited text is its bytes, or is refused. -/
import Derived.Test.YtnhabinnmkjnbaaActs
import Derived.Test.YtnhabinnmkjnbaaClose
import Derived.WideKeyPair
namespace Go.Proofs.Ytnhabinnmkjnbaa
open Go.ChangeShapes Go.WideShapes Go.ChangeAt Go.RowKit
open Go.ChangeMaps (open_string shut_string)
open Go.WideMaps (ArrKey open_pair)

theorem longOne (s t : ByteArray) (a n : Int) (b : Nat) (w : World) (hs : s.size ≤ 9223372036854775807) (hb : w.heap[b]? = some (.cells #[.int .i64 0, .int .i64 a, .int .i64 n, .string t] 36 (0, 0))) :
    Calls Try.prog 9 #[.string s, .slice (some ⟨b, 0, none⟩) 1 1] w fun e w' => e = .returned (.bool (longA s.size [⟨0, ⟨a, n, t⟩⟩])) ∧ w' = w :=
  longIs s [⟨0, ⟨a, n, t⟩⟩] b 0 1 w hs (by simp) (fun j hj => by
    obtain rfl : j = 0 := by simp at hj; exact hj
    exact ⟨blk_cell hb rfl, blk_cell hb rfl, blk_cell hb rfl, blk_cell hb rfl⟩)

set_option maxHeartbeats 4000000 in
theorem slicesWalk (s t : ByteArray) (a n x y : Int) (w : World) (hs : s.size ≤ 9223372036854775807) (ha : a ≤ 9223372036854775807) (hx : x ≤ 9223372036854775807) :
    Calls Try.prog 4 #[.string s, .agg #[.int .i64 a, .int .i64 n, .string t], .agg #[.int .i64 x, .int .i64 y]] w fun e w' => e = .returned (.bool true) ∧ Below w.heap.size w w' := by
  have GW : Hid (∀ u, Calls Try.prog 8 #[] u fun e w' => e = .returned (.bool true) ∧ Below u.heap.size u w') := wakesT
  have HL := fun (b : Nat) (u : World) (hb : u.heap[b]? = some (.cells #[.int .i64 0, .int .i64 a, .int .i64 n, .string t] 36 (0, 0))) => longOne s t a n b u hs hb
  cases hl : longA s.size [⟨0, ⟨a, n, t⟩⟩] with
  | true =>
    rw [hl] at HL
    have GL := hid HL
    clear HL hl
    go_enter Try.func4, Try.ntmps4
    go_wp2_with (first
      | (go_at_call 8; refine (GW.out _).mono ?_; rintro e w1 ⟨rfl, hb1⟩; have z1 : w.heap.size + 2 ≤ w1.heap.size := (by (have := hb1.size; simp at this; omega)); have E1 := keep_blk hb1 (blk_alloc (heap_alloc_new w _) _); have L1 := keep_blk hb1 (blk_new2 _ _ _); obtain ⟨q0, q1, q2⟩ := cells3 E1)
      | (go_at_call 9; refine (GL.out _ _ (heap_alloc_new _ _)).mono ?_; rintro e w2 ⟨rfl, hw2⟩; subst w2))
    go_ret
    exact ⟨rfl, (((Below.refl _ _).alloc (Nat.le_refl _) _).alloc (by simp) _).trans ((hb1.mono (by simp; omega)).alloc (by omega) _)⟩
  | false =>
    rw [hl] at HL
    have GL := hid HL
    obtain ⟨l1, _, l3⟩ := longA_false hl
    have ht : t.size ≤ 5000 := l3 _ (List.mem_singleton.2 rfl)
    have GN : Hid (∀ u, Calls Try.prog 10 #[.string s] u fun e w' => ∃ tb F, e = .returned (.tuple #[.pointer (some ⟨tb, 0, none⟩), .int .i64 0]) ∧ IsText w' tb F ⟨[], s, []⟩ ∧ (∀ k, F k → u.heap.size ≤ k) ∧ Below u.heap.size u w') := fun u => newT s u l1
    obtain ⟨R, hR⟩ : ∃ R, St.edit ⟨[], s, []⟩ t a n = R := ⟨_, rfl⟩
    have GE : Hid (∀ u tb F, IsText u tb F ⟨[], s, []⟩ → Calls Try.prog 15 #[.pointer (some ⟨tb, 0, none⟩), .agg #[.int .i64 a, .int .i64 n, .string t]] u fun e w' => e = .returned (.int .i64 R.1) ∧ ∃ F', IsText w' tb F' R.2 ∧ Moved F F' u w') := fun u tb F h => by
      have k := editT h t a n (by omega) ha
      rw [hR] at k
      exact k
    have hsm : R.2.now.size ≤ 4000 := by
      rw [← hR]
      unfold St.edit
      by_cases he : errNo s.size a n t.size = 0
      · rw [if_pos he]
        rcases errNo_cases s.size a n t.size with ⟨_, hf, hm⟩ | ⟨h3, _⟩ | ⟨h2, _⟩
        · obtain ⟨f1, f2, f3⟩ := fitsB_true hf
          show (madeOf s t a.toNat n.toNat).size ≤ 4000
          rw [madeOf_size s t _ _ (by omega)]; omega
        · omega
        · omega
      · rw [if_neg he]; exact l1
    clear HL hl l3 hR
    obtain ⟨r, T⟩ := R
    cases hf : fitsB T.now.size x y with
    | false =>
      have GF : Hid (∀ u, Calls Try.prog 17 #[.string T.now, .agg #[.int .i64 x, .int .i64 y, .string ⟨#[]⟩]] u fun e w' => e = .returned (.bool false) ∧ Below u.heap.size u w') := fun u => by
        have k := fits23 T.now ⟨#[]⟩ x y u (by (have : T.now.size ≤ 4000 := hsm); omega) hx
        rw [hf] at k
        exact k
      have GS : Hid (∀ u tb F, IsText u tb F T → Calls Try.prog 16 #[.pointer (some ⟨tb, 0, none⟩), .int .i64 x, .int .i64 y] u fun e w' => e = .returned (.tuple #[.string ⟨#[]⟩, .int .i64 2]) ∧ w' = u) := fun u tb F h => sliceNoT h x y hx hf
      clear hf
      go_enter Try.func4, Try.ntmps4
      go_wp2_with (first
      | (go_at_call 8; refine (GW.out _).mono ?_; rintro e w1 ⟨rfl, hb1⟩; have z1 : w.heap.size + 2 ≤ w1.heap.size := (by (have := hb1.size; simp at this; omega)); have E1 := keep_blk hb1 (blk_alloc (heap_alloc_new w _) _); have L1 := keep_blk hb1 (blk_new2 _ _ _); obtain ⟨q0, q1, q2⟩ := cells3 E1)
      | (go_at_call 9; refine (GL.out _ _ (heap_alloc_new _ _)).mono ?_; rintro e w2 ⟨rfl, hw2⟩; subst w2)
      | (go_at_call 10; refine (GN.out _).mono ?_; rintro e w3 ⟨tb, F, rfl, ht3, hF0, hb3⟩; have hF : ∀ k, F k → w.heap.size + 2 ≤ k := (fun k hk => Nat.le_trans (by (simp; omega)) (hF0 k hk)); have z3 : w.heap.size + 2 ≤ w3.heap.size := (by (have := hb3.size; simp at this; omega)); have E3 := keep_blk hb3 (blk_alloc E1 _); have L3 := keep_blk hb3 (blk_alloc L1 _); obtain ⟨r0, r1, r2⟩ := cells3 E3)
      | (go_at_call 15; refine (GE.out _ _ _ ht3).mono ?_; rintro e w4 ⟨rfl, F4, ht4, m4⟩; have b4 := m4.below hF z3; have g4 := m4.ge hF z3; have z4 : w.heap.size + 2 ≤ w4.heap.size := (Nat.le_trans z3 m4.1.size))
      | (go_at_call 13; refine (stringT ht4).mono ?_; rintro e w5 ⟨rfl, F5, ht5, m5⟩; have b5 := m5.below g4 z4; have g5 := m5.ge g4 z4; have z5 : w.heap.size + 2 ≤ w5.heap.size := (Nat.le_trans z4 m5.1.size); have L5 := blkB b5 (blkB b4 L3 (by omega)) (by omega); have u0 : w5.cell? ⟨w.heap.size + 1, 0, none⟩ = some (.int .i64 x) := (blk_cell L5 rfl); have u1 : w5.cell? ⟨w.heap.size + 1, 1, none⟩ = some (.int .i64 y) := (blk_cell L5 rfl))
      | (go_at_call 16; refine (GS.out _ _ _ ht5).mono ?_; rintro e w6 ⟨rfl, hw6⟩; subst w6)
      | (go_at_call 17; refine (GF.out _).mono ?_; rintro e w7 ⟨rfl, hb7⟩))
      go_ret
      have B1 : Below w.heap.size w (w1.alloc (.cells #[.int .i64 0, .int .i64 a, .int .i64 n, .string t] 36)) := (((Below.refl _ _).alloc (Nat.le_refl _) _).alloc (by simp) _).trans ((hb1.mono (by simp; omega)).alloc (by omega) _)
      exact ⟨rfl, (((B1.trans (hb3.mono (by simp; omega))).trans (b4.mono (by omega))).trans (b5.mono (by omega))).trans (hb7.mono (by omega))⟩
    | true =>
      obtain ⟨f1, f2, f3⟩ := fitsB_true hf
      obtain ⟨x', rfl⟩ := Int.eq_ofNat_of_zero_le f1
      obtain ⟨y', rfl⟩ := Int.eq_ofNat_of_zero_le f2
      have hxy : x' + y' ≤ T.now.size := by omega
      have hsm' : T.now.size ≤ 4000 := hsm
      have GF : Hid (∀ u, Calls Try.prog 17 #[.string T.now, .agg #[.int .i64 (x' : Int), .int .i64 (y' : Int), .string ⟨#[]⟩]] u fun e w' => e = .returned (.bool true) ∧ Below u.heap.size u w') := fun u => by
        have k := fits23 T.now ⟨#[]⟩ x' y' u (by omega) hx
        rw [hf] at k
        exact k
      have GS : Hid (∀ u tb F, IsText u tb F T → Calls Try.prog 16 #[.pointer (some ⟨tb, 0, none⟩), .int .i64 (x' : Int), .int .i64 (y' : Int)] u fun e w' => e = .returned (.tuple #[.string (T.now.extract x' (x' + y')), .int .i64 0]) ∧ ∃ F', IsText w' tb F' T ∧ Moved F F' u w') := fun u tb F h => sliceOkT h x' y' hxy
      have hsl : ∀ u : World, (Instr.slice 9 (.string T.now) (some (.int .i64 (x' : Int))) (some (.int .i64 ((x' : Int) + (y' : Int)))) none).run Try.prog u = .ok (.string (T.now.extract x' (x' + y'))) u := by
        intro u
        rw [run_slice_string _ _ _ _ _ _ _ Try.underlying9 (by omega) (by omega) (by omega)]
        congr 3
      clear hf f1 f2 f3
      go_enter Try.func4, Try.ntmps4
      go_wp2_with (first
      | (go_at_call 8; refine (GW.out _).mono ?_; rintro e w1 ⟨rfl, hb1⟩; have z1 : w.heap.size + 2 ≤ w1.heap.size := (by (have := hb1.size; simp at this; omega)); have E1 := keep_blk hb1 (blk_alloc (heap_alloc_new w _) _); have L1 := keep_blk hb1 (blk_new2 _ _ _); obtain ⟨q0, q1, q2⟩ := cells3 E1)
      | (go_at_call 9; refine (GL.out _ _ (heap_alloc_new _ _)).mono ?_; rintro e w2 ⟨rfl, hw2⟩; subst w2)
      | (go_at_call 10; refine (GN.out _).mono ?_; rintro e w3 ⟨tb, F, rfl, ht3, hF0, hb3⟩; have hF : ∀ k, F k → w.heap.size + 2 ≤ k := (fun k hk => Nat.le_trans (by (simp; omega)) (hF0 k hk)); have z3 : w.heap.size + 2 ≤ w3.heap.size := (by (have := hb3.size; simp at this; omega)); have E3 := keep_blk hb3 (blk_alloc E1 _); have L3 := keep_blk hb3 (blk_alloc L1 _); obtain ⟨r0, r1, r2⟩ := cells3 E3)
      | (go_at_call 15; refine (GE.out _ _ _ ht3).mono ?_; rintro e w4 ⟨rfl, F4, ht4, m4⟩; have b4 := m4.below hF z3; have g4 := m4.ge hF z3; have z4 : w.heap.size + 2 ≤ w4.heap.size := (Nat.le_trans z3 m4.1.size))
      | (go_at_call 13; refine (stringT ht4).mono ?_; rintro e w5 ⟨rfl, F5, ht5, m5⟩; have b5 := m5.below g4 z4; have g5 := m5.ge g4 z4; have z5 : w.heap.size + 2 ≤ w5.heap.size := (Nat.le_trans z4 m5.1.size); have L5 := blkB b5 (blkB b4 L3 (by omega)) (by omega); have u0 : w5.cell? ⟨w.heap.size + 1, 0, none⟩ = some (.int .i64 x') := (blk_cell L5 rfl); have u1 : w5.cell? ⟨w.heap.size + 1, 1, none⟩ = some (.int .i64 y') := (blk_cell L5 rfl))
      | (go_at_call 16; refine (GS.out _ _ _ ht5).mono ?_; rintro e w6 ⟨rfl, F6, ht6, m6⟩; have b6 := m6.below g5 z5; have L6 := blkB b6 L5 (by omega); have v0 : w6.cell? ⟨w.heap.size + 1, 0, none⟩ = some (.int .i64 x') := (blk_cell L6 rfl); have v1 : w6.cell? ⟨w.heap.size + 1, 1, none⟩ = some (.int .i64 y') := (blk_cell L6 rfl))
      | (go_at_call 17; refine (GF.out _).mono ?_; rintro e w7 ⟨rfl, hb7⟩; have L7 := keep_blk hb7 L6; have o0 : w7.cell? ⟨w.heap.size + 1, 0, none⟩ = some (.int .i64 x') := (blk_cell L7 rfl); have o1 : w7.cell? ⟨w.heap.size + 1, 1, none⟩ = some (.int .i64 y') := (blk_cell L7 rfl)))
      go_ret
      have B1 : Below w.heap.size w (w1.alloc (.cells #[.int .i64 0, .int .i64 a, .int .i64 n, .string t] 36)) := (((Below.refl _ _).alloc (Nat.le_refl _) _).alloc (by simp) _).trans ((hb1.mono (by simp; omega)).alloc (by omega) _)
      have z6 := m6.1.size
      exact ⟨rfl, ((((B1.trans (hb3.mono (by simp; omega))).trans (b4.mono (by omega))).trans (b5.mono (by omega))).trans (b6.mono (by omega))).trans (hb7.mono (by omega))⟩

theorem pairKey : ArrKey Try.prog 42 3 2 := ⟨Try.underlying42, by kernel_rfl, by kernel_rfl, by kernel_rfl⟩

theorem open_sep {H : Type} {enc : TypeId × Value → H} {W : World} {base : Nat} {args : Array Value} {ds : List (DataW H)} {p : List MemPlace}
    (hval : ∀ (j : Nat) t v, #[9, 34, 42][j]? = some t → args[j]? = some v → Value.okWide Try.prog W .any base t v)
    (hA : DataW.TrodAll enc Try.prog W 0 (fun _ => true) true [9, 34, 42] args.toList ds p) :
    ∃ (s t : ByteArray) (a n x y : Int) (d0 d1 d2 : DataW H), args = #[.string s, .agg #[.int .i64 a, .int .i64 n, .string t], .agg #[.int .i64 x, .int .i64 y]] ∧ ds = [d0, d1, d2] ∧ s.size ≤ 9223372036854775807 ∧
      a ≤ 9223372036854775807 ∧ x ≤ 9223372036854775807 := by
  obtain ⟨v0, v1, v2, d0, d1, d2, p0, p1, p2, rfl, rfl, rfl, h0, h1, h2⟩ := trodAll_three hA
  obtain ⟨s, rfl, rfl, rfl, hs⟩ := open_string Try.underlying9 (hval 0 9 v0 rfl rfl) h0
  obtain ⟨c0, c1, c2, y0, y1, y2, m, rfl, rfl, rfl, hy0, hy1, hy2⟩ := Joins.open_agg3 Try.underlying34 (by kernel_rfl) Try.cells34 (hval 1 34 v1 rfl rfl) h1
  obtain ⟨a, e0, rfl, wa⟩ := DataW.trod_int Try.underlying3 hy0
  obtain ⟨n, e1, rfl, wn⟩ := DataW.trod_int Try.underlying3 hy1
  obtain ⟨t, e2, rfl, wt⟩ := DataW.trod_string Try.underlying9 hy2
  simp at e0 e1 e2
  subst e0 e1 e2
  obtain ⟨x, y, rfl, rfl, rfl, wx, wy⟩ := open_pair pairKey Try.underlying3 (hval 2 42 v2 rfl rfl) h2
  have ba := bounds_i64 wa
  have bx := bounds_i64 wx
  unfold maxLen at hs
  exact ⟨s, t, a, n, x, y, _, _, _, rfl, rfl, by omega, ba.2, bx.2⟩

set_option maxRecDepth 100000 in
theorem pieceSlices_lifted (os : Os) (started : os.Started) (H : Type) (enc : TypeId × Value → H) :
    ReturnsInHanded {} Try.checked os 4 .any (Rows.pieceSlicesSpec.pre6 enc Try.prog Try.f4 Rows.pieceSlicesRow.domain false) (Rows.pieceSlicesSpec.post enc Try.prog Try.f4 false true false false) := by
  refine returnsInHanded_of_change (C := Try.checked) Try.own started (by kernel_rfl) Try.func4
    (ChangeSpec.witness6 (enc := enc) (C := Try.checked) false ⟨#[], #[.string .empty, .agg #[.int .i64 0, .int .i64 0, .string .empty], .agg #[.int .i64 0, .int .i64 0]], []⟩ 8 (by kernel_rfl) (by kernel_rfl) (by kernel_rfl) (by kernel_rfl)) ?_
  intro W base args ds gs before hval0 hW hcnd _
  have hval : ∀ (j : Nat) t v, Try.f4.params[j]? = some t → args[j]? = some v → Value.okWide Try.prog W .any base t v := hval0
  have hW' := hW
  obtain ⟨p, q, hA0, hV, rfl, hfz, hnd⟩ := hW
  have hA : DataW.TrodAll enc Try.prog W 0 (fun _ => true) true Try.f4.params.toList args.toList ds p := hA0
  rw [Try.params4] at hA hval
  obtain ⟨s, t, a, n, x, y, d0, d1, d2, rfl, rfl, hs, ha, hx⟩ := open_sep hval hA
  obtain ⟨rfl, rfl⟩ := trodVars_none hV
  clear hA0 hval0
  refine (slicesWalk s t a n x y W hs ha hx).mono fun e W' ⟨he, hb⟩ => ?_
  subst he
  exact ⟨_, rfl, law_post (by kernel_rfl) rfl (by kernel_rfl) rfl hW' hb⟩

theorem pieceSlices_holds : Rows.PieceSlicesSaid :=
  OpenClaim.holds_of_wide 4 Try.f4 rfl rfl rfl rfl rfl rfl rfl ⟨rfl, rfl, rfl, rfl, rfl⟩ rfl rfl rfl rfl rfl (by kernel_rfl) Try.func4 (by kernel_rfl)
    (of_decide_eq_true (by kernel_rfl)) (by unfold Func.isWrapper; first | (rw [if_pos (by decide +kernel)]; kernel_rfl) | (rw [if_neg (by decide +kernel)]; exact ⟨rfl, rfl⟩))
    (fun os started H enc _ => pieceSlices_lifted os started H enc)

end Go.Proofs.Ytnhabinnmkjnbaa
