/- For every text s and every two edits, topiarylaw01.EditBoth(s, l) returns true and leaves its arguments as they were; no condition. -/
import Derived.Test.YtfgjlgcoablnoaaAll
import Derived.Test.YtfgjlgcoablnoaaClose
import Derived.Test.YtfgjlgcoablnoaaBoth
namespace Go.Proofs.Ytfgjlgcoablnoaa
open Go.RowKit
open Go.ChangeShapes Go.WideShapes Go.ChangeAt
open Go.ChangeMaps (open_string shut_string)

theorem cells6 {w : World} {b : Nat} {x0 x1 x2 x3 x4 x5 : Value} {T : TypeId} {fr : Nat × Nat} (h : w.heap[b]? = some (.cells #[x0, x1, x2, x3, x4, x5] T fr)) :
    w.cell? ⟨b, 0, none⟩ = some x0 ∧ w.cell? ⟨b, 1, none⟩ = some x1 ∧ w.cell? ⟨b, 2, none⟩ = some x2 ∧ w.cell? ⟨b, 3, none⟩ = some x3 ∧ w.cell? ⟨b, 4, none⟩ = some x4 ∧ w.cell? ⟨b, 5, none⟩ = some x5 :=
  ⟨blk_cell h rfl, blk_cell h rfl, blk_cell h rfl, blk_cell h rfl, blk_cell h rfl, blk_cell h rfl⟩
theorem eds_two {w : World} {b : Nat} {a1 n1 a2 n2 : Int} {t1 t2 : ByteArray} {T : TypeId} {fr : Nat × Nat} (h : w.heap[b]? = some (.cells #[.int .i64 a1, .int .i64 n1, .string t1, .int .i64 a2, .int .i64 n2, .string t2] T fr)) :
    EdsAt w (some ⟨b, 0, none⟩) [⟨a1, n1, t1⟩, ⟨a2, n2, t2⟩] := fun _ => ⟨b, 0, rfl, fun j hj => by
  obtain ⟨k0, k1, k2, k3, k4, k5⟩ := cells6 h
  match j, hj with
  | 0, _ => exact ⟨k0, k1, k2⟩
  | 1, _ => exact ⟨k3, k4, k5⟩⟩

set_option maxHeartbeats 400000 in
theorem editBoth8_long (s t1 t2 : ByteArray) (a1 n1 a2 n2 : Int) (w : World)
    (HL : Hid (∀ b T fr w, w.heap[b]? = some (.cells #[.int .i64 a1, .int .i64 n1, .string t1, .int .i64 a2, .int .i64 n2, .string t2] T fr) → Calls Try.prog 10 #[.string s, .slice (some ⟨b, 0, none⟩) 2 2] w fun e w' => e = .returned (.bool true) ∧ w' = w)) :
    Calls Try.prog 8 #[.string s, .agg #[.int .i64 a1, .int .i64 n1, .string t1, .int .i64 a2, .int .i64 n2, .string t2]] w fun e w' => e = .returned (.bool true) ∧ Below w.heap.size w w' := by
  go_enter Try.func8, Try.ntmps8
  go_wp2_with (first
    | (go_at_call 9; refine (wakes9 _).mono ?_; rintro e w1 ⟨rfl, hb⟩; have E1 := keep_blk hb (heap_alloc_new w _); have C1 := cells6 E1; have hz1 := blk_lt E1)
    | (go_at_call 10; refine (HL.out _ _ _ _ E1).mono ?_; rintro e w' ⟨rfl, rfl⟩))
  go_ret
  exact ⟨rfl, bl_step (bl_alloc (Below.refl _ _)) hb⟩

set_option maxHeartbeats 400000 in
theorem editBoth8_big (s t1 t2 : ByteArray) (a1 n1 a2 n2 : Int) (w : World) (h4 : (4000 : Int) < s.size)
    (HL : Hid (∀ b T fr w, w.heap[b]? = some (.cells #[.int .i64 a1, .int .i64 n1, .string t1, .int .i64 a2, .int .i64 n2, .string t2] T fr) → Calls Try.prog 10 #[.string s, .slice (some ⟨b, 0, none⟩) 2 2] w fun e w' => e = .returned (.bool false) ∧ w' = w)) :
    Calls Try.prog 8 #[.string s, .agg #[.int .i64 a1, .int .i64 n1, .string t1, .int .i64 a2, .int .i64 n2, .string t2]] w fun e w' => e = .returned (.bool true) ∧ Below w.heap.size w w' := by
  go_enter Try.func8, Try.ntmps8
  go_wp2_with (first
    | (go_at_call 9; refine (wakes9 _).mono ?_; rintro e w1 ⟨rfl, hb⟩; have E1 := keep_blk hb (heap_alloc_new w _); have C1 := cells6 E1; have hz1 := blk_lt E1)
    | (go_at_call 10; refine (HL.out _ _ _ _ E1).mono ?_; rintro e w' ⟨rfl, rfl⟩))
  go_ret
  exact ⟨rfl, bl_step (bl_alloc (Below.refl _ _)) hb⟩

set_option maxHeartbeats 1000000 in
theorem editBoth8_no (s t1 t2 x : ByteArray) (a1 n1 a2 n2 m k : Int) (w : World) (h4 : ¬ (4000 : Int) < s.size) (hk : (k != 0) = true)
    (HL : Hid (∀ b T fr w, w.heap[b]? = some (.cells #[.int .i64 a1, .int .i64 n1, .string t1, .int .i64 a2, .int .i64 n2, .string t2] T fr) → Calls Try.prog 10 #[.string s, .slice (some ⟨b, 0, none⟩) 2 2] w fun e w' => e = .returned (.bool false) ∧ w' = w))
    (G20 : Hid (∀ w, Calls Try.prog 20 #[.string s, .agg #[.int .i64 a1, .int .i64 n1, .string t1], .agg #[.int .i64 a2, .int .i64 n2, .string t2]] w fun e w' => e = .returned (.tuple #[.agg #[.int .i64 0, .int .i64 0, .string ⟨#[]⟩], .int .i64 k]) ∧ Below w.heap.size w w'))
    (G16 : Hid (∀ b T fr w, w.heap[b]? = some (.cells #[.int .i64 a1, .int .i64 n1, .string t1, .int .i64 a2, .int .i64 n2, .string t2] T fr) → Calls Try.prog 16 #[.string s, .slice (some ⟨b, 0, none⟩) 2 2] w fun e w' => e = .returned (.agg #[.string x, .int .i64 m, .int .i64 k]) ∧ Below w.heap.size w w')) :
    Calls Try.prog 8 #[.string s, .agg #[.int .i64 a1, .int .i64 n1, .string t1, .int .i64 a2, .int .i64 n2, .string t2]] w fun e w' => e = .returned (.bool true) ∧ Below w.heap.size w w' := by
  go_enter Try.func8, Try.ntmps8
  go_wp2_with (first
    | (go_at_call 9; refine (wakes9 _).mono ?_; rintro e w1 ⟨rfl, hb⟩; have E1 := keep_blk hb (heap_alloc_new w _); have C1 := cells6 E1; have hz1 := blk_lt E1)
    | (go_at_call 10; refine (HL.out _ _ _ _ E1).mono ?_; rintro e w' ⟨rfl, rfl⟩)
    | (go_at_call 20; refine (G20.out _).mono ?_; rintro e w2 ⟨rfl, hb2⟩; have E2 := keep_blk hb2 E1; have C2 := cells6 E2; have hz2 := blk_lt E2)
    | (go_at_call 16; refine (G16.out _ _ _ _ (by exact blk_alloc E2 _)).mono ?_; rintro e w3 ⟨rfl, hb3⟩; have D3 := keep_blk hb3 (heap_alloc_new w2 _); have F3 := cells3 D3; have hz3 := blk_lt D3))
  go_ret
  exact ⟨rfl, bl_alloc (bl_step (bl_alloc (bl_step (bl_step (bl_alloc (Below.refl _ _)) hb) hb2)) hb3)⟩

set_option maxHeartbeats 4000000 in
theorem editBoth8_ok (s t1 t2 t3 x : ByteArray) (a1 n1 a2 n2 a3 n3 m : Int) (w : World) (h4 : ¬ (4000 : Int) < s.size)
    (HL : Hid (∀ b T fr w, w.heap[b]? = some (.cells #[.int .i64 a1, .int .i64 n1, .string t1, .int .i64 a2, .int .i64 n2, .string t2] T fr) → Calls Try.prog 10 #[.string s, .slice (some ⟨b, 0, none⟩) 2 2] w fun e w' => e = .returned (.bool false) ∧ w' = w))
    (G20 : Hid (∀ w, Calls Try.prog 20 #[.string s, .agg #[.int .i64 a1, .int .i64 n1, .string t1], .agg #[.int .i64 a2, .int .i64 n2, .string t2]] w fun e w' => e = .returned (.tuple #[.agg #[.int .i64 a3, .int .i64 n3, .string t3], .int .i64 0]) ∧ Below w.heap.size w w'))
    (G16 : Hid (∀ b T fr w, w.heap[b]? = some (.cells #[.int .i64 a1, .int .i64 n1, .string t1, .int .i64 a2, .int .i64 n2, .string t2] T fr) → Calls Try.prog 16 #[.string s, .slice (some ⟨b, 0, none⟩) 2 2] w fun e w' => e = .returned (.agg #[.string x, .int .i64 m, .int .i64 0]) ∧ Below w.heap.size w w'))
    (G11 : Hid (∀ w, Calls Try.prog 11 #[.string s, .agg #[.int .i64 a3, .int .i64 n3, .string t3]] w fun e w' => e = .returned (.tuple #[.string x, .int .i64 0]) ∧ Below w.heap.size w w'))
    (G18 : Hid (∀ w, Calls Try.prog 18 #[.string s, .string x] w fun e w' => e = .returned (.agg #[.int .i64 a3, .int .i64 n3, .string t3]) ∧ Below w.heap.size w w')) :
    Calls Try.prog 8 #[.string s, .agg #[.int .i64 a1, .int .i64 n1, .string t1, .int .i64 a2, .int .i64 n2, .string t2]] w fun e w' => e = .returned (.bool true) ∧ Below w.heap.size w w' := by
  go_enter Try.func8, Try.ntmps8
  go_wp2_with (first
    | (go_at_call 9; refine (wakes9 _).mono ?_; rintro e w1 ⟨rfl, hb⟩; have E1 := keep_blk hb (heap_alloc_new w _); have C1 := cells6 E1; have hz1 := blk_lt E1)
    | (go_at_call 10; refine (HL.out _ _ _ _ E1).mono ?_; rintro e w' ⟨rfl, rfl⟩)
    | (go_at_call 20; refine (G20.out _).mono ?_; rintro e w2 ⟨rfl, hb2⟩; have E2 := keep_blk hb2 E1; have C2 := cells6 E2; have hz2 := blk_lt E2)
    | (go_at_call 16; refine (G16.out _ _ _ _ (by exact blk_alloc E2 _)).mono ?_; rintro e w3 ⟨rfl, hb3⟩; have D3 := keep_blk hb3 (heap_alloc_new w2 _); have F3 := cells3 D3; have hz3 := blk_lt D3)
    | (go_at_call 11; refine (G11.out _).mono ?_; rintro e w4 ⟨rfl, hb4⟩; have D4 := keep_blk hb4 (blk_alloc D3 _); have F4 := cells3 D4; have P4 := keep_blk hb4 (heap_alloc_new w3 _); have Q4 := cells3 P4))
  go_region_held3 (fun w' => w'.cell? ⟨w2.heap.size, 0, none⟩ = some (.int .i64 a3) ∧ w'.cell? ⟨w2.heap.size, 1, none⟩ = some (.int .i64 n3) ∧ w'.cell? ⟨w2.heap.size, 2, none⟩ = some (.string t3) ∧ w'.cell? ⟨w3.heap.size, 0, none⟩ = some (.string x)) (go_keep) ((first
    | (go_at_call 18; refine (G18.out _).mono ?_; rintro e w5 ⟨rfl, hb5⟩; have D5 := keep_blk hb5 (by exact D4); have F5 := cells3 D5; have P5 := keep_blk hb5 (by exact P4); have Q5 := cells3 P5)))
  go_wp2
  go_ret
  exact ⟨rfl, bl_step (bl_step (bl_alloc (bl_step (bl_alloc (bl_step (bl_step (bl_alloc (Below.refl _ _)) hb) hb2)) hb3)) hb4).drew hb5⟩

theorem editBoth8 (s t1 t2 : ByteArray) (a1 n1 a2 n2 : Int) (w : World) (hs : s.size ≤ 9223372036854775807) (ha1 : a1 ≤ 9223372036854775807) (ha2 : a2 ≤ 9223372036854775807) :
    Calls Try.prog 8 #[.string s, .agg #[.int .i64 a1, .int .i64 n1, .string t1, .int .i64 a2, .int .i64 n2, .string t2]] w fun e w' => e = .returned (.bool true) ∧ Below w.heap.size w w' := by
  have L : ∀ b T fr w, w.heap[b]? = some (.cells #[.int .i64 a1, .int .i64 n1, .string t1, .int .i64 a2, .int .i64 n2, .string t2] T fr) → Calls Try.prog 10 #[.string s, .slice (some ⟨b, 0, none⟩) 2 2] w fun e w' => e = .returned (.bool (longB s.size [t1, t2])) ∧ w' = w :=
    fun b T fr w h => long10_eds s [⟨a1, n1, t1⟩, ⟨a2, n2, t2⟩] (some ⟨b, 0, none⟩) 2 w hs (by simp) (eds_two h)
  cases hlg : longB s.size [t1, t2] with
  | true =>
    rw [hlg] at L
    exact editBoth8_long s t1 t2 a1 n1 a2 n2 w L
  | false =>
    have hl : s.size ≤ 5000 ∧ t1.size ≤ 5000 ∧ t2.size ≤ 5000 := by simp [longB] at hlg; omega
    obtain ⟨l1, l2, l3⟩ := hl
    rw [hlg] at L
    by_cases h4 : (4000 : Int) < s.size
    · exact editBoth8_big s t1 t2 a1 n1 a2 n2 w h4 L
    · have sane : Sane [⟨a1, n1, t1⟩, ⟨a2, n2, t2⟩] := by
        intro e he
        simp at he
        rcases he with rfl | rfl
        · exact ⟨ha1, l2⟩
        · exact ⟨ha2, l3⟩
      have P : ∀ b T fr w, w.heap[b]? = some (.cells #[.int .i64 a1, .int .i64 n1, .string t1, .int .i64 a2, .int .i64 n2, .string t2] T fr) → Calls Try.prog 16 #[.string s, .slice (some ⟨b, 0, none⟩) 2 2] w fun e w' => e = .returned (playA (play s [⟨a1, n1, t1⟩, ⟨a2, n2, t2⟩] 0)) ∧ Below w.heap.size w w' :=
        fun b T fr w h => play16 s [⟨a1, n1, t1⟩, ⟨a2, n2, t2⟩] (some ⟨b, 0, none⟩) 2 w l1 (by simp) (eds_two h) sane
      have H1 : ∀ w, Calls Try.prog 11 #[.string s, .agg #[.int .i64 a1, .int .i64 n1, .string t1]] w fun e w' => e = .returned (.tuple #[.string (appS s t1 a1 n1), .int .i64 (errNo s.size a1 n1 t1.size)]) ∧ Below w.heap.size w w' :=
        fun w => apply11 s t1 a1 n1 w (by omega) (by omega) ha1
      by_cases hk1 : errNo s.size a1 n1 t1.size = 0
      · rw [hk1] at H1
        have z1 := appS_size hk1
        rw [play, if_pos hk1] at P
        generalize appS s t1 a1 n1 = h at H1 z1 P
        have H2 : ∀ w, Calls Try.prog 11 #[.string h, .agg #[.int .i64 a2, .int .i64 n2, .string t2]] w fun e w' => e = .returned (.tuple #[.string (appS h t2 a2 n2), .int .i64 (errNo h.size a2 n2 t2.size)]) ∧ Below w.heap.size w w' :=
          fun w => apply11 h t2 a2 n2 w (by omega) (by omega) ha2
        by_cases hk2 : errNo h.size a2 n2 t2.size = 0
        · rw [hk2] at H2
          have z2 := appS_size hk2
          rw [play, if_pos hk2, play] at P
          generalize appS h t2 a2 n2 = y at H2 z2 P
          obtain ⟨f, g, hd⟩ := diff_ex s y
          obtain ⟨d1, d2⟩ := diff_sizes hd
          have d3 := diff_size d2
          refine editBoth8_ok s t1 t2 (y.extract f (y.size - g)) y a1 n1 a2 n2 f (s.size - f - g : Nat) _ w h4 L
            (fun w => both20_ok s t1 t2 h y (y.extract f (y.size - g)) a1 n1 a2 n2 f (s.size - f - g : Nat) w H1 H2 (fun w => diff17_at hd w (by omega) (by omega))) P (fun w => ?_) (fun w => refDiff18_at hd w (by omega) (by omega))
          have k := apply11 s (y.extract f (y.size - g)) f (s.size - f - g : Nat) w (by omega) (by omega) (by omega)
          rw [show appV s (y.extract f (y.size - g)) f (s.size - f - g : Nat) = .tuple #[.string y, .int .i64 0] by
            unfold appV; rw [diff_app hd (by omega), diff_err hd (by omega)]] at k
          exact k
        · rw [play, if_neg hk2] at P
          exact editBoth8_no s t1 t2 h a1 n1 a2 n2 _ _ w h4 (by simpa using hk2) L (fun w => both20_second s t1 t2 h _ a1 n1 a2 n2 _ w (by simpa using hk2) H1 H2) P
      · rw [play, if_neg hk1] at P
        exact editBoth8_no s t1 t2 s a1 n1 a2 n2 _ _ w h4 (by simpa using hk1) L (fun w => both20_first s t1 t2 _ a1 n1 a2 n2 _ w (by simpa using hk1) H1) P

theorem Try.cells3b : Try.prog.cellsOf 3 = 1 := by kernel_rfl
theorem Try.cells9b : Try.prog.cellsOf 9 = 1 := by kernel_rfl
theorem Try.cells43 : Try.prog.cellsOf 43 = 6 := by kernel_rfl
theorem array6 {α : Type} {cs : Array α} (h : cs.size = 6) : ∃ c0 c1 c2 c3 c4 c5, cs = #[c0, c1, c2, c3, c4, c5] := by
  obtain ⟨l⟩ := cs
  match l, h with
  | [c0, c1, c2, c3, c4, c5], _ => exact ⟨c0, c1, c2, c3, c4, c5, rfl⟩
/-- one edit's three cells, read -/
theorem ed_read {H : Type} {enc : TypeId × Value → H} {W : World} {fuel : Nat} {c0 c1 c2 : Value} {x : DataW H × List MemPlace} (h : DataW.trod enc Try.prog W 0 (fun _ => true) true fuel 23 [c0, c1, c2] = some x) :
    ∃ (a n : Int) (t : ByteArray), c0 = .int .i64 a ∧ c1 = .int .i64 n ∧ c2 = .string t ∧ a ≤ 9223372036854775807 := by
  obtain ⟨y0, y1, y2, q, _, _, t0, t1, t2⟩ := Deep.trod_struct3 Try.underlying23 h
  obtain ⟨ea, e0, _, wa⟩ := DataW.trod_int Try.underlying3 t0
  obtain ⟨en, e1, _, wn⟩ := DataW.trod_int Try.underlying3 t1
  obtain ⟨et, e2, _, wt⟩ := DataW.trod_string Try.underlying9 t2
  simp [Try.cells3b] at e0 e1
  simp [Try.cells9b] at e2
  exact ⟨ea, en, et, e0, e1, e2, (bounds_i64 wa).2⟩
theorem open_two {H : Type} {enc : TypeId × Value → H} {W : World} {v : Value} {d : DataW H} {p : List MemPlace} {base : Nat} (hv : Value.okWide Try.prog W .any base 43 v)
    (h : DataW.Trod enc Try.prog W 0 (fun _ => true) true 43 v d p) :
    ∃ (a1 n1 a2 n2 : Int) (t1 t2 : ByteArray), v = .agg #[.int .i64 a1, .int .i64 n1, .string t1, .int .i64 a2, .int .i64 n2, .string t2] ∧ a1 ≤ 9223372036854775807 ∧ a2 ≤ 9223372036854775807 := by
  simp only [Value.okWide, Try.underlying43] at hv
  obtain ⟨cs, rfl, hsz, _⟩ := hv
  rw [Try.cells43] at hsz
  obtain ⟨c0, c1, c2, c3, c4, c5, rfl⟩ := array6 hsz
  obtain ⟨fuel, hf⟩ := h
  obtain ⟨xs, m, _, _, _, hlen, hx⟩ := DataW.trod_array Try.underlying43 hf
  rw [Try.cells23] at hx
  have h0 := hx 0 (by omega)
  have h1 := hx 1 (by omega)
  simp [Value.cells] at h0 h1
  match xs, hlen with
  | [y0, y1], _ =>
    simp at h0 h1
    obtain ⟨a1, n1, t1, rfl, rfl, rfl, b1⟩ := ed_read h0
    obtain ⟨a2, n2, t2, rfl, rfl, rfl, b2⟩ := ed_read h1
    exact ⟨a1, n1, a2, n2, t1, t2, rfl, b1, b2⟩

set_option maxRecDepth 100000 in
theorem editBoth_lifted (os : Os) (started : os.Started) (H : Type) (enc : TypeId × Value → H) :
    ReturnsInHanded {} Try.checked os 8 .any (Rows.editBothSpec.pre6 enc Try.prog Try.f8 Rows.editBothRow.domain false) (Rows.editBothSpec.post enc Try.prog Try.f8 false true false false) := by
  refine returnsInHanded_of_change (C := Try.checked) Try.own started (by kernel_rfl) Try.func8
    (ChangeSpec.witness6 (enc := enc) (C := Try.checked) false ⟨#[], #[.string .empty, .agg #[.int .i64 0, .int .i64 0, .string .empty, .int .i64 0, .int .i64 0, .string .empty]], []⟩ 8 (by kernel_rfl) (by kernel_rfl) (by kernel_rfl) (by kernel_rfl)) ?_
  intro W base args ds gs before hval0 hW hcnd _
  have hval : ∀ (j : Nat) t v, Try.f8.params[j]? = some t → args[j]? = some v → Value.okWide Try.prog W .any base t v := hval0
  have hW' := hW
  obtain ⟨p, q, hA0, hV, rfl, hfz, hnd⟩ := hW
  have hA : DataW.TrodAll enc Try.prog W 0 (fun _ => true) true Try.f8.params.toList args.toList ds p := hA0
  rw [Try.params8] at hA hval
  obtain ⟨v0, v1, d0, d1, p0, p1, rfl, rfl, rfl, h0, h1⟩ := trodAll_two hA
  obtain ⟨s, rfl, rfl, rfl, hs⟩ := open_string Try.underlying9 (hval 0 9 v0 rfl rfl) h0
  obtain ⟨a1, n1, a2, n2, t1, t2, rfl, b1, b2⟩ := open_two (hval 1 43 v1 rfl rfl) h1
  obtain ⟨rfl, rfl⟩ := trodVars_none hV
  clear hA0 hval0
  refine (editBoth8 s t1 t2 a1 n1 a2 n2 W (by unfold maxLen at hs; omega) b1 b2).mono fun e W' ⟨he, hb⟩ => ?_
  subst he
  exact ⟨_, rfl, law_post (by kernel_rfl) rfl (by kernel_rfl) rfl hW' hb⟩

theorem editBoth_holds : Rows.EditBothSaid :=
  OpenClaim.holds_of_wide 8 Try.f8 rfl rfl rfl rfl rfl rfl rfl ⟨rfl, rfl, rfl, rfl, rfl⟩ rfl rfl rfl rfl rfl (by kernel_rfl) Try.func8 (by kernel_rfl)
    (of_decide_eq_true (by kernel_rfl)) (by unfold Func.isWrapper; first | (rw [if_pos (by decide +kernel)]; kernel_rfl) | (rw [if_neg (by decide +kernel)]; exact ⟨rfl, rfl⟩))
    (fun os started H enc _ => editBoth_lifted os started H enc)

end Go.Proofs.Ytfgjlgcoablnoaa
