/- The contract of change. -/
import Derived.Test.YtnhabinnmkjnbaaReads
namespace Go.Proofs.Ytnhabinnmkjnbaa
open Go.RowKit

set_option maxHeartbeats 2000000 in
theorem changeOk {tb pb : Nat} {ps : List ByteArray} {uv rv : Value} {us rs : List Ed} {w : World} (h : TextAt w tb pb ps uv rv us rs) (t : ByteArray) (a n : Nat) (ht : t.size ≤ 1000000) (hf : a + n ≤ total ps) (hm : total ps - n + t.size ≤ 4000) :
    Calls Try.prog 28 #[.pointer (some ⟨tb, 0, none⟩), .agg #[.int .i64 a, .int .i64 n, .string t]] w fun e w' => e = .returned (.tuple #[backA (joinB ps) t a n, .int .i64 0]) ∧
      (∃ pb', TextAt w' tb pb' [(joinB ps).extract 0 a, t, (joinB ps).extract (a + n) (joinB ps).size] uv rv us rs ∧ w.heap.size ≤ pb') ∧ Kept (oneBlk tb) w w' := by
  have hj := joinB_size ps
  have hsm := h.small
  obtain ⟨s, hs⟩ : ∃ s, joinB ps = s := ⟨_, rfl⟩
  have HW := fun (u : World) (hu : TextAt u tb pb ps uv rv us rs) => wholeIs hu
  rw [hs] at hj HW
  rw [hs]
  have GW : Hid (∀ (u : World) (hu : TextAt u tb pb ps uv rv us rs), _) := HW
  clear HW
  have htb : tb < w.heap.size := blk_lt h.head
  have hsz : s.size ≤ 4000 := by omega
  have GB : Hid (∀ u, Calls Try.prog 38 #[.string s, .agg #[.int .i64 (a : Int), .int .i64 (n : Int), .string t]] u fun e w' => e = .returned (.tuple #[backA s t a n, .int .i64 0]) ∧ Below u.heap.size u w') :=
    fun u => back13_ok s t a n u (by omega) ht (by omega) (by omega)
  have GC : Hid (∀ u, Calls Try.prog 22 #[.string t] u fun e w' => e = .returned (.string t) ∧ Below u.heap.size u w') := fun u => clone24 _ u (by omega)
  have hn4 : total [s.extract 0 a, t, s.extract (a + n) s.size] ≤ 4000 := by simp [total]; omega
  have HT : Hid (TextAt w tb pb ps uv rv us rs) := h
  have h1 := slice_from s a n (by omega)
  have h2 := slice_to s a (by omega)
  have h3 : wrap64 ((a : Int) + (n : Int)) = (a : Int) + (n : Int) := by unfold wrap64; omega
  have h4 : ∀ u : World, (Instr.slice 9 (.string s) (some (.int .i64 (IntKind.i64.wrap ((a : Int) + (n : Int))))) none none).run Try.prog u = .ok (.string (s.extract (a + n) s.size)) u := by rw [IntWalk.i64_left, h3]; exact h1
  have h5 : ∀ u : World, (Instr.slice 9 (.string s) (some (.int .i64 (wrap64 ((a : Int) + (n : Int))))) none none).run Try.prog u = .ok (.string (s.extract (a + n) s.size)) u := by rw [h3]; exact h1
  clear h hs hj hsm
  unfold backA at GB ⊢
  go_enter Try.func28, Try.ntmps28
  go_wp2_with (first
    | (go_at_call 26; refine (GW.out _ (HT.out.low below2)).mono ?_; rintro e w1 ⟨rfl, ⟨pb1, ht1, hp1⟩, hk1⟩; have E1 : w1.heap[w.heap.size]? = some (.cells #[.int .i64 a, .int .i64 n, .string t] 34) := (hk1.blk (blk_alloc (heap_alloc_new _ _) _) (Nat.ne_of_gt htb)); have R1 : w1.heap[w.heap.size + 1]? = some (.cells #[.int .i64 0, .int .i64 0, .string ⟨#[]⟩] 34) := (hk1.blk (blk_new2 _ _ _) (Nat.ne_of_gt (Nat.lt_succ_of_lt htb))); obtain ⟨q0, q1, q2⟩ := cells3 E1)
    | (go_at_call 38; refine (GB.out _).mono ?_; rintro e w2 ⟨rfl, hb2⟩; have E2 := keep_blk hb2 E1; have R2 := keep_blk hb2 R1))
  have E3 := blk_alloc E2 (.cells #[.int .i64 a, .int .i64 t.size, .string (s.extract a (a + n))] 34)
  have R3 := blk_alloc R2 (.cells #[.int .i64 a, .int .i64 t.size, .string (s.extract a (a + n))] 34)
  have B3 := heap_alloc_new w2 (.cells #[.int .i64 a, .int .i64 t.size, .string (s.extract a (a + n))] 34)
  have T3 : Hid (TextAt (w2.alloc (.cells #[.int .i64 a, .int .i64 t.size, .string (s.extract a (a + n))] 34)) tb pb1 [s] uv rv us rs) := (ht1.low hb2).low ((Below.refl _ _).alloc (Nat.le_refl _) _)
  have z1 := hk1.size
  have z2 := hb2.size
  simp only [World.size_alloc] at z1
  obtain ⟨p0, p1, p2⟩ := cells3 E3
  clear q0 q1 q2
  go_region_held3 (fun w' => w'.cell? ⟨w.heap.size, 0, none⟩ = some (.int .i64 a) ∧ w'.cell? ⟨w.heap.size, 1, none⟩ = some (.int .i64 n) ∧ w'.cell? ⟨w.heap.size, 2, none⟩ = some (.string t)) (go_keep) ((first
    | (go_at_call 22; refine (GC.out _).mono ?_; rintro e w3 ⟨rfl, hb3⟩; have E4 := keep_blk hb3 (by exact E3); have R4 := keep_blk hb3 (by exact R3); have B4 := keep_blk hb3 (by exact B3); have T4 : Hid (TextAt w3 tb pb1 [s] uv rv us rs) := (T3.out.drew.low hb3); obtain ⟨r0, r1, r2⟩ := cells3 E4; have z3 : w2.heap.size + 1 ≤ w3.heap.size := (by (have := hb3.size; simp at this; omega)))
    | (go_at_call 21; refine (stand3 tb w3.heap.size _ _ _ _ _ _ _ _ _ (blk_alloc T4.out.head _) (heap_alloc_new _ _) (by omega)).mono ?_; rintro e w4 ⟨rfl, hh4, hk4⟩; have E5 := hk4.blk (blk_alloc E4 _) (Nat.ne_of_gt htb); have R5 := hk4.blk (blk_alloc R4 _) (Nat.ne_of_gt (Nat.lt_succ_of_lt htb)); have B5 := hk4.blk (blk_alloc B4 _) (by (show ¬ w2.heap.size = tb); omega); have P5 := hk4.blk (heap_alloc_new w3 _) (by (show ¬ w3.heap.size = tb); omega); obtain ⟨t0, t1, t2⟩ := cells3 E5; obtain ⟨d0, d1, d2⟩ := cells3 B5; obtain ⟨c0, c1, c2⟩ := cells3 R5; have f0 := blk_frozen R5 0; have f1 := blk_frozen R5 1; have f2 := blk_frozen R5 2)))
  go_wp2
  have K4 : Kept (oneBlk tb) w w4 := (((((((Kept.refl (oneBlk tb) w).alloc).alloc).trans hk1).trans (Kept.of_below hb2)).alloc.drew.trans (Kept.of_below hb3)).alloc).trans hk4
  have T5 : TextAt w4 tb w3.heap.size [s.extract 0 a, t, s.extract (a + n) s.size] uv rv us rs := (T4.out.low ((Below.refl _ _).alloc (Nat.le_refl _) _)).stood hk4 hh4 P5 hn4 (by simp)
  exact bodyPost_ret (v := .tuple #[.agg #[.int .i64 a, .int .i64 t.size, .string (s.extract a (a + n))], .int .i64 0]) (by simp [results, Try.results28, go_sem, c0, c1, c2]) rfl
    ⟨rfl, ⟨w3.heap.size, T5.keep (F := oneBlk (w.heap.size + 1)) ((((Kept.refl (oneBlk (w.heap.size + 1)) w4).setCell (a := ⟨w.heap.size + 1, 0, none⟩) fun _ => rfl).setCell (a := ⟨w.heap.size + 1, 1, none⟩) fun _ => rfl).setCell (a := ⟨w.heap.size + 1, 2, none⟩) fun _ => rfl)
      (by show ¬ tb = w.heap.size + 1; omega) (by show ¬ w3.heap.size = w.heap.size + 1; omega) (fun k e => by have := (own_lt HT.out.undo e).1; show ¬ k = w.heap.size + 1; omega) (fun k e => by have := (own_lt HT.out.redo e).1; show ¬ k = w.heap.size + 1; omega), by omega⟩,
      ((K4.setCell (a := ⟨w.heap.size + 1, 0, none⟩) fun hl => absurd hl (by show ¬ w.heap.size + 1 < w.heap.size; omega)).setCell (a := ⟨w.heap.size + 1, 1, none⟩) fun hl => absurd hl (by show ¬ w.heap.size + 1 < w.heap.size; omega)).setCell (a := ⟨w.heap.size + 1, 2, none⟩) fun hl => absurd hl (by show ¬ w.heap.size + 1 < w.heap.size; omega)⟩

set_option maxHeartbeats 2000000 in
theorem changeNo {tb pb : Nat} {ps : List ByteArray} {uv rv : Value} {us rs : List Ed} {w : World} (h : TextAt w tb pb ps uv rv us rs) (t : ByteArray) (a n k : Int) (ht : t.size ≤ 1000000) (ha : a ≤ 9223372036854775807)
    (hk : errNo (joinB ps).size a n t.size = k) (hne : k ≠ 0) :
    Calls Try.prog 28 #[.pointer (some ⟨tb, 0, none⟩), .agg #[.int .i64 a, .int .i64 n, .string t]] w fun e w' => e = .returned (.tuple #[.agg #[.int .i64 0, .int .i64 0, .string ⟨#[]⟩], .int .i64 k]) ∧
      (∃ pb', TextAt w' tb pb' [joinB ps] uv rv us rs ∧ (pb' = pb ∨ w.heap.size ≤ pb')) ∧ Kept (oneBlk tb) w w' := by
  have hj := joinB_size ps
  have hsm := h.small
  obtain ⟨s, hs⟩ : ∃ s, joinB ps = s := ⟨_, rfl⟩
  have HW := fun (u : World) (hu : TextAt u tb pb ps uv rv us rs) => wholeIs hu
  rw [hs] at hj HW hk
  rw [hs]
  have GW : Hid (∀ (u : World) (hu : TextAt u tb pb ps uv rv us rs), _) := HW
  clear HW
  have htb : tb < w.heap.size := blk_lt h.head
  have GB : Hid (∀ u, Calls Try.prog 38 #[.string s, .agg #[.int .i64 a, .int .i64 n, .string t]] u fun e w' => e = .returned (.tuple #[.agg #[.int .i64 0, .int .i64 0, .string ⟨#[]⟩], .int .i64 k]) ∧ Below u.heap.size u w') :=
    fun u => back13_no s t a n k u (by omega) ht ha hk hne
  have HT : Hid (TextAt w tb pb ps uv rv us rs) := h
  have hpb : pb < w.heap.size := blk_lt h.row
  have hne' : (k == 0) = false := by simpa using hne
  clear h hs hj hsm hk
  go_enter Try.func28, Try.ntmps28
  go_wp2_with (first
    | (go_at_call 26; refine (GW.out _ (HT.out.low below2)).mono ?_; rintro e w1 ⟨rfl, ⟨pb1, ht1, hp1⟩, hk1⟩; have E1 : w1.heap[w.heap.size]? = some (.cells #[.int .i64 a, .int .i64 n, .string t] 34) := (hk1.blk (blk_alloc (heap_alloc_new _ _) _) (Nat.ne_of_gt htb)); have R1 : w1.heap[w.heap.size + 1]? = some (.cells #[.int .i64 0, .int .i64 0, .string ⟨#[]⟩] 34) := (hk1.blk (blk_new2 _ _ _) (Nat.ne_of_gt (Nat.lt_succ_of_lt htb))); obtain ⟨q0, q1, q2⟩ := cells3 E1)
    | (go_at_call 38; refine (GB.out _).mono ?_; rintro e w2 ⟨rfl, hb2⟩; have R2 := blk_alloc (keep_blk hb2 R1) (.cells #[.int .i64 0, .int .i64 0, .string ⟨#[]⟩] 34); obtain ⟨c0, c1, c2⟩ := cells3 R2; have f0 := blk_frozen R2 0; have f1 := blk_frozen R2 1; have f2 := blk_frozen R2 2))
  have K2 : Kept (oneBlk tb) w w2 := ((((Kept.refl (oneBlk tb) w).alloc).alloc).trans hk1).trans (Kept.of_below hb2)
  have z1 := hk1.size
  have z2 := hb2.size
  simp only [World.size_alloc] at z1 hp1
  have T3 := (ht1.low hb2).low ((Below.refl _ _).alloc (Nat.le_refl _) (.cells #[.int .i64 0, .int .i64 0, .string ⟨#[]⟩] 34))
  exact bodyPost_ret (v := .tuple #[.agg #[.int .i64 0, .int .i64 0, .string ⟨#[]⟩], .int .i64 k]) (by simp [results, Try.results28, go_sem, c0, c1, c2]) rfl
    ⟨rfl, ⟨pb1, T3.keep (F := oneBlk (w.heap.size + 1)) ((((Kept.refl (oneBlk (w.heap.size + 1)) _).setCell (a := ⟨w.heap.size + 1, 0, none⟩) fun _ => rfl).setCell (a := ⟨w.heap.size + 1, 1, none⟩) fun _ => rfl).setCell (a := ⟨w.heap.size + 1, 2, none⟩) fun _ => rfl)
      (by show ¬ tb = w.heap.size + 1; omega) (by show ¬ pb1 = w.heap.size + 1; omega) (fun k e => by have := (own_lt HT.out.undo e).1; show ¬ k = w.heap.size + 1; omega) (fun k e => by have := (own_lt HT.out.redo e).1; show ¬ k = w.heap.size + 1; omega), by omega⟩,
      ((K2.alloc.setCell (a := ⟨w.heap.size + 1, 0, none⟩) fun hl => absurd hl (by show ¬ w.heap.size + 1 < w.heap.size; omega)).setCell (a := ⟨w.heap.size + 1, 1, none⟩) fun hl => absurd hl (by show ¬ w.heap.size + 1 < w.heap.size; omega)).setCell (a := ⟨w.heap.size + 1, 2, none⟩) fun hl => absurd hl (by show ¬ w.heap.size + 1 < w.heap.size; omega)⟩

end Go.Proofs.Ytnhabinnmkjnbaa
