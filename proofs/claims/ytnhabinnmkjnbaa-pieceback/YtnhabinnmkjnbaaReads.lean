/- The contracts of Len, String, Slice, Steps, New; of a nil text. -/
import Derived.Test.YtnhabinnmkjnbaaWhole
namespace Go.Proofs.Ytnhabinnmkjnbaa
open Go.RowKit

set_option maxHeartbeats 400000 in
theorem lenIs {tb pb : Nat} {ps : List ByteArray} {uv rv : Value} {us rs : List Ed} {w : World} (h : TextAt w tb pb ps uv rv us rs) :
    Calls Try.prog 14 #[.pointer (some ⟨tb, 0, none⟩)] w fun e w' => e = .returned (.int .i64 ((total ps : Nat) : Int)) ∧ w' = w := by
  have c1 : w.cell? ⟨tb, 1, none⟩ = some (.int .i64 ((total ps : Nat) : Int)) := blk_cell h.head rfl
  have hs := h.small
  clear h
  go_enter Try.func14, Try.ntmps14
  go_wp2_with (first | (go_at_call 27; refine (loadI tb 1 _ _ c1).mono ?_; rintro e w1 ⟨rfl, hw1⟩; subst w1))
  go_ret
  exact ⟨rfl, rfl⟩

set_option maxHeartbeats 400000 in
theorem stringIs {tb pb : Nat} {ps : List ByteArray} {uv rv : Value} {us rs : List Ed} {w : World} (h : TextAt w tb pb ps uv rv us rs) :
    Calls Try.prog 13 #[.pointer (some ⟨tb, 0, none⟩)] w fun e w' => e = .returned (.string (joinB ps)) ∧ (∃ pb', TextAt w' tb pb' [joinB ps] uv rv us rs ∧ (pb' = pb ∨ w.heap.size ≤ pb')) ∧ Kept (oneBlk tb) w w' := by
  have hsz : (joinB ps).size ≤ 281474976710656 := by rw [joinB_size]; have := h.small; omega
  have HT : Hid (TextAt w tb pb ps uv rv us rs) := h
  have HC : Hid (∀ u, Calls Try.prog 22 #[.string (joinB ps)] u fun e w' => e = .returned (.string (joinB ps)) ∧ Below u.heap.size u w') := fun u => clone24 _ u hsz
  clear h hsz
  go_enter Try.func13, Try.ntmps13
  go_wp2_with (first
    | (go_at_call 26; refine (wholeIs HT.out).mono ?_; rintro e w1 ⟨rfl, ⟨pb', ht1, hp1⟩, hk1⟩)
    | (go_at_call 22; refine (HC.out _).mono ?_; rintro e w2 ⟨rfl, hb2⟩))
  go_ret
  exact ⟨rfl, ⟨pb', ht1.low hb2, hp1⟩, hk1.trans (Kept.of_below hb2)⟩

set_option maxHeartbeats 400000 in
theorem sliceNo {tb pb : Nat} {ps : List ByteArray} {uv rv : Value} {us rs : List Ed} {w : World} (h : TextAt w tb pb ps uv rv us rs) (a n : Int) (ha : a ≤ 9223372036854775807) (hf : fitsB (total ps : Nat) a n = false) :
    Calls Try.prog 16 #[.pointer (some ⟨tb, 0, none⟩), .int .i64 a, .int .i64 n] w fun e w' => e = .returned (.tuple #[.string ⟨#[]⟩, .int .i64 2]) ∧ w' = w := by
  have HT : Hid (TextAt w tb pb ps uv rv us rs) := h
  have hs := h.small
  have hf' : ¬ (0 ≤ a ∧ 0 ≤ n ∧ n ≤ (total ps : Nat) - a) := of_decide_eq_false hf
  clear h hf
  by_cases h1 : a < 0
  · clear hf'
    go_enter Try.func16, Try.ntmps16
    go_wp2
    go_ret2
    exact ⟨rfl, rfl⟩
  · by_cases h2 : n < 0
    · clear hf'
      go_enter Try.func16, Try.ntmps16
      go_wp2
      go_ret2
      exact ⟨rfl, rfl⟩
    · have h3 : (total ps : Nat) - a < n := by omega
      clear hf'
      go_enter Try.func16, Try.ntmps16
      go_wp2_with (first
        | (go_at_call 14; refine (lenIs HT.out).mono ?_; rintro e w1 ⟨rfl, hw1⟩; subst w1))
      go_ret2
      exact ⟨rfl, rfl⟩

set_option maxHeartbeats 400000 in
theorem sliceOk {tb pb : Nat} {ps : List ByteArray} {uv rv : Value} {us rs : List Ed} {w : World} (h : TextAt w tb pb ps uv rv us rs) (a n : Nat) (hf : a + n ≤ total ps) :
    Calls Try.prog 16 #[.pointer (some ⟨tb, 0, none⟩), .int .i64 a, .int .i64 n] w fun e w' => e = .returned (.tuple #[.string ((joinB ps).extract a (a + n)), .int .i64 0]) ∧ (∃ pb', TextAt w' tb pb' [joinB ps] uv rv us rs ∧ (pb' = pb ∨ w.heap.size ≤ pb')) ∧ Kept (oneBlk tb) w w' := by
  have HT : Hid (TextAt w tb pb ps uv rv us rs) := h
  have hs := h.small
  have hj := joinB_size ps
  have hsz : ((joinB ps).extract a (a + n)).size ≤ 281474976710656 := by rw [ByteArray.size_extract]; omega
  have HC : Hid (∀ u, Calls Try.prog 22 #[.string ((joinB ps).extract a (a + n))] u fun e w' => e = .returned (.string ((joinB ps).extract a (a + n))) ∧ Below u.heap.size u w') := fun u => clone24 _ u hsz
  have hsl : ∀ u : World, (Instr.slice 9 (.string (joinB ps)) (some (.int .i64 (a : Int))) (some (.int .i64 ((a : Int) + (n : Int)))) none).run Try.prog u = .ok (.string ((joinB ps).extract a (a + n))) u := by
    intro u
    rw [run_slice_string _ _ _ _ _ _ _ Try.underlying9 (by omega) (by omega) (by omega)]
    congr 3
  have h1 : ¬ (a : Int) < 0 := by omega
  have h2 : ¬ (n : Int) < 0 := by omega
  have h3 : ¬ ((total ps : Nat) : Int) - (a : Int) < (n : Int) := by omega
  clear h hsz hj
  go_enter Try.func16, Try.ntmps16
  go_wp2_with (first
    | (go_at_call 14; refine (lenIs HT.out).mono ?_; rintro e w1 ⟨rfl, hw1⟩; subst w1)
    | (go_at_call 26; refine (wholeIs HT.out).mono ?_; rintro e w1 ⟨rfl, ⟨pb', ht1, hp1⟩, hk1⟩)
    | (go_at_call 22; refine (HC.out _).mono ?_; rintro e w2 ⟨rfl, hb2⟩))
  go_ret2
  exact ⟨rfl, ⟨pb', ht1.low hb2, hp1⟩, hk1.trans (Kept.of_below hb2)⟩

set_option maxHeartbeats 400000 in
theorem stepsIs {tb pb : Nat} {ps : List ByteArray} {uv rv : Value} {us rs : List Ed} {w : World} (h : TextAt w tb pb ps uv rv us rs) :
    Calls Try.prog 12 #[.pointer (some ⟨tb, 0, none⟩)] w fun e w' => e = .returned (.tuple #[.int .i64 us.length, .int .i64 rs.length]) ∧ w' = w.drew := by
  obtain ⟨ua, uc, rfl⟩ : ∃ ua uc, uv = .slice ua us.length uc := by
    rcases Joins.ownsRow_forms h.undo with ⟨rfl, h0⟩ | ⟨g, cap, rfl⟩
    · exact ⟨none, 0, by rw [h0]⟩
    · exact ⟨_, _, rfl⟩
  obtain ⟨ra, rc, rfl⟩ : ∃ ra rc, rv = .slice ra rs.length rc := by
    rcases Joins.ownsRow_forms h.redo with ⟨rfl, h0⟩ | ⟨g, cap, rfl⟩
    · exact ⟨none, 0, by rw [h0]⟩
    · exact ⟨_, _, rfl⟩
  have c3 : w.cell? ⟨tb, 3, none⟩ = some (.slice ua us.length uc) := blk_cell h.head rfl
  have c4 : w.cell? ⟨tb, 4, none⟩ = some (.slice ra rs.length rc) := blk_cell h.head rfl
  clear h
  go_enter Try.func12, Try.ntmps12
  go_wp2
  go_region_held3 (fun w' => w'.cell? ⟨tb, 3, none⟩ = some (.slice ua us.length uc) ∧ w'.cell? ⟨tb, 4, none⟩ = some (.slice ra rs.length rc)) (go_keep) (fail)
  go_wp2
  go_ret2
  exact ⟨rfl, rfl⟩

set_option maxHeartbeats 400000 in
theorem newFull (s : ByteArray) (w : World) (hs : s.size ≤ 9223372036854775807) (hb : 4000 < s.size) :
    Calls Try.prog 10 #[.string s] w fun e w' => e = .returned (.tuple #[.pointer none, .int .i64 3]) ∧ w' = w := by
  have hb' : (4000 : Int) < s.size := by omega
  go_enter Try.func10, Try.ntmps10
  go_wp2
  go_ret2
  exact ⟨rfl, rfl⟩

set_option maxHeartbeats 1000000 in
theorem newIs (s : ByteArray) (w : World) (hs : s.size ≤ 4000) :
    Calls Try.prog 10 #[.string s] w fun e w' => ∃ tb pb, e = .returned (.tuple #[.pointer (some ⟨tb, 0, none⟩), .int .i64 0]) ∧ TextAt w' tb pb [s] (.slice none 0 0) (.slice none 0 0) [] [] ∧ w.heap.size ≤ tb ∧ w.heap.size ≤ pb ∧ Below w.heap.size w w' := by
  have hb' : ¬ (4000 : Int) < s.size := by omega
  have HC : Hid (∀ u, Calls Try.prog 22 #[.string s] u fun e w' => e = .returned (.string s) ∧ Below u.heap.size u w') := fun u => clone24 _ u (by omega)
  go_enter Try.func10, Try.ntmps10
  go_wp2_with (first
    | (go_at_call 22; refine (HC.out _).mono ?_; rintro e w2 ⟨rfl, hb2⟩; have hh2 := keep_blk hb2 (heap_alloc_new _ _))
    | (go_at_call 21; refine (stand1 w.heap.size w2.heap.size s _ _ _ _ _ _ (blk_alloc hh2 _) (heap_alloc_new _ _) (by omega)).mono ?_; rintro e w3 ⟨rfl, hh3, hk3⟩))
  go_ret2
  have hz := hb2.size
  simp only [World.size_alloc] at hz
  have B2 : Below w.heap.size w w2 := ((Below.refl _ _).alloc (Nat.le_refl _) _).trans (hb2.mono (by simp))
  have K3 := hk3.below (N := w.heap.size) (by rintro k rfl; exact Nat.le_refl _) (by simp; omega)
  refine ⟨w.heap.size, w2.heap.size, rfl, ?_, Nat.le_refl _, by omega, (bl_alloc B2).trans K3⟩
  exact ⟨by simpa [total, bit] using hh3, hk3.blk (heap_alloc_new _ _) (fun e => by have e' : w2.heap.size = w.heap.size := e; omega), World.ownsRow_nil _ _ _ _, World.ownsRow_nil _ _ _ _, (fun k e => by cases e), by simpa [total] using hs, by simp⟩

end Go.Proofs.Ytnhabinnmkjnbaa
