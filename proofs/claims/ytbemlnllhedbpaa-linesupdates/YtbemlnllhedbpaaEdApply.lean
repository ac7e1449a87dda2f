/- Contracts of replaced, refusal, Apply. -/
import Derived.Test.YtbemlnllhedbpaaEdFits
import Derived.Deep.RegionHeld3
namespace Go.Proofs.Ytbemlnllhedbpaa
open Go.RowKit

def madeOf (s t : ByteArray) (a n : Nat) : ByteArray := s.extract 0 a ++ t ++ s.extract (a + n) s.size

theorem bcell {W w1 : World} (hb : Below W.heap.size W w1) : (∀ b o, b < W.heap.size → w1.cell? ⟨b, o, none⟩ = W.cell? ⟨b, o, none⟩) ∧ (∀ b o, b < W.heap.size → w1.frozen? ⟨b, o, none⟩ = W.frozen? ⟨b, o, none⟩) :=
  ⟨fun b o h => hb.cell (p := ⟨b, o, none⟩) h, fun b o h => hb.frozen (p := ⟨b, o, none⟩) h⟩

theorem bl_stepE {w u w1 : World} (h : Below w.heap.size w u) (hb : Below u.heap.size u w1) : Below w.heap.size w w1 := h.trans (hb.mono h.size)

theorem slice_from (s : ByteArray) (a n : Nat) (hf : a + n ≤ s.size) (u : World) :
    (Instr.slice 9 (.string s) (some (.int .i64 ((a : Int) + (n : Int)))) none none).run Try.prog u = .ok (.string (s.extract (a + n) s.size)) u := by
  rw [run_slice_string_from_if _ _ _ _ _ Try.underlying9, if_pos (by omega)]
  congr 3
theorem slice_to (s : ByteArray) (a : Nat) (hf : a ≤ s.size) (u : World) :
    (Instr.slice 9 (.string s) none (some (.int .i64 (a : Int))) none).run Try.prog u = .ok (.string (s.extract 0 a)) u := by
  rw [run_slice_string_to_if _ _ _ _ _ Try.underlying9, if_pos (by omega)]
  congr 3

set_option maxHeartbeats 400000 in
theorem replaced22 (s t : ByteArray) (a n : Nat) (w : World) (hs : s.size ≤ 9223372036854775807) (hf : a + n ≤ s.size) (hm : s.size - n + t.size ≤ 4000) :
    Calls Try.prog 27 #[.string s, .agg #[.int .i64 a, .int .i64 n, .string t]] w fun e w' => e = .returned (.string (madeOf s t a n)) ∧ Below w.heap.size w w' := by
  have h1 := slice_from s a n hf
  have h2 := slice_to s a (by omega)
  have h3 : wrap64 ((a : Int) + (n : Int)) = (a : Int) + (n : Int) := by unfold wrap64; omega
  have h4 : ∀ u : World, (Instr.slice 9 (.string s) (some (.int .i64 (IntKind.i64.wrap ((a : Int) + (n : Int))))) none none).run Try.prog u = .ok (.string (s.extract (a + n) s.size)) u := by rw [IntWalk.i64_left, h3]; exact h1
  have h5 : ∀ u : World, (Instr.slice 9 (.string s) (some (.int .i64 (wrap64 ((a : Int) + (n : Int))))) none none).run Try.prog u = .ok (.string (s.extract (a + n) s.size)) u := by rw [h3]; exact h1
  have hsz : Hid ((s.extract 0 a ++ t ++ s.extract (a + n) s.size).size ≤ 281474976710656) := by unfold Hid; simp only [ByteArray.size_append, ByteArray.size_extract]; omega
  have h6 : ¬ 9223372036854775807 < min a s.size + t.size := by omega
  have h7 : ¬ 9223372036854775807 < min a s.size + t.size + (s.size - (a + n)) := by omega
  go_enter Try.func27, Try.ntmps27
  go_wp2
  go_region_held3 (fun w' => w'.cell? ⟨w.heap.size, 0, none⟩ = some (.int .i64 a) ∧ w'.cell? ⟨w.heap.size, 1, none⟩ = some (.int .i64 n) ∧ w'.cell? ⟨w.heap.size, 2, none⟩ = some (.string t)) (go_keep) ((go_at_call 29; refine (clone24 _ _ hsz.out).mono ?_; rintro e w1 ⟨rfl, hb⟩; obtain ⟨hc, hfz⟩ := bcell hb))
  go_wp2
  go_ret
  exact ⟨rfl, bl_stepE (((Below.refl _ _).alloc (Nat.le_refl _) _).drew) hb⟩

def errNo (l a n tl : Int) : Int := if fitsB l a n = true then (if 4000 < l - n + tl then 3 else 0) else 2
def appS (s t : ByteArray) (a n : Int) : ByteArray := if errNo s.size a n t.size = 0 then madeOf s t a.toNat n.toNat else ⟨#[]⟩

set_option maxHeartbeats 400000 in
theorem refusal21 (s t : ByteArray) (a n : Int) (w : World) (hs : s.size ≤ 1000000) (ht : t.size ≤ 1000000) (ha : a ≤ 9223372036854775807) :
    Calls Try.prog 26 #[.string s, .agg #[.int .i64 a, .int .i64 n, .string t]] w fun e w' => e = .returned (.int .i64 (errNo s.size a n t.size)) ∧ Below w.heap.size w w' := by
  cases hf : fitsB s.size a n with
  | false =>
    have he : Hid (errNo s.size a n t.size = 2) := by unfold Hid errNo; rw [hf]; rfl
    go_enter Try.func26, Try.ntmps26
    go_wp2_with (go_at_call 28; refine (fits28 _ _ _ _ _ (by omega) ha).mono ?_; rintro e w1 ⟨rfl, hb⟩; obtain ⟨hc, hfz⟩ := bcell hb)
    go_ret
    exact ⟨by rw [he.out]; rfl, bl_stepE ((Below.refl _ _).alloc (Nat.le_refl _) _) hb⟩
  | true =>
    have hf' : 0 ≤ a ∧ 0 ≤ n ∧ n ≤ s.size - a := of_decide_eq_true hf
    obtain ⟨f1, f2, f3⟩ := hf'
    by_cases hm : 4000 < (s.size : Int) - n + t.size
    · have he : Hid (errNo s.size a n t.size = 3) := by unfold Hid errNo; rw [hf, if_pos rfl, if_pos hm]
      go_enter Try.func26, Try.ntmps26
      go_wp2_with (go_at_call 28; refine (fits28 _ _ _ _ _ (by omega) ha).mono ?_; rintro e w1 ⟨rfl, hb⟩; obtain ⟨hc, hfz⟩ := bcell hb)
      go_ret
      exact ⟨by rw [he.out]; rfl, bl_stepE ((Below.refl _ _).alloc (Nat.le_refl _) _) hb⟩
    · have he : Hid (errNo s.size a n t.size = 0) := by unfold Hid errNo; rw [hf, if_pos rfl, if_neg hm]
      go_enter Try.func26, Try.ntmps26
      go_wp2_with (go_at_call 28; refine (fits28 _ _ _ _ _ (by omega) ha).mono ?_; rintro e w1 ⟨rfl, hb⟩; obtain ⟨hc, hfz⟩ := bcell hb)
      go_ret
      exact ⟨by rw [he.out]; rfl, bl_stepE ((Below.refl _ _).alloc (Nat.le_refl _) _) hb⟩

end Go.Proofs.Ytbemlnllhedbpaa
