/- The contract of wakes; of a nil text. -/
import Derived.Test.YtnhabinnmkjnbaaAbs
namespace Go.Proofs.Ytnhabinnmkjnbaa
open Go.RowKit

def bAB : ByteArray := ⟨#[97, 98]⟩
def bX : ByteArray := ⟨#[120]⟩
def bAXB : ByteArray := ⟨#[97, 120, 98]⟩
theorem wake_edit : St.edit ⟨[], bAB, []⟩ bX 1 0 = (0, ⟨[bAB], bAXB, []⟩) := by
  have h : errNo bAB.size 1 0 bX.size = 0 := by decide
  have m : madeOf bAB bX (1 : Int).toNat (0 : Int).toNat = bAXB := by
    apply ext_list
    rw [madeOf_list]
    rfl
  unfold St.edit
  rw [if_pos h, m]
  rfl

set_option maxHeartbeats 1000000 in
theorem wakesT (w : World) : Calls Try.prog 8 #[] w fun e w' => e = .returned (.bool true) ∧ Below w.heap.size w w' := by
  have G0 : Hid (∀ u, Calls Try.prog 10 #[.string ⟨#[97, 98]⟩] u fun e w' => ∃ tb F, e = .returned (.tuple #[.pointer (some ⟨tb, 0, none⟩), .int .i64 0]) ∧ IsText w' tb F ⟨[], bAB, []⟩ ∧ (∀ k, F k → u.heap.size ≤ k) ∧ Below u.heap.size u w') := fun u => newT bAB u (by decide)
  have G1 : Hid (∀ u tb F, IsText u tb F ⟨[], bAB, []⟩ → Calls Try.prog 15 #[.pointer (some ⟨tb, 0, none⟩), .agg #[.int .i64 1, .int .i64 0, .string ⟨#[120]⟩]] u fun e w' => e = .returned (.int .i64 0) ∧ ∃ F', IsText w' tb F' ⟨[bAB], bAXB, []⟩ ∧ Moved F F' u w') := fun u tb F h => by
    have k := editT h bX 1 0 (by decide) (by decide)
    rw [wake_edit] at k
    exact k
  have G2 : Hid (∀ u tb F, IsText u tb F ⟨[bAB], bAXB, []⟩ → Calls Try.prog 13 #[.pointer (some ⟨tb, 0, none⟩)] u fun e w' => e = .returned (.string ⟨#[97, 120, 98]⟩) ∧ ∃ F', IsText w' tb F' ⟨[bAB], bAXB, []⟩ ∧ Moved F F' u w') := fun u tb F h => stringT h
  have G3 : Hid (∀ u tb F, IsText u tb F ⟨[bAB], bAXB, []⟩ → Calls Try.prog 18 #[.pointer (some ⟨tb, 0, none⟩)] u fun e w' => e = .returned (.int .i64 0) ∧ ∃ F', IsText w' tb F' ⟨[], bAB, [bAXB]⟩ ∧ Moved F F' u w') := fun u tb F h => undoT h
  have G4 : Hid (∀ u tb F, IsText u tb F ⟨[], bAB, [bAXB]⟩ → Calls Try.prog 13 #[.pointer (some ⟨tb, 0, none⟩)] u fun e w' => e = .returned (.string ⟨#[97, 98]⟩) ∧ ∃ F', IsText w' tb F' ⟨[], bAB, [bAXB]⟩ ∧ Moved F F' u w') := fun u tb F h => stringT h
  have G5 : Hid (∀ u tb F, IsText u tb F ⟨[], bAB, [bAXB]⟩ → Calls Try.prog 19 #[.pointer (some ⟨tb, 0, none⟩)] u fun e w' => e = .returned (.int .i64 0) ∧ ∃ F', IsText w' tb F' ⟨[bAB], bAXB, []⟩ ∧ Moved F F' u w') := fun u tb F h => redoT h
  go_enter Try.func8, Try.ntmps8
  go_wp2_with (first
    | (go_at_call 10; refine (G0.out _).mono ?_; rintro e w1 ⟨tb, F, rfl, h1, hF, hb⟩)
    | (go_at_call 15; refine (G1.out _ _ _ h1).mono ?_; rintro e w2 ⟨rfl, F2, h2, m2⟩)
    | (go_at_call 13; refine (G2.out _ _ _ h5).mono ?_; rintro e w6 ⟨rfl, F6, h6, m6⟩)
    | (go_at_call 13; refine (G4.out _ _ _ h4).mono ?_; rintro e w5 ⟨rfl, F4', h4', m4'⟩)
    | (go_at_call 13; refine (G2.out _ _ _ h2).mono ?_; rintro e w3 ⟨rfl, F3, h3, m3⟩)
    | (go_at_call 18; refine (G3.out _ _ _ h3).mono ?_; rintro e w4 ⟨rfl, F4, h4, m4⟩)
    | (go_at_call 19; refine (G5.out _ _ _ h4').mono ?_; rintro e w5' ⟨rfl, F5, h5, m5⟩))
  go_ret
  have M := ((((m2.trans m3).trans m4).trans m4').trans m5).trans m6
  exact ⟨rfl, hb.trans (M.1.below hF hb.size)⟩

set_option maxHeartbeats 400000 in
theorem nilSlice (w : World) : Calls Try.prog 16 #[.pointer none, .int .i64 0, .int .i64 0] w fun e w' => e = .returned (.tuple #[.string ⟨#[]⟩, .int .i64 11]) ∧ Below w.heap.size w w' := by
  go_enter Try.func16, Try.ntmps16
  go_wp2
  go_ret2
  exact ⟨rfl, Below.refl _ _⟩
set_option maxHeartbeats 400000 in
theorem nilSteps (w : World) : Calls Try.prog 12 #[.pointer none] w fun e w' => e = .returned (.tuple #[.int .i64 0, .int .i64 0]) ∧ Below w.heap.size w w' := by
  go_enter Try.func12, Try.ntmps12
  go_wp2
  go_ret2
  exact ⟨rfl, Below.refl _ _⟩
set_option maxHeartbeats 400000 in
theorem nilEdit (v : Value) (w : World) (hv : v = .agg #[.int .i64 0, .int .i64 0, .string ⟨#[]⟩]) : Calls Try.prog 15 #[.pointer none, v] w fun e w' => e = .returned (.int .i64 11) ∧ Below w.heap.size w w' := by
  subst hv
  go_enter Try.func15, Try.ntmps15
  go_wp2
  go_ret
  exact ⟨rfl, (Below.refl _ _).alloc (Nat.le_refl _) _⟩
set_option maxHeartbeats 400000 in
theorem nilUndo (w : World) : Calls Try.prog 18 #[.pointer none] w fun e w' => e = .returned (.int .i64 11) ∧ Below w.heap.size w w' := by
  go_enter Try.func18, Try.ntmps18
  go_wp2
  go_ret
  exact ⟨rfl, Below.refl _ _⟩
set_option maxHeartbeats 400000 in
theorem nilRedo (w : World) : Calls Try.prog 19 #[.pointer none] w fun e w' => e = .returned (.int .i64 11) ∧ Below w.heap.size w w' := by
  go_enter Try.func19, Try.ntmps19
  go_wp2
  go_ret
  exact ⟨rfl, Below.refl _ _⟩
set_option maxHeartbeats 400000 in
theorem nilLen (w : World) : Calls Try.prog 14 #[.pointer none] w fun e w' => e = .returned (.int .i64 0) ∧ Below w.heap.size w w' := by
  go_enter Try.func14, Try.ntmps14
  go_wp2
  go_ret
  exact ⟨rfl, Below.refl _ _⟩
set_option maxHeartbeats 400000 in
theorem nilString (w : World) : Calls Try.prog 13 #[.pointer none] w fun e w' => e = .returned (.string ⟨#[]⟩) ∧ Below w.heap.size w w' := by
  go_enter Try.func13, Try.ntmps13
  go_wp2
  go_ret
  exact ⟨rfl, Below.refl _ _⟩

end Go.Proofs.Ytnhabinnmkjnbaa
