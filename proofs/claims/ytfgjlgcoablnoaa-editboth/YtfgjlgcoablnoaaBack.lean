/- The contracts of edit.Back and topiaryref01.Back. -/
import Derived.Test.YtfgjlgcoablnoaaMath
namespace Go.Proofs.Ytfgjlgcoablnoaa
open Go.RowKit

theorem keep_cell {u w1 : World} (hb : Below u.heap.size u w1) {b o : Nat} {v : Value} (h : u.cell? ⟨b, o, none⟩ = some v) : w1.cell? ⟨b, o, none⟩ = some v :=
  (hb.cell (p := ⟨b, o, none⟩) (World.block_lt_of_cell? u ⟨b, o, none⟩ h)).trans h

theorem keep_blk {u w1 : World} (hb : Below u.heap.size u w1) {b : Nat} {x : Obj} (h : u.heap[b]? = some x) : w1.heap[b]? = some x :=
  (hb.block b (by
    rcases Nat.lt_or_ge b u.heap.size with h1 | h1
    · exact h1
    · rw [Array.getElem?_eq_none h1] at h; cases h)).trans h
theorem blk_cell {w : World} {b : Nat} {cs : Array Value} {T : TypeId} {fr : Nat × Nat} (h : w.heap[b]? = some (.cells cs T fr)) {o : Nat} {v : Value} (hv : cs[o]? = some v) : w.cell? ⟨b, o, none⟩ = some v := by
  simp [World.cell?, h, hv]
theorem blk_frozen {w : World} {b : Nat} {cs : Array Value} {T : TypeId} (h : w.heap[b]? = some (.cells cs T (0, 0))) (o : Nat) : w.frozen? ⟨b, o, none⟩ = false := by
  simp [World.frozen?, h]

theorem blk_new2 (w : World) (o o' : Obj) : ((w.alloc o).alloc o').heap[w.heap.size + 1]? = some o' := by
  have := heap_alloc_new (w.alloc o) o'; simpa using this
theorem below2 {w : World} {o o' : Obj} : Below w.heap.size w ((w.alloc o).alloc o') := ((Below.refl _ _).alloc (Nat.le_refl _) o).alloc (by simp) o'

def backA (s t : ByteArray) (a n : Nat) : Value := .agg #[.int .i64 a, .int .i64 t.size, .string (s.extract a (a + n))]

set_option maxHeartbeats 1000000 in
theorem back13_ok (s t : ByteArray) (a n : Nat) (w : World) (hs : s.size ≤ 1000000) (ht : t.size ≤ 1000000) (hf : a + n ≤ s.size) (hm : s.size - n + t.size ≤ 4000) :
    Calls Try.prog 13 #[.string s, .agg #[.int .i64 a, .int .i64 n, .string t]] w fun e w' => e = .returned (.tuple #[backA s t a n, .int .i64 0]) ∧ Below w.heap.size w w' := by
  have H21 := fun w => refusal21 s t a n w hs ht (by omega)
  rw [errNo_ok (decide_eq_true (by omega)) (by omega)] at H21
  have G21 := (show Hid _ from H21)
  clear H21
  have G : Hid (∀ w, Calls Try.prog 25 #[.string s, .agg #[.int .i64 (a : Int), .int .i64 (n : Int), .string t]] w fun e w' => e = .returned (.string (s.extract a (a + n))) ∧ Below w.heap.size w w') :=
    fun w => gone25 s t a n w (by omega) hf
  have G24 : Hid (∀ w, Calls Try.prog 24 #[.string (s.extract a (a + n))] w fun e w' => e = .returned (.string (s.extract a (a + n))) ∧ Below w.heap.size w w') :=
    fun w => clone24 _ w (by rw [ByteArray.size_extract]; omega)
  go_enter Try.func13, Try.ntmps13
  go_wp2_with (first
    | (go_at_call 21; refine (G21.out _).mono ?_; rintro e w1 ⟨rfl, hb⟩; have hz1 : w.heap.size + 1 < w1.heap.size := by (have := hb.size; simp at this; omega)))
  have q0 : w1.cell? ⟨w.heap.size, 0, none⟩ = some (.int .i64 a) := keep_cell hb (by simp)
  have q1 : w1.cell? ⟨w.heap.size, 1, none⟩ = some (.int .i64 n) := keep_cell hb (by simp)
  have q2 : w1.cell? ⟨w.heap.size, 2, none⟩ = some (.string t) := keep_cell hb (by simp)
  have B1 : w1.heap[w.heap.size + 1]? = some (.cells #[.int .i64 0, .int .i64 0, .string ⟨#[]⟩] 23) := keep_blk hb (blk_new2 _ _ _)
  go_region_held3 (fun w' => w'.cell? ⟨w.heap.size, 0, none⟩ = some (.int .i64 a) ∧ w'.cell? ⟨w.heap.size, 1, none⟩ = some (.int .i64 n) ∧ w'.cell? ⟨w.heap.size, 2, none⟩ = some (.string t)) (go_keep) ((first
    | (go_at_call 25; refine (G.out _).mono ?_; rintro e w2 ⟨rfl, hb2⟩; have p0 := keep_cell hb2 (by exact q0); have p1 := keep_cell hb2 (by exact q1); have p2 := keep_cell hb2 (by exact q2); have B2 := keep_blk hb2 (by exact B1))
    | (go_at_call 24; refine (G24.out _).mono ?_; rintro e w3 ⟨rfl, hb3⟩; have r0 := keep_cell hb3 (by exact p0); have r1 := keep_cell hb3 (by exact p1); have r2 := keep_cell hb3 (by exact p2); have B3 := keep_blk hb3 (by exact B2); have c0 := blk_cell B3 (o := 0) rfl; have c1 := blk_cell B3 (o := 1) rfl; have c2 := blk_cell B3 (o := 2) rfl; have f0 := blk_frozen B3 0; have f1 := blk_frozen B3 1; have f2 := blk_frozen B3 2)))
  go_wp2
  exact bodyPost_ret (v := .tuple #[.agg #[.int .i64 a, .int .i64 t.size, .string (s.extract a (a + n))], .int .i64 0]) (by simp [results, Try.results13, go_sem, c0, c1, c2]) rfl ⟨rfl, (((bl_step (bl_step (bl_step below2 hb).drew hb2) hb3).setCell (by simp) _).setCell (by simp) _).setCell (by simp) _⟩

set_option maxHeartbeats 400000 in
theorem back13_no (s t : ByteArray) (a n k : Int) (w : World) (hs : s.size ≤ 1000000) (ht : t.size ≤ 1000000) (ha : a ≤ 9223372036854775807) (hk : errNo s.size a n t.size = k) (hne : k ≠ 0) :
    Calls Try.prog 13 #[.string s, .agg #[.int .i64 a, .int .i64 n, .string t]] w fun e w' => e = .returned (.tuple #[.agg #[.int .i64 0, .int .i64 0, .string ⟨#[]⟩], .int .i64 k]) ∧ Below w.heap.size w w' := by
  have H21 := fun w => refusal21 s t a n w hs ht ha
  rw [hk] at H21
  have G21 := (show Hid _ from H21)
  clear H21 hk
  have hne' : (k != 0) = true := by simpa using hne
  go_enter Try.func13, Try.ntmps13
  go_wp2_with (first
    | (go_at_call 21; refine (G21.out _).mono ?_; rintro e w1 ⟨rfl, hb⟩; have B1 : w1.heap[w.heap.size + 1]? = some (.cells #[.int .i64 0, .int .i64 0, .string ⟨#[]⟩] 23) := keep_blk hb (blk_new2 _ _ _); have c0 := blk_cell B1 (o := 0) rfl; have c1 := blk_cell B1 (o := 1) rfl; have c2 := blk_cell B1 (o := 2) rfl; have f0 := blk_frozen B1 0; have f1 := blk_frozen B1 1; have f2 := blk_frozen B1 2))
  exact bodyPost_ret (v := .tuple #[.agg #[.int .i64 0, .int .i64 0, .string ⟨#[]⟩], .int .i64 k]) (by simp [results, Try.results13, go_sem, c0, c1, c2]) rfl ⟨rfl, (((bl_step below2 hb).setCell (by simp) _).setCell (by simp) _).setCell (by simp) _⟩

set_option maxHeartbeats 1000000 in
theorem refBack14 (s t : ByteArray) (a n : Nat) (w : World) (hs : s.size ≤ 1000000) (hf : a + n ≤ s.size) :
    Calls Try.prog 14 #[.string s, .agg #[.int .i64 a, .int .i64 n, .string t]] w fun e w' => e = .returned (backA s t a n) ∧ Below w.heap.size w w' := by
  have h3 : wrap64 ((a : Int) + (n : Int)) = (a : Int) + (n : Int) := by unfold wrap64; omega
  have h1 : ∀ u : World, (Instr.slice 9 (.string s) (some (.int .i64 (a : Int))) (some (.int .i64 (IntKind.i64.wrap ((a : Int) + (n : Int))))) none).run Try.prog u = .ok (.string (s.extract a (a + n))) u := by
    intro u
    rw [IntWalk.i64_left, h3, run_slice_string _ _ _ _ _ _ _ Try.underlying9 (by omega) (by omega) (by omega)]
    congr 3
  have B1 : ((w.alloc (.cells #[.int .i64 a, .int .i64 n, .string t] 23)).alloc (.cells #[.int .i64 0, .int .i64 0, .string ⟨#[]⟩] 23)).heap[w.heap.size + 1]? = some (.cells #[.int .i64 0, .int .i64 0, .string ⟨#[]⟩] 23) := blk_new2 _ _ _
  go_enter Try.func14, Try.ntmps14
  go_wp2
  go_region_held3 (fun w' => w'.cell? ⟨w.heap.size, 0, none⟩ = some (.int .i64 a) ∧ w'.cell? ⟨w.heap.size, 1, none⟩ = some (.int .i64 n) ∧ w'.cell? ⟨w.heap.size, 2, none⟩ = some (.string t)) (go_keep) (fail)
  go_wp2
  exact bodyPost_ret (v := .agg #[.int .i64 a, .int .i64 t.size, .string (s.extract a (a + n))]) (by simp [results, Try.results14, go_sem]) rfl ⟨rfl, below2.drew⟩

end Go.Proofs.Ytfgjlgcoablnoaa
