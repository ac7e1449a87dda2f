/- The contract of edit.Both. -/
import Derived.Test.YtfgjlgcoablnoaaDiffMath
import Derived.Test.YtfgjlgcoablnoaaCells
namespace Go.Proofs.Ytfgjlgcoablnoaa
open Go.RowKit

theorem diff17_at {a b : ByteArray} {f g : Nat} (h : IsDiff a b f g) (w : World) (ha : a.size ≤ 1000000) (hb : b.size ≤ 1000000) :
    Calls Try.prog 17 #[.string a, .string b] w fun e w' => e = .returned (diffA a b f g) ∧ Below w.heap.size w w' :=
  (diff17 a b w ha hb).mono fun e w' ⟨f', g', he, hd, hl⟩ => by
    obtain ⟨rfl, rfl⟩ := h.one hd
    exact ⟨he, hl⟩
theorem refDiff18_at {a b : ByteArray} {f g : Nat} (h : IsDiff a b f g) (w : World) (ha : a.size ≤ 1000000) (hb : b.size ≤ 1000000) :
    Calls Try.prog 18 #[.string a, .string b] w fun e w' => e = .returned (diffA a b f g) ∧ Below w.heap.size w w' :=
  (refDiff18 a b w ha hb).mono fun e w' ⟨f', g', he, hd, hl⟩ => by
    obtain ⟨rfl, rfl⟩ := h.one hd
    exact ⟨he, hl⟩

theorem le2 {n : Nat} : n ≤ n + 1 + 1 := by omega
theorem blk_new3 (w : World) (o o' o'' : Obj) : (((w.alloc o).alloc o').alloc o'').heap[w.heap.size + 2]? = some o'' := by
  have := heap_alloc_new ((w.alloc o).alloc o') o''; simpa using this
theorem blk_first (w : World) (o o' o'' : Obj) : (((w.alloc o).alloc o').alloc o'').heap[w.heap.size]? = some o := blk_alloc (blk_alloc (heap_alloc_new w o) o') o''
theorem blk_second (w : World) (o o' o'' : Obj) : (((w.alloc o).alloc o').alloc o'').heap[w.heap.size + 1]? = some o' := blk_alloc (blk_new2 w o o') o''

set_option maxHeartbeats 1000000 in
theorem both20_first (s t1 t2 y : ByteArray) (a1 n1 a2 n2 k : Int) (w : World) (hk : (k != 0) = true)
    (G : Hid (∀ w, Calls Try.prog 11 #[.string s, .agg #[.int .i64 a1, .int .i64 n1, .string t1]] w fun e w' => e = .returned (.tuple #[.string y, .int .i64 k]) ∧ Below w.heap.size w w')) :
    Calls Try.prog 20 #[.string s, .agg #[.int .i64 a1, .int .i64 n1, .string t1], .agg #[.int .i64 a2, .int .i64 n2, .string t2]] w fun e w' => e = .returned (.tuple #[.agg #[.int .i64 0, .int .i64 0, .string ⟨#[]⟩], .int .i64 k]) ∧ Below w.heap.size w w' := by
  go_enter Try.func20, Try.ntmps20
  go_wp2_with (first
    | (go_at_call 11; refine (G.out _).mono ?_; rintro e w1 ⟨rfl, hb⟩; have B1 : w1.heap[w.heap.size + 2]? = some (.cells #[.int .i64 0, .int .i64 0, .string ⟨#[]⟩] 23) := keep_blk hb (blk_new3 _ _ _ _); have C1 := cells3 B1; have r0 := blk_frozen B1 0; have r1 := blk_frozen B1 1; have r2 := blk_frozen B1 2))
  refine bodyPost_ret (v := .tuple #[.agg #[.int .i64 0, .int .i64 0, .string ⟨#[]⟩], .int .i64 k]) (by simp [results, Try.results20, go_sem, C1.1, C1.2.1, C1.2.2]) rfl ⟨rfl, ?_⟩
  exact (((bl_step (bl_alloc (bl_alloc (bl_alloc (Below.refl _ _)))) hb).setCell le2 _).setCell le2 _).setCell le2 _

set_option maxHeartbeats 1000000 in
theorem both20_second (s t1 t2 h y : ByteArray) (a1 n1 a2 n2 k : Int) (w : World) (hk : (k != 0) = true)
    (G : Hid (∀ w, Calls Try.prog 11 #[.string s, .agg #[.int .i64 a1, .int .i64 n1, .string t1]] w fun e w' => e = .returned (.tuple #[.string h, .int .i64 0]) ∧ Below w.heap.size w w'))
    (K : Hid (∀ w, Calls Try.prog 11 #[.string h, .agg #[.int .i64 a2, .int .i64 n2, .string t2]] w fun e w' => e = .returned (.tuple #[.string y, .int .i64 k]) ∧ Below w.heap.size w w')) :
    Calls Try.prog 20 #[.string s, .agg #[.int .i64 a1, .int .i64 n1, .string t1], .agg #[.int .i64 a2, .int .i64 n2, .string t2]] w fun e w' => e = .returned (.tuple #[.agg #[.int .i64 0, .int .i64 0, .string ⟨#[]⟩], .int .i64 k]) ∧ Below w.heap.size w w' := by
  go_enter Try.func20, Try.ntmps20
  go_wp2_with fail
  refine (G.out _).mono ?_
  rintro e w1 ⟨rfl, hb⟩
  have A1 : w1.heap[w.heap.size + 1]? = some (.cells #[.int .i64 a2, .int .i64 n2, .string t2] 23) := keep_blk hb (blk_second _ _ _ _)
  have D1 := cells3 A1
  have B1 : w1.heap[w.heap.size + 2]? = some (.cells #[.int .i64 0, .int .i64 0, .string ⟨#[]⟩] 23) := keep_blk hb (blk_new3 _ _ _ _)
  go_wp2_with fail
  refine (K.out _).mono ?_
  rintro e w2 ⟨rfl, hb2⟩
  have B2 := keep_blk hb2 B1
  have C2 := cells3 B2
  have r0 := blk_frozen B2 0
  have r1 := blk_frozen B2 1
  have r2 := blk_frozen B2 2
  go_wp2_with fail
  refine bodyPost_ret (v := .tuple #[.agg #[.int .i64 0, .int .i64 0, .string ⟨#[]⟩], .int .i64 k]) (by simp [results, Try.results20, go_sem, C2.1, C2.2.1, C2.2.2]) rfl ⟨rfl, ?_⟩
  exact (((bl_step (bl_step (bl_alloc (bl_alloc (bl_alloc (Below.refl _ _)))) hb) hb2).setCell le2 _).setCell le2 _).setCell le2 _

set_option maxHeartbeats 1000000 in
theorem both20_ok (s t1 t2 h y t3 : ByteArray) (a1 n1 a2 n2 a3 n3 : Int) (w : World)
    (G : Hid (∀ w, Calls Try.prog 11 #[.string s, .agg #[.int .i64 a1, .int .i64 n1, .string t1]] w fun e w' => e = .returned (.tuple #[.string h, .int .i64 0]) ∧ Below w.heap.size w w'))
    (K : Hid (∀ w, Calls Try.prog 11 #[.string h, .agg #[.int .i64 a2, .int .i64 n2, .string t2]] w fun e w' => e = .returned (.tuple #[.string y, .int .i64 0]) ∧ Below w.heap.size w w'))
    (D : Hid (∀ w, Calls Try.prog 17 #[.string s, .string y] w fun e w' => e = .returned (.agg #[.int .i64 a3, .int .i64 n3, .string t3]) ∧ Below w.heap.size w w')) :
    Calls Try.prog 20 #[.string s, .agg #[.int .i64 a1, .int .i64 n1, .string t1], .agg #[.int .i64 a2, .int .i64 n2, .string t2]] w fun e w' => e = .returned (.tuple #[.agg #[.int .i64 a3, .int .i64 n3, .string t3], .int .i64 0]) ∧ Below w.heap.size w w' := by
  go_enter Try.func20, Try.ntmps20
  go_wp2_with fail
  refine (G.out _).mono ?_
  rintro e w1 ⟨rfl, hb⟩
  have A1 : w1.heap[w.heap.size + 1]? = some (.cells #[.int .i64 a2, .int .i64 n2, .string t2] 23) := keep_blk hb (blk_second _ _ _ _)
  have D1 := cells3 A1
  have B1 : w1.heap[w.heap.size + 2]? = some (.cells #[.int .i64 0, .int .i64 0, .string ⟨#[]⟩] 23) := keep_blk hb (blk_new3 _ _ _ _)
  go_wp2_with fail
  refine (K.out _).mono ?_
  rintro e w2 ⟨rfl, hb2⟩
  have B2 := keep_blk hb2 B1
  go_wp2_with fail
  refine (D.out _).mono ?_
  rintro e w3 ⟨rfl, hb3⟩
  have B3 := keep_blk hb3 B2
  have C2 := cells3 B3
  have r0 := blk_frozen B3 0
  have r1 := blk_frozen B3 1
  have r2 := blk_frozen B3 2
  go_wp2_with fail
  refine bodyPost_ret (v := .tuple #[.agg #[.int .i64 a3, .int .i64 n3, .string t3], .int .i64 0]) (by simp [results, Try.results20, go_sem, C2.1, C2.2.1, C2.2.2]) rfl ⟨rfl, ?_⟩
  exact (((bl_step (bl_step (bl_step (bl_alloc (bl_alloc (bl_alloc (Below.refl _ _)))) hb) hb2) hb3).setCell le2 _).setCell le2 _).setCell le2 _

end Go.Proofs.Ytfgjlgcoablnoaa
