/- Sets of bytes in memory. -/
import Derived.Test.YtjiljfmejgiabaaClose
import Derived.Test.YtjiljfmejgiabaaMath
import Derived.Lib.SmallJoins
import Derived.WalkKit
import Derived.WalkSpells
namespace Go.Proofs.Ytjiljfmejgiabaa
open Go.RowKit

/-- a set as a value, and its cells -/
def setCellsB (S : W4) : Array Value := #[.int .u64 S.a, .int .u64 S.b, .int .u64 S.c, .int .u64 S.d]

theorem word_at (a b c d : Nat) (i : Nat) (hi : i < 4) : [Value.int .u64 (a : Int), .int .u64 (b : Int), .int .u64 (c : Int), .int .u64 (d : Int)][i]? = some (.int .u64 ((W4.w ⟨a, b, c, d⟩ i : Nat) : Int)) := by
  have hi' : i = 0 ∨ i = 1 ∨ i = 2 ∨ i = 3 := by omega
  rcases hi' with rfl | rfl | rfl | rfl <;> rfl

theorem wrapU {z : Int} (h0 : 0 ≤ z) (h1 : z < 18446744073709551616) : IntKind.u64.wrap z = z := by
  rw [IntKind.wrap_u64]; omega
theorem pow_lt64 {j : Nat} (h : j < 64) : 2 ^ j < 18446744073709551616 := by
  have : (2 : Nat) ^ j < 2 ^ 64 := Nat.pow_lt_pow_right (by omega) h
  omega
theorem wrap_pow {j : Nat} (h : j < 64) : IntKind.u64.wrap ((2 : Int) ^ j) = ((2 ^ j : Nat) : Int) := by
  rw [wrapU (by exact Int.pow_nonneg (by omega)) (by have := pow_lt64 h; rw [show ((2 : Int) ^ j) = ((2 ^ j : Nat) : Int) by push_cast; rfl]; omega)]
  push_cast; rfl
theorem wrap_quo {n m : Nat} (hn : n < 18446744073709551616) : IntKind.u64.wrap ((n : Int) / (m : Int)) = ((n / m : Nat) : Int) := by
  have : n / m ≤ n := Nat.div_le_self _ _
  rw [show (n : Int) / (m : Int) = ((n / m : Nat) : Int) by push_cast; rfl]
  exact wrapU (Int.natCast_nonneg _) (Int.ofNat_lt.2 (Nat.lt_of_le_of_lt this hn))
theorem rem_two (q : Nat) : (((q : Int) % 2) == 1) = decide (q % 2 = 1) := by
  rw [Bool.eq_iff_iff, beq_iff_eq, decide_eq_true_iff]
  omega

/-- a set as a value -/
abbrev valB (S : W4) : Value := .agg #[.int .u64 (S.a : Int), .int .u64 (S.b : Int), .int .u64 (S.c : Int), .int .u64 (S.d : Int)]
theorem wrap_sum {n m : Nat} (h : n + m < 18446744073709551616) : IntKind.u64.wrap ((n : Int) + (m : Int)) = ((n + m : Nat) : Int) := by
  rw [show (n : Int) + (m : Int) = ((n + m : Nat) : Int) by push_cast; rfl]
  exact wrapU (Int.natCast_nonneg _) (Int.ofNat_lt.2 h)
theorem al' (u : World) (o : Obj) : Below u.heap.size u (u.alloc o) := (Below.refl _ u).alloc (Nat.le_refl _) _
theorem bl_step {w u w1 : World} (h : Below w.heap.size w u) (hb : Below u.heap.size u w1) : Below w.heap.size w w1 := h.trans (hb.mono h.size)
theorem bl_set {B : Nat} {u w : World} (h : Below B u w) (b o : Nat) (v : Value) (hb : B ≤ b) : Below B u (w.setCell ⟨b, o, none⟩ v) := h.setCell (p := ⟨b, o, none⟩) hb v
theorem heap_new (w : World) (o : Obj) : (w.alloc o).heap[w.heap.size]? = some o := by
  show (w.heap.push o)[w.heap.size]? = some o
  simp
theorem two_blocks (w : World) (o o' : Obj) : ((w.alloc o).alloc o').heap[w.heap.size]? = some o ∧ ((w.alloc o).alloc o').heap[w.heap.size + 1]? = some o' := by
  refine ⟨(Below.heap_alloc _ _ _ (by simp)).trans (heap_new w o), ?_⟩
  have := heap_new (w.alloc o) o'
  rwa [show (w.alloc o).heap.size = w.heap.size + 1 by simp] at this
theorem cells4 {w : World} {b : Nat} {x0 x1 x2 x3 : Value} {T : TypeId} (h : w.heap[b]? = some (.cells #[x0, x1, x2, x3] T (0, 0))) :
    w.cell? ⟨b, 0, none⟩ = some x0 ∧ w.cell? ⟨b, 1, none⟩ = some x1 ∧ w.cell? ⟨b, 2, none⟩ = some x2 ∧ w.cell? ⟨b, 3, none⟩ = some x3 ∧
    w.frozen? ⟨b, 0, none⟩ = false ∧ w.frozen? ⟨b, 1, none⟩ = false ∧ w.frozen? ⟨b, 2, none⟩ = false ∧ w.frozen? ⟨b, 3, none⟩ = false := by
  simp [World.cell?, World.frozen?, h]


def Blk (w : World) (b : Nat) (S : W4) : Prop := w.heap[b]? = some (.cells #[.int .u64 (S.a : Int), .int .u64 (S.b : Int), .int .u64 (S.c : Int), .int .u64 (S.d : Int)] 31 (0, 0))
theorem Blk.lt {w : World} {b : Nat} {S : W4} (h : Blk w b S) : b < w.heap.size := by
  rcases Nat.lt_or_ge b w.heap.size with h' | h'
  · exact h'
  · unfold Blk at h; rw [Array.getElem?_eq_none h'] at h; cases h
theorem Blk.keep {w w' : World} {b : Nat} {S : W4} (h : Blk w b S) (hb : Below w.heap.size w w') : Blk w' b S := (hb.block b h.lt).trans h
theorem Blk.cells {w : World} {b sa sb sc sd : Nat} (h : Blk w b ⟨sa, sb, sc, sd⟩) :
    w.cell? ⟨b, 0, none⟩ = some (.int .u64 sa) ∧ w.cell? ⟨b, 1, none⟩ = some (.int .u64 sb) ∧ w.cell? ⟨b, 2, none⟩ = some (.int .u64 sc) ∧ w.cell? ⟨b, 3, none⟩ = some (.int .u64 sd) ∧
    w.frozen? ⟨b, 0, none⟩ = false ∧ w.frozen? ⟨b, 1, none⟩ = false ∧ w.frozen? ⟨b, 2, none⟩ = false ∧ w.frozen? ⟨b, 3, none⟩ = false := cells4 h
theorem heap_setCell {w : World} {b o : Nat} {cs : Array Value} {T : TypeId} {fr : Nat × Nat} {v : Value} (h : w.heap[b]? = some (.cells cs T fr)) : (w.setCell ⟨b, o, none⟩ v).heap[b]? = some (.cells (cs.setIfInBounds o v) T fr) := by
  simp [World.setCell, Array.getElem?_modify, h]
/-- a set stored into a block -/
def put4 (w : World) (b : Nat) (S : W4) : World := (((w.setCell ⟨b, 0, none⟩ (.int .u64 (S.a : Int))).setCell ⟨b, 1, none⟩ (.int .u64 (S.b : Int))).setCell ⟨b, 2, none⟩ (.int .u64 (S.c : Int))).setCell ⟨b, 3, none⟩ (.int .u64 (S.d : Int))
theorem Blk.put {w : World} {b : Nat} {S S' : W4} (h : Blk w b S) : Blk (put4 w b S') b S' := heap_setCell (heap_setCell (heap_setCell (heap_setCell h)))
theorem Blk.other {w : World} {b k : Nat} {S S' : W4} (h : Blk w k S) (hne : k ≠ b) : Blk (put4 w b S') k S := by
  unfold put4 Blk
  rw [Below.heap_setCell _ _ _ _ hne, Below.heap_setCell _ _ _ _ hne, Below.heap_setCell _ _ _ _ hne, Below.heap_setCell _ _ _ _ hne]
  exact h
theorem bl_put {B : Nat} {u w : World} (h : Below B u w) {b : Nat} (S : W4) (hb : B ≤ b) : Below B u (put4 w b S) := bl_set (bl_set (bl_set (bl_set h _ _ _ hb) _ _ _ hb) _ _ _ hb) _ _ _ hb
theorem size_al (u : World) (o : Obj) : (u.alloc o).heap.size = u.heap.size + 1 := by simp
theorem three_blocks (w : World) (o o' o'' : Obj) : (((w.alloc o).alloc o').alloc o'').heap[w.heap.size]? = some o ∧ (((w.alloc o).alloc o').alloc o'').heap[w.heap.size + 1]? = some o' ∧ (((w.alloc o).alloc o').alloc o'').heap[w.heap.size + 2]? = some o'' := by
  refine ⟨(Below.heap_alloc _ _ _ (by rw [size_al, size_al]; omega)).trans (two_blocks w o o').1, (Below.heap_alloc _ _ _ (by rw [size_al, size_al]; omega)).trans (two_blocks w o o').2, ?_⟩
  have := heap_new ((w.alloc o).alloc o') o''
  rwa [show ((w.alloc o).alloc o').heap.size = w.heap.size + 2 by simp] at this
theorem four_blocks (w : World) (o o' o'' o3 : Obj) : ((((w.alloc o).alloc o').alloc o'').alloc o3).heap[w.heap.size]? = some o ∧ ((((w.alloc o).alloc o').alloc o'').alloc o3).heap[w.heap.size + 1]? = some o' ∧ ((((w.alloc o).alloc o').alloc o'').alloc o3).heap[w.heap.size + 2]? = some o'' ∧ ((((w.alloc o).alloc o').alloc o'').alloc o3).heap[w.heap.size + 3]? = some o3 := by
  obtain ⟨h1, h2, h3⟩ := three_blocks w o o' o''
  refine ⟨(Below.heap_alloc _ _ _ (by rw [size_al, size_al, size_al]; omega)).trans h1, (Below.heap_alloc _ _ _ (by rw [size_al, size_al, size_al]; omega)).trans h2, (Below.heap_alloc _ _ _ (by rw [size_al, size_al, size_al]; omega)).trans h3, ?_⟩
  have := heap_new (((w.alloc o).alloc o').alloc o'') o3
  rwa [show (((w.alloc o).alloc o').alloc o'').heap.size = w.heap.size + 3 by simp] at this

theorem count_not (S : W4) : ∀ k, k ≤ 256 → countN S k + countN (notB S) k = k
  | 0, _ => by rw [countN_zero, countN_zero]
  | k + 1, hk => by
    have ih := count_not S k (by omega)
    rw [countN_succ, countN_succ, show hasB (notB S) k = !hasB S k by unfold notB; rw [mkB_has _ k (by omega)]]
    cases hasB S k <;> simp <;> omega
theorem count_both (S : W4) : countB S + countB (notB S) = 256 := by rw [countB_eq, countB_eq]; exact count_not S 256 (Nat.le_refl _)

theorem not_fit (S : W4) : Fit4 (notB S) := by unfold notB; exact mkB_fit _


end Go.Proofs.Ytjiljfmejgiabaa
