/- The contract of topiaryref05.Put. -/
import Derived.Test.YtpkndedppfdekaaDoorHas
namespace Go.Proofs.YtpkndedppfdekaaDoor
open Go.RowKit

/-- a set as a value -/
abbrev valB (S : W4) : Value := .agg #[.int .u64 (S.a : Int), .int .u64 (S.b : Int), .int .u64 (S.c : Int), .int .u64 (S.d : Int)]
theorem hasC (S : W4) (x : Nat) (w : World) (hS : Fit4 S) (hx : x < 256) : Calls Tryd.prog 23 #[valB S, .int .i64 x] w fun e w' => e = .returned (.bool (hasB S x)) ∧ Below w.heap.size w w' :=
  refHas S.a S.b S.c S.d x w hS hx
theorem wrap_sum {n m : Nat} (h : n + m < 18446744073709551616) : IntKind.u64.wrap ((n : Int) + (m : Int)) = ((n + m : Nat) : Int) := by
  rw [show (n : Int) + (m : Int) = ((n + m : Nat) : Int) by push_cast; rfl]
  exact wrapU (Int.natCast_nonneg _) (Int.ofNat_lt.2 h)
theorem al' (u : World) (o : Obj) : Below u.heap.size u (u.alloc o) := (Below.refl _ u).alloc (Nat.le_refl _) _
theorem bl_step {w u w1 : World} (h : Below w.heap.size w u) (hb : Below u.heap.size u w1) : Below w.heap.size w w1 := h.trans (hb.mono h.size)
theorem bl_set {B : Nat} {u w : World} (h : Below B u w) (b o : Nat) (v : Value) (hb : B ≤ b) : Below B u (w.setCell ⟨b, o, none⟩ v) := h.setCell (p := ⟨b, o, none⟩) hb v
theorem heap_new (w : World) (o : Obj) : (w.alloc o).heap[w.heap.size]? = some o := by
  show (w.heap.push o)[w.heap.size]? = some o
  simp
theorem two_blocks (w : World) (o o' : Obj) : ((w.alloc o).alloc o').heap[w.heap.size]? = some o ∧ ((w.alloc o).alloc o').heap[w.heap.size + 1]? = some o' := by
  refine ⟨(Below.heap_alloc _ _ _ (by simp)).trans (heap_new w o), ?_⟩
  have := heap_new (w.alloc o) o'
  rwa [show (w.alloc o).heap.size = w.heap.size + 1 by simp] at this
theorem cells4 {w : World} {b : Nat} {x0 x1 x2 x3 : Value} {T : TypeId} (h : w.heap[b]? = some (.cells #[x0, x1, x2, x3] T (0, 0))) :
    w.cell? ⟨b, 0, none⟩ = some x0 ∧ w.cell? ⟨b, 1, none⟩ = some x1 ∧ w.cell? ⟨b, 2, none⟩ = some x2 ∧ w.cell? ⟨b, 3, none⟩ = some x3 ∧
    w.frozen? ⟨b, 0, none⟩ = false ∧ w.frozen? ⟨b, 1, none⟩ = false ∧ w.frozen? ⟨b, 2, none⟩ = false ∧ w.frozen? ⟨b, 3, none⟩ = false := by
  simp [World.cell?, World.frozen?, h]

set_option maxHeartbeats 2000000 in
theorem putC (S : W4) (x : Nat) (w : World) (hS : Fit4 S) (hx : x < 256) :
    Calls Tryd.prog 27 #[valB S, .int .i64 x] w fun e w' => e = .returned (valB (putB S x)) ∧ Below w.heap.size w w' := by
  have G : Hid (∀ u, Calls Tryd.prog 23 #[valB S, .int .i64 x] u fun e w' => e = .returned (.bool (hasB S x)) ∧ Below u.heap.size u w') := fun u => hasC S x u hS hx
  have hput : putB S x = if hasB S x then S else S.set (x / 64) (S.w (x / 64) + 2 ^ (x % 64)) := rfl
  have hlt := bit_add_lt (S.w (x / 64)) (x % 64)
  have hw := hS.w (x / 64)
  obtain ⟨a, b, c, d⟩ := S
  cases h : hasB ⟨a, b, c, d⟩ x with
  | true =>
    rw [h] at G hput
    rw [show putB ⟨a, b, c, d⟩ x = ⟨a, b, c, d⟩ from hput]
    clear hput hlt hw h hS
    go_enter Tryd.func27, Tryd.ntmps27
    go_wp2_with (go_at_call 23; refine (G.out _).mono ?_; rintro e w1 ⟨rfl, hb1⟩; have hbS := (hb1.block w.heap.size (by simp; omega)).trans (two_blocks w _ _).1; have hbR := (hb1.block (w.heap.size + 1) (by simp)).trans (two_blocks w _ _).2; obtain ⟨s0, s1, s2, s3, g0, g1, g2, g3⟩ := cells4 hbS; obtain ⟨r0, r1, r2, r3, f0, f1, f2, f3⟩ := cells4 hbR)
    refine bodyPost_ret (v := .agg #[.int .u64 a, .int .u64 b, .int .u64 c, .int .u64 d]) (by simp [results, Tryd.results27, go_sem, r0, r1, r2, r3]) rfl ⟨rfl, ?_⟩
    have hb0 := bl_step (bl_step (al' w _) (al' _ _)) hb1
    exact bl_set (bl_set (bl_set (bl_set hb0 _ _ _ (by omega)) _ _ _ (by omega)) _ _ _ (by omega)) _ _ _ (by omega)
  | false =>
    rw [h] at G hput
    have h64 : x / 64 = 0 ∨ x / 64 = 1 ∨ x / 64 = 2 ∨ x / 64 = 3 := by omega
    rcases h64 with h64 | h64 | h64 | h64
    · have e1 : x / 64 = 0 := h64
      rw [e1] at hput hlt hw
      have hlt' : a + 2 ^ (x % 64) < 18446744073709551616 := hlt (by rw [← e1]; exact h) hw (by omega)
      have hp := wrap_pow (j := x % 64) (by omega)
      have hres : putB ⟨a, b, c, d⟩ x = ⟨a + 2 ^ (x % 64), b, c, d⟩ := hput
      rw [hres]
      clear hput hlt hw hS hres h
      generalize 2 ^ (x % 64) = m at hlt' hp ⊢
      have hsum := wrap_sum hlt'
      generalize a + m = n at hsum ⊢
      clear hlt' h64
      go_enter Tryd.func27, Tryd.ntmps27
      go_wp2_with (go_at_call 23; refine (G.out _).mono ?_; rintro e w1 ⟨rfl, hb1⟩; have hbS := (hb1.block w.heap.size (by simp; omega)).trans (two_blocks w _ _).1; have hbR := (hb1.block (w.heap.size + 1) (by simp)).trans (two_blocks w _ _).2; obtain ⟨s0, s1, s2, s3, g0, g1, g2, g3⟩ := cells4 hbS; obtain ⟨r0, r1, r2, r3, f0, f1, f2, f3⟩ := cells4 hbR)
      go_wp2
      refine bodyPost_ret (v := .agg #[.int .u64 n, .int .u64 b, .int .u64 c, .int .u64 d]) (by simp [results, Tryd.results27, go_sem, r0, r1, r2, r3]) rfl ⟨rfl, ?_⟩
      have hb0 := bl_step (bl_step (al' w _) (al' _ _)) hb1
      exact bl_set (bl_set (bl_set (bl_set (bl_set hb0 _ _ _ (by omega)) _ _ _ (by omega)) _ _ _ (by omega)) _ _ _ (by omega)) _ _ _ (by omega)
    · have e1 : x / 64 = 1 := h64
      rw [e1] at hput hlt hw
      have hlt' : b + 2 ^ (x % 64) < 18446744073709551616 := hlt (by rw [← e1]; exact h) hw (by omega)
      have hp := wrap_pow (j := x % 64) (by omega)
      have hres : putB ⟨a, b, c, d⟩ x = ⟨a, b + 2 ^ (x % 64), c, d⟩ := hput
      rw [hres]
      clear hput hlt hw hS hres h
      generalize 2 ^ (x % 64) = m at hlt' hp ⊢
      have hsum := wrap_sum hlt'
      generalize b + m = n at hsum ⊢
      clear hlt' h64
      go_enter Tryd.func27, Tryd.ntmps27
      go_wp2_with (go_at_call 23; refine (G.out _).mono ?_; rintro e w1 ⟨rfl, hb1⟩; have hbS := (hb1.block w.heap.size (by simp; omega)).trans (two_blocks w _ _).1; have hbR := (hb1.block (w.heap.size + 1) (by simp)).trans (two_blocks w _ _).2; obtain ⟨s0, s1, s2, s3, g0, g1, g2, g3⟩ := cells4 hbS; obtain ⟨r0, r1, r2, r3, f0, f1, f2, f3⟩ := cells4 hbR)
      go_wp2
      refine bodyPost_ret (v := .agg #[.int .u64 a, .int .u64 n, .int .u64 c, .int .u64 d]) (by simp [results, Tryd.results27, go_sem, r0, r1, r2, r3]) rfl ⟨rfl, ?_⟩
      have hb0 := bl_step (bl_step (al' w _) (al' _ _)) hb1
      exact bl_set (bl_set (bl_set (bl_set (bl_set hb0 _ _ _ (by omega)) _ _ _ (by omega)) _ _ _ (by omega)) _ _ _ (by omega)) _ _ _ (by omega)
    · have e1 : x / 64 = 2 := h64
      rw [e1] at hput hlt hw
      have hlt' : c + 2 ^ (x % 64) < 18446744073709551616 := hlt (by rw [← e1]; exact h) hw (by omega)
      have hp := wrap_pow (j := x % 64) (by omega)
      have hres : putB ⟨a, b, c, d⟩ x = ⟨a, b, c + 2 ^ (x % 64), d⟩ := hput
      rw [hres]
      clear hput hlt hw hS hres h
      generalize 2 ^ (x % 64) = m at hlt' hp ⊢
      have hsum := wrap_sum hlt'
      generalize c + m = n at hsum ⊢
      clear hlt' h64
      go_enter Tryd.func27, Tryd.ntmps27
      go_wp2_with (go_at_call 23; refine (G.out _).mono ?_; rintro e w1 ⟨rfl, hb1⟩; have hbS := (hb1.block w.heap.size (by simp; omega)).trans (two_blocks w _ _).1; have hbR := (hb1.block (w.heap.size + 1) (by simp)).trans (two_blocks w _ _).2; obtain ⟨s0, s1, s2, s3, g0, g1, g2, g3⟩ := cells4 hbS; obtain ⟨r0, r1, r2, r3, f0, f1, f2, f3⟩ := cells4 hbR)
      go_wp2
      refine bodyPost_ret (v := .agg #[.int .u64 a, .int .u64 b, .int .u64 n, .int .u64 d]) (by simp [results, Tryd.results27, go_sem, r0, r1, r2, r3]) rfl ⟨rfl, ?_⟩
      have hb0 := bl_step (bl_step (al' w _) (al' _ _)) hb1
      exact bl_set (bl_set (bl_set (bl_set (bl_set hb0 _ _ _ (by omega)) _ _ _ (by omega)) _ _ _ (by omega)) _ _ _ (by omega)) _ _ _ (by omega)
    · have e1 : x / 64 = 3 := h64
      rw [e1] at hput hlt hw
      have hlt' : d + 2 ^ (x % 64) < 18446744073709551616 := hlt (by rw [← e1]; exact h) hw (by omega)
      have hp := wrap_pow (j := x % 64) (by omega)
      have hres : putB ⟨a, b, c, d⟩ x = ⟨a, b, c, d + 2 ^ (x % 64)⟩ := hput
      rw [hres]
      clear hput hlt hw hS hres h
      generalize 2 ^ (x % 64) = m at hlt' hp ⊢
      have hsum := wrap_sum hlt'
      generalize d + m = n at hsum ⊢
      clear hlt' h64
      go_enter Tryd.func27, Tryd.ntmps27
      go_wp2_with (go_at_call 23; refine (G.out _).mono ?_; rintro e w1 ⟨rfl, hb1⟩; have hbS := (hb1.block w.heap.size (by simp; omega)).trans (two_blocks w _ _).1; have hbR := (hb1.block (w.heap.size + 1) (by simp)).trans (two_blocks w _ _).2; obtain ⟨s0, s1, s2, s3, g0, g1, g2, g3⟩ := cells4 hbS; obtain ⟨r0, r1, r2, r3, f0, f1, f2, f3⟩ := cells4 hbR)
      go_wp2
      refine bodyPost_ret (v := .agg #[.int .u64 a, .int .u64 b, .int .u64 c, .int .u64 n]) (by simp [results, Tryd.results27, go_sem, r0, r1, r2, r3]) rfl ⟨rfl, ?_⟩
      have hb0 := bl_step (bl_step (al' w _) (al' _ _)) hb1
      exact bl_set (bl_set (bl_set (bl_set (bl_set hb0 _ _ _ (by omega)) _ _ _ (by omega)) _ _ _ (by omega)) _ _ _ (by omega)) _ _ _ (by omega)

end Go.Proofs.YtpkndedppfdekaaDoor
