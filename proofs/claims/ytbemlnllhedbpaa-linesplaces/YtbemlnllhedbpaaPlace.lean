/- The contract of lines.Place. -/
import Derived.Test.YtbemlnllhedbpaaAt
import Derived.Test.YtbemlnllhedbpaaShelf
namespace Go.Proofs.Ytbemlnllhedbpaa
open Go.Shelf Go.RowKit Go.Lib Go.Sort

theorem hall (n : Nat) : (List.range n).countP (fun i => decide (i < n)) = n := by
  have := List.countP_eq_length (p := fun i => decide (i < n)) (l := List.range n) |>.2 fun i hi => by simpa using hi
  rw [this, List.length_range]

theorem count_lt (n m : Nat) (h : m ≤ n) : (List.range n).countP (fun i => decide (i < m)) = m := by
  induction n with
  | zero => obtain rfl : m = 0 := by omega
            rfl
  | succ n ih =>
    rw [List.range_succ, List.countP_append]
    by_cases hm : m ≤ n
    · rw [ih hm]; simp; omega
    · obtain rfl : m = n + 1 := by omega
      have : (List.range n).countP (fun i => decide (i < n + 1)) = (List.range n).countP (fun i => decide (i < n)) := List.countP_congr fun i hi => by have := List.mem_range.1 hi; simp; omega
      rw [this, hall n]; simp

set_option maxHeartbeats 2000000 in
theorem closureC (ba bx blk off cap : Nat) (l : List Int) (x y : Int) (i : Nat) (W : World) (hi : i < l.length)
    (ha : W.cell? ⟨ba, 0, none⟩ = some (.slice (some ⟨blk, off, none⟩) l.length cap)) (hx : W.cell? ⟨bx, 0, none⟩ = some (.int .i64 x)) (hc : W.cell? ⟨blk, off + i, none⟩ = some (.int .i64 y)) :
    Calls Try.prog 21 (#[.int .i64 i] ++ #[.pointer (some ⟨ba, 0, none⟩), .pointer (some ⟨bx, 0, none⟩)]) W fun e w' => e = .returned (.bool (decide (x < y))) ∧ ∃ q, w' = W.drewN q := by
  have hiz : (i : Int) < (l.length : Int) := by omega
  go_enter Try.func21, Try.ntmps21
  go_wp2
  go_region
  all_goals go_wp2
  all_goals go_ret
  all_goals exact ⟨by first | rfl | simp, 1, rfl⟩

/-- as many lines as begin up to the place -/
theorem searchC (s : ByteArray) (a : Nat) (ba bx blk off cap : Nat) (W : World) (hs : s.size ≤ 1000000) (ha : a ≤ s.size) (hbl : ba < W.heap.size ∧ bx < W.heap.size ∧ blk < W.heap.size)
    (h1 : W.cell? ⟨ba, 0, none⟩ = some (.slice (some ⟨blk, off, none⟩) (st s).length cap)) (h2 : W.cell? ⟨bx, 0, none⟩ = some (.int .i64 (a : Int))) (h3 : ∀ i (h : i < (st s).length), W.cell? ⟨blk, off + i, none⟩ = some (.int .i64 (st s)[i])) :
    Calls Try.prog 20 #[.int .i64 ((st s).length : Nat), .func (.func 21) #[] #[.pointer (some ⟨ba, 0, none⟩), .pointer (some ⟨bx, 0, none⟩)]] W fun e w' => e = .returned (.int .i64 (ln s a)) ∧ Below W.heap.size W w' := by
  have hl := st_len s
  have eg : ∀ args w, (callFunc 21 args).run Try.prog w = .ok (.enter 21 args) w := enters_of Try.func21 (by kernel_rfl) rfl
  have hS := Any.sort_Search Try.search 21 #[.pointer (some ⟨ba, 0, none⟩), .pointer (some ⟨bx, 0, none⟩)] (st s).length (fun i => decide (ln s a ≤ i)) W eg (by omega)
    (fun m os i hi => (closureC ba bx blk off cap (st s) a (st s)[i] i _ hi (cell_grown hbl.1 h1 m os) (cell_grown hbl.2.1 h2 m os) (cell_grown hbl.2.2 (h3 i hi) m os)).mono
      fun _ _ ⟨he, q, hq⟩ => ⟨by rw [he]; have := st_le ha hi; congr 2; rw [decide_eq_decide]; omega, q, #[], by rw [hq, grow_empty]⟩) (fun x y hxy _ h => by simp at h ⊢; omega)
  have hcount : (List.range (st s).length).countP (fun i => !decide (ln s a ≤ i)) = ln s a := by
    rw [← count_lt (st s).length (ln s a) (ln_le ha)]
    refine List.countP_congr fun i _ => ?_
    rw [count_lt _ _ (ln_le ha)]; simp
  rw [hcount] at hS
  change Calls Try.prog 20 _ _ _ at hS
  exact hS.mono fun e w' ⟨he, q, os, hw⟩ => ⟨he, by rw [hw]; exact below_grown_sl _ W q os (Nat.le_refl _)⟩

theorem cells_of {w : World} {b o : Nat} {l : List Int} (hq : ∀ j (h : j < l.length), ∃ b' o', some (⟨b, o, none⟩ : Addr) = some ⟨b', o', none⟩ ∧ b' < w.heap.size ∧ w.cell? ⟨b', o' + j, none⟩ = some (.int .i64 l[j])) : ∀ i (h : i < l.length), w.cell? ⟨b, o + i, none⟩ = some (.int .i64 l[i]) := fun i h => by
  obtain ⟨b', o', e, _, hc⟩ := hq i h
  cases e
  exact hc

theorem placeNo (s : ByteArray) (a : Int) (w : World) (ha : a < 0 ∨ (s.size : Int) < a) :
    Calls Try.prog 13 #[.string s, .int .i64 a] w fun e w' => e = .returned (.tuple #[.int .i64 0, .int .i64 0, .int .i64 2]) ∧ Below w.heap.size w w' := by
  by_cases h : a < 0
  · go_enter Try.func13, Try.ntmps13
    go_wp2
    exact bodyPost_ret (v := .tuple #[.int .i64 0, .int .i64 0, .int .i64 2]) (by simp [results, Try.results13, go_sem]) rfl ⟨rfl, (Below.refl _ w).alloc (Nat.le_refl _) _⟩
  · have h2 : (s.size : Int) < a := by omega
    go_enter Try.func13, Try.ntmps13
    go_wp2
    exact bodyPost_ret (v := .tuple #[.int .i64 0, .int .i64 0, .int .i64 2]) (by simp [results, Try.results13, go_sem]) rfl ⟨rfl, (Below.refl _ w).alloc (Nat.le_refl _) _⟩

set_option maxHeartbeats 2000000 in
theorem placeOk (s : ByteArray) (a : Nat) (w : World) (hs : s.size ≤ 1000000) (ha : a ≤ s.size) :
    Calls Try.prog 13 #[.string s, .int .i64 a] w fun e w' => e = .returned (.tuple #[.int .i64 (ln s a), .int .i64 (cl s a), .int .i64 0]) ∧ Below w.heap.size w w' := by
  have hl := st_len s
  have haz : ¬ ((s.size : Int) < (a : Int)) := by omega
  have ha0 : ¬ ((a : Int) < 0) := by omega
  have GA : Hid (∀ u, Calls Try.prog 11 #[.string s] u fun e w' => ∃ v, e = .returned v ∧ Nums w' v (st s) ∧ Below u.heap.size u w') := fun u => startsC s u (by omega)
  have GS := hid (fun ba bx blk off cap W => searchC s a ba bx blk off cap W hs ha)
  have hN1 := ln_pos s a
  have hN2 := ln_le ha
  obtain ⟨p, hp⟩ : ∃ p : Nat, ln s a = p + 1 := ⟨ln s a - 1, by omega⟩
  have hpl : p < (st s).length := by omega
  have hx : (st s)[p] = lastSt s a := by
    have := st_last ha
    rw [hp, Nat.add_sub_cancel, List.getElem?_eq_getElem hpl] at this
    exact Option.some.inj this
  have hw : IntKind.i64.wrap ((ln s a : Int) - 1) = (p : Int) := by rw [hp, show ((p + 1 : Nat) : Int) - 1 = p by omega]; first | (rw [IntKind.wrap_i64]; omega) | go_num
  have hcl : cl s a = a - lastSt s a + 1 := rfl
  have hla := lastSt_bd s a
  rw [hcl]
  clear hcl
  generalize lastSt s a = x at hx hla ⊢
  have hpz : (p : Int) < ((st s).length : Int) := by omega
  have hp0 : (0 : Int) ≤ (p : Int) := by omega
  have hNb : (1 : Int) ≤ (ln s a : Int) ∧ (ln s a : Int) ≤ 2000000 := by omega
  clear hN1 hN2 hp
  generalize (ln s a : Int) = N at GS hw hNb ⊢
  go_enter Try.func13, Try.ntmps13
  go_wp2_with (first
    | (go_at_call 11; refine (GA.out _).mono ?_; rintro e w1 ⟨v, rfl, hn, hb1⟩; obtain ⟨a0, cap, rfl, hq⟩ := hn; obtain ⟨b, o, rfl, hlt, hcell⟩ := hq p hpl; rw [hx] at hcell; have hz : w.heap.size < w1.heap.size := (by (have := hb1.size; simp at this; omega)); have hq' := hid (cells_of hq); clear hq; have cat : w1.cell? ⟨w.heap.size, 0, none⟩ = some (.int .i64 (a : Int)) := ((hb1.cell (by (simp))).trans (by (simp))))
    | (go_at_call 20; refine (GS.out w1.heap.size w.heap.size b o cap _ ⟨(by (simp)), (by (simp; omega)), (by (simp; omega))⟩ (cell_new_sl _ _ _) (cell_alloc_sl _ cat) (fun i h => cell_alloc_sl _ (hq'.out i h))).mono ?_; rintro e w2 ⟨rfl, hb2⟩; have k1 : w2.cell? ⟨w1.heap.size, 0, none⟩ = some (.slice (some ⟨b, o, none⟩) (st s).length cap) := ((hb2.cell (by (simp))).trans (cell_new_sl _ _ _)); have k2 : w2.cell? ⟨w.heap.size, 0, none⟩ = some (.int .i64 (a : Int)) := ((hb2.cell (by (simp; omega))).trans (cell_alloc_sl _ cat)); have k3 : w2.cell? ⟨b, o + p, none⟩ = some (.int .i64 x) := ((hb2.cell (by (simp; omega))).trans (cell_alloc_sl _ hcell)))
    | fail)
  go_region
  all_goals go_wp2
  all_goals exact bodyPost_ret (v := .tuple #[.int .i64 N, .int .i64 (a - x + 1), .int .i64 0]) (by simp [results, Try.results13, go_sem]) rfl ⟨rfl, ((((Below.refl _ w).alloc (Nat.le_refl _) _).trans (hb1.mono (by simp))).trans ((Below.refl _ w1).alloc (by omega) _)).trans (hb2.mono (by simp; omega)).drew⟩

end Go.Proofs.Ytbemlnllhedbpaa
