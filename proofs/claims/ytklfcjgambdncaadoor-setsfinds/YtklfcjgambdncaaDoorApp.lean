/- append of a slice of numbers to a slice of the call's own; copied, slices.Grow, slices.Concat. -/
import Derived.Test.YtklfcjgambdncaaDoorNums
import Derived.Test.YtklfcjgambdncaaDoorShelf
import Derived.Laws.AppendOwnNone
import Derived.Laws.OwnMore
namespace Go.Proofs.YtklfcjgambdncaaDoor
open Go.RowKit

theorem Nums.parts {w : World} {v : Value} {l : List Int} (h : Nums w v l) : (v = .slice none 0 0 ∧ l = []) ∨ ∃ ad cap, v = .slice (some ad) l.length cap ∧ ∀ j u, (numCells l)[j]? = some u → w.cell? (ad.add j) = some u := by
  by_cases h0 : l = []
  · subst h0
    rcases h.empty with rfl | ⟨a, cap, rfl⟩
    · exact Or.inl ⟨rfl, rfl⟩
    · exact Or.inr ⟨a, cap, rfl, fun j u hu => by simp [numCells] at hu⟩
  · obtain ⟨b, o, cap, rfl, hcap, hb, hc⟩ := h.at (List.length_pos_iff.2 h0)
    exact Or.inr ⟨_, cap, rfl, Nums.news hc⟩

theorem wp_app {ops : Array Oper} {rest : List Oper} {o : Oper} {a : Act} {Q : Exit → Act → World → Prop} (w : World) (hgd : o.guard = none) (s x : Operand)
    (ho : o.op = .call { callee := .builtin .append, args := #[s, x], argTypes := #[23, 23] })
    (B : Nat) (l1 l2 : List Int) (v vx : Value) (hs : a.eval s = v) (hx : a.eval x = vx) (hown : Own w B v l1) (hN : Nums w vx l2) (hl : l1.length + l2.length ≤ 4000000) (hB : B ≤ w.heap.size)
    (h : ∀ v' w', Own w' B v' (l1 ++ l2) → Below B w w' → wpList Tryd.prog ops Q rest (a.put o.dst v') w') : wpList Tryd.prog ops Q (o :: rest) a w := by
  obtain ⟨i0, hi, hz0, hz1, hz2⟩ := info_parts Tryd.info3
  rcases hN.parts with ⟨rfl, rfl⟩ | ⟨ad, cap, rfl, hnews⟩
  · refine wpList_append_own_none hgd s x 23 ho B 3 i0 1 Tryd.underlying23 hi v _ _ hs hown hx ?_
    rw [List.append_nil] at h
    exact h v w hown ((Below.refl _ w).mono hB)
  · refine wpList_append_own w hgd s x 23 ho B 3 i0 (.int .i64 0) 1 8 Tryd.underlying23 hi hz0 hz1 hz2 rfl (by decide) v _ _ hs hown ad l2.length cap (numCells l2) hx (by rw [numCells_len]; omega) hnews (numCells_one l2) (by unfold maxLen; omega) (by omega) hB ?_
    intro v' w' hO hg _
    refine h v' w' ?_ (below_app0 hown ((Below.refl _ w).mono hB) hB hg)
    unfold Own
    rw [numCells_app, List.length_append]
    exact hO

theorem growOwn (n : Nat) (w : World) (hn : n ≤ 4000000) :
    Calls Tryd.prog 21 #[.slice none 0 0, .int .i64 n] w fun e w' => ∃ v, e = .returned v ∧ Own w' w.heap.size v [] ∧ Below w.heap.size w w' := by
  by_cases h0 : n = 0
  · subst h0
    exact (Any8.slices_Grow_room Tryd.grow none 0 0 0 w (Nat.le_refl _) (by omega) (by omega) (Nat.le_refl _)).mono fun e w' ⟨he, hw⟩ => by
      subst hw; exact ⟨_, he, World.ownsRow_nil _ _ _ _, Below.refl _ _⟩
  · obtain ⟨i0, hi, hz0, hz1, hz2⟩ := info_parts Tryd.info3
    refine (Any8.slices_Grow_grow Tryd.grow i0 (.int .i64 0) hi hz0 (by omega) none 0 0 n [] w (Nat.le_refl _) (by omega) (by rw [hz2]; omega) (by omega) (by simp) (fun _ => rfl) (fun a h => by cases h)).mono fun e w' ⟨he, hw⟩ => ?_
    subst hw
    have key : ∀ o, (w.drew.alloc o).heap[w.heap.size]? = some o := fun o => by
      show (w.heap.push o)[w.heap.size]? = some o
      simp
    refine ⟨_, he, ⟨rfl, Or.inr ⟨w.heap.size, _, _, rfl, Nat.le_refl _, key _, Nat.zero_le _, grownCap_le_maxLen w _ _ _ (by unfold maxLen; omega), ?_, rfl⟩⟩, (Below.refl _ w).drew.alloc (Nat.le_refl _) _⟩
    have hg := grownCap_ge w n 0 3
    change grownCap w n 0 3 ≥ n at hg
    rw [Array.size_append, Array.size_append, size_zeroCells, size_zeroCells]
    simp only [Value.cells, Nat.zero_add]
    show 0 + (n - 0) * 1 + (grownCap w n 0 3 - n) * 1 = grownCap w n 0 3 * 1
    omega

set_option maxHeartbeats 2000000 in
theorem concatC (va vb : Value) (la lb : List Int) (h : Nat) (w : World) (hla : la.length ≤ 1000000) (hlb : lb.length ≤ 1000000) (hh : h < w.heap.size) (c0 : w.cell? ⟨h, 0, none⟩ = some va) (c1 : w.cell? ⟨h, 1, none⟩ = some vb) (hA : Nums w va la) (hB : Nums w vb lb) :
    Calls Tryd.prog 14 #[.slice (some ⟨h, 0, none⟩) 2 2] w fun e w' => ∃ v', e = .returned v' ∧ Own w' w.heap.size v' (la ++ lb) ∧ Below w.heap.size w w' := by
  obtain ⟨aa, ca, rfl, hA1⟩ := id hA
  obtain ⟨ab, cb, rfl, hB1⟩ := id hB
  clear hA1 hB1
  have hA' := hid hA
  have hB' := hid hB
  clear hA hB
  have G : Hid (∀ u, Calls Tryd.prog 21 #[.slice none 0 0, .int .i64 ((la.length : Int) + lb.length)] u fun e w' => ∃ v, e = .returned v ∧ Own w' u.heap.size v [] ∧ Below u.heap.size u w') := fun u => by
    have := growOwn (la.length + lb.length) u (by omega)
    rwa [Int.natCast_add] at this
  go_enter Tryd.func14, Tryd.ntmps14
  go_wp2
  go_loop [3, 11] (fun s i => ∃ k : Nat, k ≤ 2 ∧ i = .int .i64 k ∧ s = .int .i64 (if k = 0 then 0 else if k = 1 then (la.length : Int) else (la.length : Int) + lb.length)) (fun _ i => 2 - (intOf i).toNat)
  case atStart => exact ⟨0, Nat.zero_le _, rfl, rfl⟩
  case round =>
    obtain ⟨k, hk, rfl, rfl⟩ := hrel
    have hk3 : k = 0 ∨ k = 1 ∨ k = 2 := by omega
    rcases hk3 with rfl | rfl | rfl
    · have hz : ¬ ((la.length : Int) < 0) := by omega
      go_wp2
      go_round
      case rel => exact ⟨1, by omega, by go_num, by simp⟩
      case measure => simp [intOf]
    · have hz : ¬ ((la.length : Int) + (lb.length : Int) < 0) := by omega
      have hw1 : IntKind.i64.wrap ((la.length : Int) + (lb.length : Int)) = (la.length : Int) + (lb.length : Int) := by rw [IntKind.wrap_i64]; omega
      go_wp2
      go_round
      case rel => exact ⟨2, by omega, by go_num, by simp⟩
      case measure => simp [intOf]
    · simp only [show ¬ (2 : Nat) = 0 by decide, show ¬ (2 : Nat) = 1 by decide, if_false]
      go_wp2_with (go_at_call 21; refine (G.out _).mono ?_; rintro e w1 ⟨v1, rfl, hO1, hb1⟩)
      go_loopw [6, 27] (fun v i wr => ∃ k : Nat, k ≤ 2 ∧ i = .int .i64 k ∧ Own wr w.heap.size v (if k = 0 then [] else if k = 1 then la else la ++ lb) ∧ Below w.heap.size w wr) (fun _ i _ => 2 - (intOf i).toNat)
      case atStart => exact ⟨0, Nat.zero_le _, rfl, hO1, hb1⟩
      case round =>
        obtain ⟨k, hk, rfl, hO, hbl⟩ := hrel
        have d0 := (hbl.cell hh).trans c0
        have d1 := (hbl.cell hh).trans c1
        have hA2 := hid (hA'.out.keep hbl)
        have hB2 := hid (hB'.out.keep hbl)
        have hsz := hbl.size
        have hk3 : k = 0 ∨ k = 1 ∨ k = 2 := by omega
        rcases hk3 with rfl | rfl | rfl
        · have hO' : Own wr w.heap.size u6 [] := hO
          clear hO
          go_wp2_with (at_builtin; refine wp_app _ rfl _ _ rfl w.heap.size [] la _ _ rfl rfl hO' hA2.out (by simp; omega) hsz ?_; intro v' w2 hO2 hb2)
          go_wp2
          go_roundw
          case rel => exact ⟨1, by omega, by go_num, hO2, hbl.trans hb2⟩
          case measure => simp [intOf]
        · have hO' : Own wr w.heap.size u6 la := hO
          clear hO
          go_wp2_with (at_builtin; refine wp_app _ rfl _ _ rfl w.heap.size la lb _ _ rfl rfl hO' hB2.out (by omega) hsz ?_; intro v' w2 hO2 hb2)
          go_wp2
          go_roundw
          case rel => exact ⟨2, by omega, by go_num, hO2, hbl.trans hb2⟩
          case measure => simp [intOf]
        · have hO' : Own wr w.heap.size u6 (la ++ lb) := hO
          clear hO
          go_wp2
          go_ret
          exact ⟨_, rfl, hO', hbl⟩

end Go.Proofs.YtklfcjgambdncaaDoor
