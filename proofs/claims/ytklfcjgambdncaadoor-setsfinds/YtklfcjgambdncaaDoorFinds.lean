/- The walk of SetsFinds. -/
import Derived.Test.YtklfcjgambdncaaDoorFind
import Derived.Test.YtklfcjgambdncaaDoorRefFind
import Derived.Test.YtklfcjgambdncaaDoorWakes
import Derived.Test.YtklfcjgambdncaaDoorLong
namespace Go.Proofs.YtklfcjgambdncaaDoor
open Go.RowKit

abbrev one1 : Obj := .cells #[.int .i64 1] 3
abbrev one2 : Obj := .cells #[.int .i64 2] 3
abbrev three (B : Nat) : Obj := .cells #[.slice (some ⟨B, 0, none⟩) 1 1, .slice (some ⟨B + 1, 0, none⟩) 1 1, .slice (some ⟨B + 2, 0, none⟩) 1 1] 23
theorem al' (u : World) (o : Obj) : Below u.heap.size u (u.alloc o) := (Below.refl _ u).alloc (Nat.le_refl _) _
theorem heap_new (w : World) (o : Obj) : (w.alloc o).heap[w.heap.size]? = some o := by
  show (w.heap.push o)[w.heap.size]? = some o
  simp
theorem lit1s2 (u : World) (o o' : Obj) (a : Int) : Nums (((u.alloc o).alloc o').alloc (.cells #[.int .i64 a] 3)) (.slice (some ⟨u.heap.size + 2, 0, none⟩) 1 1) [a] := by
  have := Nums.lit1 ((u.alloc o).alloc o') a
  rwa [size_al, size_al] at this
theorem lit1s4 (u : World) (o1 o2 o3 o4 : Obj) (a : Int) : Nums (((((u.alloc o1).alloc o2).alloc o3).alloc o4).alloc (.cells #[.int .i64 a] 3)) (.slice (some ⟨u.heap.size + 4, 0, none⟩) 1 1) [a] := by
  have := Nums.lit1 ((((u.alloc o1).alloc o2).alloc o3).alloc o4) a
  rwa [size_al, size_al, size_al, size_al] at this
theorem wakeLists (u : World) : Lists (((((u.alloc one1).alloc one2).alloc one2).alloc (three u.heap.size)).alloc one2) (.slice (some ⟨u.heap.size + 3, 0, none⟩) 3 3) [[1], [2], [2]] := by
  have hc : ∀ j v, #[Value.slice (some ⟨u.heap.size, 0, none⟩) 1 1, .slice (some ⟨u.heap.size + 1, 0, none⟩) 1 1, .slice (some ⟨u.heap.size + 2, 0, none⟩) 1 1][j]? = some v →
      (((((u.alloc one1).alloc one2).alloc one2).alloc (three u.heap.size)).alloc one2).cell? ⟨u.heap.size + 3, 0 + j, none⟩ = some v := fun j v hv => by
    refine blk_cell (T := 23) (fr := (0, 0)) (cs := #[Value.slice (some ⟨u.heap.size, 0, none⟩) 1 1, .slice (some ⟨u.heap.size + 1, 0, none⟩) 1 1, .slice (some ⟨u.heap.size + 2, 0, none⟩) 1 1]) ?_ (by rwa [Nat.zero_add])
    rw [Below.heap_alloc _ _ _ (by simp)]
    have := heap_new (((u.alloc one1).alloc one2).alloc one2) (three u.heap.size)
    rwa [size_al, size_al, size_al] at this
  refine ⟨some ⟨u.heap.size + 3, 0, none⟩, 3, rfl, fun j hj => ?_⟩
  have hj' : j = 0 ∨ j = 1 ∨ j = 2 := by simp at hj; omega
  rcases hj' with rfl | rfl | rfl
  · exact ⟨_, _, _, rfl, by simp, hc 0 _ rfl, ((((Nums.lit1 u 1).keep (al' _ _)).keep (al' _ _)).keep (al' _ _)).keep (al' _ _)⟩
  · exact ⟨_, _, _, rfl, by simp, hc 1 _ rfl, (((Nums.lit1s u one1 2).keep (al' _ _)).keep (al' _ _)).keep (al' _ _)⟩
  · exact ⟨_, _, _, rfl, by simp, hc 2 _ rfl, ((lit1s2 u one1 one2 2).keep (al' _ _)).keep (al' _ _)⟩
theorem wakeBelow (u : World) : Below u.heap.size u (((((u.alloc one1).alloc one2).alloc one2).alloc (three u.heap.size)).alloc one2) :=
  bl_step (bl_step (bl_step (bl_step (al' _ _) (al' _ _)) (al' _ _)) (al' _ _)) (al' _ _)
theorem findW (u : World) (hT : Tab u) : Calls Tryd.prog 5 #[.slice (some ⟨u.heap.size + 3, 0, none⟩) 3 3, .slice (some ⟨u.heap.size + 4, 0, none⟩) 1 1] (((((u.alloc one1).alloc one2).alloc one2).alloc (three u.heap.size)).alloc one2) fun e w' =>
    e = .returned (.int .i64 1) ∧ Below u.heap.size u w' := by
  have h1 : ∀ l ∈ ([[1], [2], [2]] : List (List Int)), l.length ≤ 1000 ∧ Fit l := by
    intro l hl
    simp at hl
    rcases hl with rfl | rfl
    · exact ⟨by simp, fun x hx => by simp at hx; omega⟩
    · exact ⟨by simp, fun x hx => by simp at hx; omega⟩
  have := findC _ _ [[1], [2], [2]] [2] _ (by simp) h1 (by simp) (fun x hx => by simp at hx; omega) (hT.keep (wakeBelow u)) (wakeLists u) (lit1s4 u one1 one2 one2 (three u.heap.size) 2)
  rw [show findL [[1], [2], [2]] [2] 0 = 1 by decide +kernel] at this
  exact this.mono fun e w' ⟨he, hb⟩ => ⟨he, bl_step (wakeBelow u) hb⟩

set_option maxHeartbeats 4000000 in
theorem findsWalk (av vs : Value) (ls : List (List Int)) (s : List Int) (w : World) (hT : Tab w) (hn : ls.length ≤ 9223372036854775807) (hl : ∀ l ∈ ls, l.length ≤ 9223372036854775807 ∧ Fit l) (hsl : s.length ≤ 9223372036854775807) (hsF : Fit s) (hA : Lists w av ls) (hS : Nums w vs s) :
    Calls Tryd.prog 3 #[av, vs] w fun e w' => e = .returned (.bool true) ∧ Below w.heap.size w w' := by
  have GW := hid wakesC
  have GF := hid findW
  have GL : Hid (∀ v l u, l.length ≤ 9223372036854775807 → Nums u v l → Calls Tryd.prog 6 #[v] u fun e w' => e = .returned (.bool (decide (300 < l.length))) ∧ w' = u) := longC
  have hT0 := hid hT
  have hA0 := hid hA
  have hS0 := hid hS
  obtain ⟨aa, ca, rfl, hcells⟩ := id hA
  have hcells := hid hcells
  clear hT hA hS
  have h31 : ((1 : Int) != 1) = false := by decide
  by_cases hL : 300 < s.length
  · have GL1 : Hid (∀ u, Nums u vs s → Calls Tryd.prog 6 #[vs] u fun e w' => e = .returned (.bool true) ∧ w' = u) := fun u h => by
      have := GL.out vs s u hsl h
      rwa [decide_eq_true hL] at this
    go_enter Tryd.func3, Tryd.ntmps3
    go_wp2_with (first
      | (go_at_call 4; refine (GW.out _).mono ?_; rintro e w1 ⟨rfl, hb1⟩)
      | (go_at_call 5; refine (GF.out w1 (hT0.out.keep hb1)).mono ?_; rintro e w2 ⟨rfl, hb2⟩)
      | (go_at_call 6; refine (GL1.out _ (hS0.out.keep (bl_step hb1 hb2))).mono ?_; rintro e wz ⟨rfl, hwz⟩; subst wz))
    go_ret
    exact ⟨rfl, bl_step hb1 hb2⟩
  have GL1 : Hid (∀ u, Nums u vs s → Calls Tryd.prog 6 #[vs] u fun e w' => e = .returned (.bool false) ∧ w' = u) := fun u h => by
    have := GL.out vs s u hsl h
    rwa [decide_eq_false hL] at this
  by_cases hL2 : 100 < ls.length
  · have hL2' : (100 : Int) < (ls.length : Int) := by omega
    go_enter Tryd.func3, Tryd.ntmps3
    go_wp2_with (first
      | (go_at_call 4; refine (GW.out _).mono ?_; rintro e w1 ⟨rfl, hb1⟩)
      | (go_at_call 5; refine (GF.out w1 (hT0.out.keep hb1)).mono ?_; rintro e w2 ⟨rfl, hb2⟩)
      | (go_at_call 6; refine (GL1.out _ (hS0.out.keep (bl_step hb1 hb2))).mono ?_; rintro e wz ⟨rfl, hwz⟩; subst wz))
    go_ret
    exact ⟨rfl, bl_step hb1 hb2⟩
  have hL2' : ¬ (100 : Int) < (ls.length : Int) := by omega
  go_enter Tryd.func3, Tryd.ntmps3
  go_wp2_with (first
    | (go_at_call 4; refine (GW.out _).mono ?_; rintro e w1 ⟨rfl, hb1⟩)
    | (go_at_call 5; refine (GF.out w1 (hT0.out.keep hb1)).mono ?_; rintro e w2 ⟨rfl, hb2⟩)
    | (go_at_call 6; refine (GL1.out _ (hS0.out.keep (bl_step hb1 hb2))).mono ?_; rintro e wz ⟨rfl, hwz⟩; subst wz))
  have hbw := bl_step hb1 hb2
  have hT2 := hid (hT0.out.keep hbw)
  have hA2 := hid (hA0.out.keep hbw)
  have hS2 := hid (hS0.out.keep hbw)
  have hdec : decide (100 < ls.length) = false := decide_eq_false (by omega)
  try simp only [hdec]
  go_loop [26] (fun i => ∃ k : Nat, k ≤ ls.length ∧ i = .int .i64 k ∧ Hid (∀ l ∈ ls.take k, l.length ≤ 300)) (fun i => ls.length - (intOf i).toNat)
  case atStart => exact ⟨0, Nat.zero_le _, rfl, hid (fun l hl => absurd hl (by simp))⟩
  case round =>
    obtain ⟨k, hk, rfl, hsm⟩ := hrel
    by_cases hlt : k < ls.length
    · have hltz : (k : Int) < (ls.length : Int) := by omega
      obtain ⟨b1, o1, vj, rfl, hb1', hc1, hN1⟩ := hcells.out k hlt
      have hd1 := (hbw.cell hb1').trans hc1
      have G := hid (GL.out vj ls[k] w2 (hl _ (List.getElem_mem hlt)).1 (hN1.keep hbw))
      clear hc1 hN1
      by_cases hL3 : 300 < ls[k].length
      · rw [decide_eq_true hL3] at G
        clear hL3
        go_wp2_with (go_at_call 6; refine (G.out).mono ?_; rintro e wz ⟨rfl, hwz⟩; subst wz)
        go_ret
        exact ⟨rfl, hbw⟩
      · rw [decide_eq_false hL3] at G
        have hsm' : Hid (∀ l ∈ ls.take (k + 1), l.length ≤ 300) := hid (fun l hl => by
          rw [List.take_succ_eq_append_getElem hlt, List.mem_append, List.mem_singleton] at hl
          rcases hl with hl | rfl
          · exact hsm.out l hl
          · omega)
        clear hL3 hsm
        go_wp2_with (go_at_call 6; refine (G.out).mono ?_; rintro e wz ⟨rfl, hwz⟩; subst wz)
        go_round
        case rel => exact ⟨k + 1, by omega, by go_num, hsm'⟩
        case measure => simp [intOf]; omega
    · have hltz : ¬ (k : Int) < (ls.length : Int) := by omega
      have hall : ∀ l ∈ ls, l.length ≤ 300 := by
        have := hsm.out
        rwa [List.take_of_length_le (by omega)] at this
      have G1 := hid (findC _ vs ls s w2 (by omega) (fun l hm => ⟨by have := hall l hm; omega, (hl l hm).2⟩) (by omega) hsF hT2.out hA2.out hS2.out)
      have G2 : Hid (∀ u, Lists u (.slice aa ls.length ca) ls → Nums u vs s → Calls Tryd.prog 7 #[.slice aa ls.length ca, vs] u fun e w' => e = .returned (.int .i64 (findL ls s 0)) ∧ Below u.heap.size u w') := fun u h1 h2 => refFind _ vs ls s u (by omega) (fun l hm => by have := hall l hm; omega) (by omega) h1 h2
      generalize findL ls s 0 = r at G1 G2
      have hrr : (r == r) = true := beq_self_eq_true r
      clear hall hsm
      go_wp2_with (first
        | (go_at_call 5; refine (G1.out).mono ?_; rintro e w3 ⟨rfl, hb3⟩)
        | (go_at_call 7; refine (G2.out _ (hA2.out.keep hb3) (hS2.out.keep hb3)).mono ?_; rintro e w4 ⟨rfl, hb4⟩))
      go_ret
      exact ⟨rfl, bl_step (bl_step hbw hb3) hb4⟩

end Go.Proofs.YtklfcjgambdncaaDoor
