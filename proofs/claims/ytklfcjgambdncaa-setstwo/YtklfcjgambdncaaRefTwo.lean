/- The contracts of topiaryref04.Union, Both, Less. -/
import Derived.Test.YtklfcjgambdncaaRefOf
import Derived.Test.YtklfcjgambdncaaPlain
import Derived.Test.YtklfcjgambdncaaUnion
namespace Go.Proofs.Ytklfcjgambdncaa
open Go.RowKit

set_option maxHeartbeats 1000000 in
theorem refUnion (va vb : Value) (la lb : List Int) (w : World) (hla : la.length ≤ 100000) (hlb : lb.length ≤ 100000) (hA : Nums w va la) (hB : Nums w vb lb) :
    Calls Try.prog 19 #[va, vb] w fun e w' => ∃ v', e = .returned v' ∧ Own w' w.heap.size v' (unionL la lb) ∧ Below w.heap.size w w' := by
  have G1 : Hid (∀ v u, Nums u v (la ++ lb) → Calls Try.prog 13 #[v] u fun e w' => ∃ v', e = .returned v' ∧ Own w' u.heap.size v' (unionL la lb) ∧ Below u.heap.size u w') := fun v u h => refOf v _ u (by rw [List.length_append]; omega) h
  have hA0 := hid hA
  have hB0 := hid hB
  have hN := hid (World.ownsRow_nil w w.heap.size 3 1)
  clear hA hB
  go_enter Try.func19, Try.ntmps19
  go_wp2_with (first
    | (at_builtin; refine wp_app _ rfl _ _ rfl w.heap.size la lb _ _ rfl rfl hO1 (hB0.out.keep hb1) (by omega) hb1.size ?_; intro v2 w2 hO2 hb2)
    | (at_builtin; refine wp_app _ rfl _ _ rfl w.heap.size [] la _ _ rfl rfl hN.out hA0.out (by simp; omega) (Nat.le_refl _) ?_; intro v1 w1 hO1 hb1)
    | (go_at_call 13; refine (G1.out _ _ (Nums.of_row hO2)).mono ?_; rintro e w3 ⟨v3, rfl, hO3, hb3⟩))
  go_ret
  exact ⟨_, rfl, own_base hO3 (hb1.trans hb2).size, bl_step (hb1.trans hb2) hb3⟩

set_option maxHeartbeats 2000000 in
theorem refBoth (va vb : Value) (la lb : List Int) (w : World) (hla : la.length ≤ 100000) (hlb : lb.length ≤ 100000) (hA : Nums w va la) (hB : Nums w vb lb) :
    Calls Try.prog 21 #[va, vb] w fun e w' => ∃ v', e = .returned v' ∧ Own w' w.heap.size v' (bothL la lb) ∧ Below w.heap.size w w' := by
  have G1 : Hid (∀ v u, Nums u v (la.filter fun n => lb.contains n) → Calls Try.prog 13 #[v] u fun e w' => ∃ v', e = .returned v' ∧ Own w' u.heap.size v' (bothL la lb) ∧ Below u.heap.size u w') := fun v u h => by
    have := refOf v _ u (Nat.le_trans (List.length_filter_le _ _) (by omega)) h
    rwa [← bothL_eq] at this
  have G2 : Hid (∀ n u, Nums u vb lb → Calls Try.prog 17 #[vb, .int .i64 n] u fun e w' => e = .returned (.bool (lb.contains n)) ∧ w' = u) := fun n u h => refHas vb lb n u (by omega) h
  obtain ⟨aa, ca, rfl, _, _, hA⟩ := hA
  have hA0 := hid hA
  have hB0 := hid hB
  clear hA hB
  go_enter Try.func21, Try.ntmps21
  go_wp2
  go_loopw [5, 6] (fun v i wr => ∃ k : Nat, k ≤ la.length ∧ i = .int .i64 k ∧ Hid (Own wr w.heap.size v ((la.take k).filter fun n => lb.contains n)) ∧ Below w.heap.size w wr) (fun _ i _ => la.length - (intOf i).toNat)
  case atStart => exact ⟨0, Nat.zero_le _, rfl, hid (World.ownsRow_nil _ _ _ _), Below.refl _ w⟩
  case round =>
    obtain ⟨k, hk, rfl, hO, hbl⟩ := hrel
    by_cases hlt : k < la.length
    · have hltz : (k : Int) < (la.length : Int) := by omega
      obtain ⟨b1, o1, rfl, hb1, hc1⟩ := hA0.out k hlt
      have hd1 := (hbl.cell hb1).trans hc1
      clear hc1
      have hNB := hid (hB0.out.keep hbl)
      have hsz := hbl.size
      have hstep : (la.take (k + 1)).filter (fun n => lb.contains n) = (la.take k).filter (fun n => lb.contains n) ++ (if lb.contains la[k] then [la[k]] else []) := by
        rw [List.take_succ_eq_append_getElem hlt, List.filter_append]
        congr 1
        rw [List.filter_cons, List.filter_nil]
      have hstep := hid hstep
      have hlen : ((la.take k).filter fun n => lb.contains n).length ≤ k := Nat.le_trans (List.length_filter_le _ _) (by rw [List.length_take]; omega)
      have hlen := hid hlen
      have G2' := hid (G2.out la[k] wr hNB.out)
      generalize la[k] = x at hd1 hstep G2'
      cases hr : lb.contains x with
      | true =>
        rw [hr] at G2' hstep
        have hO2 := hid (World.ownsRow.alloc hO.out (.cells #[.int .i64 x] 3))
        go_wp2_with (first
          | (at_builtin; refine wp_app _ rfl _ _ rfl w.heap.size _ [x] _ _ rfl rfl hO2.out (Nums.lit1 wr x) (by have := hlen.out; simp only [List.length_singleton]; omega) (by simp; omega) ?_; intro v' w2 hO3 hb2)
          | (go_at_call 17; refine (G2'.out).mono ?_; rintro e wz ⟨rfl, hwz⟩; subst wz))
        go_wp2
        go_roundw
        case rel => exact ⟨k + 1, by omega, by go_num, by rw [hstep.out]; exact hid hO3, (hbl.alloc hsz _).trans hb2⟩
        case measure => simp [intOf]; omega
      | false =>
        rw [hr] at G2' hstep
        go_wp2_with (go_at_call 17; refine (G2'.out).mono ?_; rintro e wz ⟨rfl, hwz⟩; subst wz)
        go_roundw
        case rel => exact ⟨k + 1, by omega, by go_num, by rw [hstep.out]; simpa using hO, hbl⟩
        case measure => simp [intOf]; omega
    · have hltz : ¬ (k : Int) < (la.length : Int) := by omega
      have hO1 : Hid (Own wr w.heap.size u5 (la.filter fun n => lb.contains n)) := by
        have := hO.out
        rw [List.take_of_length_le (by omega)] at this
        exact hid this
      have hsz := hbl.size
      go_wp2_with (go_at_call 13; refine (G1.out _ _ (Nums.of_row hO1.out)).mono ?_; rintro e w2 ⟨v2, rfl, hO2, hb2⟩)
      go_ret
      exact ⟨_, rfl, own_base hO2 hsz, bl_step hbl hb2⟩

set_option maxHeartbeats 2000000 in
theorem refLess (va vb : Value) (la lb : List Int) (w : World) (hla : la.length ≤ 100000) (hlb : lb.length ≤ 100000) (hA : Nums w va la) (hB : Nums w vb lb) :
    Calls Try.prog 23 #[va, vb] w fun e w' => ∃ v', e = .returned v' ∧ Own w' w.heap.size v' (lessL la lb) ∧ Below w.heap.size w w' := by
  have G1 : Hid (∀ v u, Nums u v (la.filter fun n => !lb.contains n) → Calls Try.prog 13 #[v] u fun e w' => ∃ v', e = .returned v' ∧ Own w' u.heap.size v' (lessL la lb) ∧ Below u.heap.size u w') := fun v u h => by
    have := refOf v _ u (Nat.le_trans (List.length_filter_le _ _) (by omega)) h
    rwa [← lessL_eq] at this
  have G2 : Hid (∀ n u, Nums u vb lb → Calls Try.prog 17 #[vb, .int .i64 n] u fun e w' => e = .returned (.bool (lb.contains n)) ∧ w' = u) := fun n u h => refHas vb lb n u (by omega) h
  obtain ⟨aa, ca, rfl, _, _, hA⟩ := hA
  have hA0 := hid hA
  have hB0 := hid hB
  clear hA hB
  go_enter Try.func23, Try.ntmps23
  go_wp2
  go_loopw [5, 6] (fun v i wr => ∃ k : Nat, k ≤ la.length ∧ i = .int .i64 k ∧ Hid (Own wr w.heap.size v ((la.take k).filter fun n => !lb.contains n)) ∧ Below w.heap.size w wr) (fun _ i _ => la.length - (intOf i).toNat)
  case atStart => exact ⟨0, Nat.zero_le _, rfl, hid (World.ownsRow_nil _ _ _ _), Below.refl _ w⟩
  case round =>
    obtain ⟨k, hk, rfl, hO, hbl⟩ := hrel
    by_cases hlt : k < la.length
    · have hltz : (k : Int) < (la.length : Int) := by omega
      obtain ⟨b1, o1, rfl, hb1, hc1⟩ := hA0.out k hlt
      have hd1 := (hbl.cell hb1).trans hc1
      clear hc1
      have hNB := hid (hB0.out.keep hbl)
      have hsz := hbl.size
      have hstep : (la.take (k + 1)).filter (fun n => !lb.contains n) = (la.take k).filter (fun n => !lb.contains n) ++ (if !lb.contains la[k] then [la[k]] else []) := by
        rw [List.take_succ_eq_append_getElem hlt, List.filter_append]
        congr 1
        rw [List.filter_cons, List.filter_nil]
      have hstep := hid hstep
      have hlen : ((la.take k).filter fun n => !lb.contains n).length ≤ k := Nat.le_trans (List.length_filter_le _ _) (by rw [List.length_take]; omega)
      have hlen := hid hlen
      have G2' := hid (G2.out la[k] wr hNB.out)
      generalize la[k] = x at hd1 hstep G2'
      cases hr : lb.contains x with
      | false =>
        rw [hr] at G2' hstep
        have hO2 := hid (World.ownsRow.alloc hO.out (.cells #[.int .i64 x] 3))
        go_wp2_with (first
          | (at_builtin; refine wp_app _ rfl _ _ rfl w.heap.size _ [x] _ _ rfl rfl hO2.out (Nums.lit1 wr x) (by have := hlen.out; simp only [List.length_singleton]; omega) (by simp; omega) ?_; intro v' w2 hO3 hb2)
          | (go_at_call 17; refine (G2'.out).mono ?_; rintro e wz ⟨rfl, hwz⟩; subst wz))
        go_wp2
        go_roundw
        case rel => exact ⟨k + 1, by omega, by go_num, by rw [hstep.out]; exact hid hO3, (hbl.alloc hsz _).trans hb2⟩
        case measure => simp [intOf]; omega
      | true =>
        rw [hr] at G2' hstep
        go_wp2_with (go_at_call 17; refine (G2'.out).mono ?_; rintro e wz ⟨rfl, hwz⟩; subst wz)
        go_roundw
        case rel => exact ⟨k + 1, by omega, by go_num, by rw [hstep.out]; simpa using hO, hbl⟩
        case measure => simp [intOf]; omega
    · have hltz : ¬ (k : Int) < (la.length : Int) := by omega
      have hO1 : Hid (Own wr w.heap.size u5 (la.filter fun n => !lb.contains n)) := by
        have := hO.out
        rw [List.take_of_length_le (by omega)] at this
        exact hid this
      have hsz := hbl.size
      go_wp2_with (go_at_call 13; refine (G1.out _ _ (Nums.of_row hO1.out)).mono ?_; rintro e w2 ⟨v2, rfl, hO2, hb2⟩)
      go_ret
      exact ⟨_, rfl, own_base hO2 hsz, bl_step hbl hb2⟩

end Go.Proofs.Ytklfcjgambdncaa
