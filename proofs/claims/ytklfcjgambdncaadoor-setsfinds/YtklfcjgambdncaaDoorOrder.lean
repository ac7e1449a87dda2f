/- The contracts of the order of lists: topiaryref04.Order, topiaryref04.Same, slices.Compare, sets.Order; of topiaryref04.Has. -/
import Derived.Test.YtklfcjgambdncaaDoorNums
namespace Go.Proofs.YtklfcjgambdncaaDoor
open Go.RowKit

def cmpI (x y : Int) : Int := if x < y then -1 else if y < x then 1 else 0

set_option maxHeartbeats 1000000 in
theorem refOrder (va vb : Value) (la lb : List Int) (w : World) (hla : la.length ≤ 9223372036854775807) (_ : lb.length ≤ 9223372036854775807) (hA : Nums w va la) (hB : Nums w vb lb) :
    Calls Tryd.prog 12 #[va, vb] w fun e w' => e = .returned (.int .i64 (cmpL la lb)) ∧ Below w.heap.size w w' := by
  obtain ⟨aa, ca, rfl, _, _, hA⟩ := hA
  obtain ⟨ab, cb, rfl, _, _, hB⟩ := hB
  go_enter Tryd.func12, Tryd.ntmps12
  go_wp2
  go_loopw [5] (fun i wr => ∃ k : Nat, k ≤ la.length ∧ k ≤ lb.length ∧ i = .int .i64 k ∧ cmpL la lb = cmpL (la.drop k) (lb.drop k) ∧ Below w.heap.size w wr) (fun i _ => la.length - (intOf i).toNat)
  case atStart => exact ⟨0, Nat.zero_le _, Nat.zero_le _, rfl, rfl, Below.refl _ w⟩
  case round =>
    obtain ⟨k, hk, hk2, rfl, htk, hbl⟩ := hrel
    by_cases hlt : k < la.length
    · have hltz : (k : Int) < (la.length : Int) := by omega
      by_cases hlt2 : k < lb.length
      · have hltz2 : (k : Int) < (lb.length : Int) := by omega
        obtain ⟨b1, o1, rfl, hb1, hc1⟩ := hA k hlt
        obtain ⟨b2, o2, rfl, hb2, hc2⟩ := hB k hlt2
        have hd1 := (hbl.cell hb1).trans hc1
        have hd2 := (hbl.cell hb2).trans hc2
        rw [cmpL_at hlt hlt2] at htk
        clear hc1 hc2 hA hB
        generalize la[k] = x at hd1 htk
        generalize lb[k] = y at hd2 htk
        by_cases h1 : x < y
        · rw [if_pos h1] at htk
          go_wp2_with fail
          go_quiet (fail)
          go_wp2
          go_ret
          exact ⟨by first | rfl | (rw [htk]; rfl), by first | exact belowN hbl | exact belowN (belowN hbl)⟩
        · rw [if_neg h1] at htk
          by_cases h2 : y < x
          · rw [if_pos h2] at htk
            go_wp2_with fail
            go_quiet (fail)
            go_wp2_with fail
            go_quiet (fail)
            go_wp2
            go_ret
            exact ⟨by first | rfl | (rw [htk]; rfl), by first | exact belowN hbl | exact belowN (belowN hbl)⟩
          · rw [if_neg h2] at htk
            have htk' := hid htk
            clear htk
            go_wp2_with fail
            go_quiet (fail)
            go_wp2_with fail
            go_quiet (fail)
            go_wp2
            go_roundw
            case rel => exact ⟨k + 1, by omega, by omega, by go_num, htk'.out, by first | exact belowN hbl | exact belowN (belowN hbl)⟩
            case measure => simp [intOf]; omega
      · have hltz2 : ¬ (k : Int) < (lb.length : Int) := by omega
        have hz3 : ¬ (la.length : Int) < (lb.length : Int) := by omega
        have hz4 : (lb.length : Int) < (la.length : Int) := by omega
        rw [cmpL_endB hlt hlt2] at htk
        clear hA hB
        go_wp2
        go_ret
        exact ⟨by first | rfl | (rw [htk]; rfl), hbl⟩
    · obtain rfl : k = la.length := by omega
      clear hA hB
      by_cases hlt2 : la.length < lb.length
      · have hltz2 : (la.length : Int) < (lb.length : Int) := by omega
        rw [cmpL_endA hlt hlt2] at htk
        go_wp2
        go_ret
        exact ⟨by first | rfl | (rw [htk]; rfl), hbl⟩
      · rw [cmpL_end hlt hlt2] at htk
        have hltz2 : ¬ (la.length : Int) < (lb.length : Int) := by omega
        have hz' : ¬ (lb.length : Int) < (la.length : Int) := by omega
        go_wp2
        go_ret
        exact ⟨by first | rfl | (rw [htk]; rfl), hbl⟩

theorem refSame (va vb : Value) (la lb : List Int) (w : World) (hla : la.length ≤ 9223372036854775807) (hlb : lb.length ≤ 9223372036854775807) (hA : Nums w va la) (hB : Nums w vb lb) :
    Calls Tryd.prog 8 #[va, vb] w fun e w' => e = .returned (.bool (decide (la = lb))) ∧ Below w.heap.size w w' := by
  have G := hid (refOrder va vb la lb w hla hlb hA hB)
  by_cases h : la = lb
  · have h0 := (cmpL_same la lb).2 h
    rw [h0] at G
    rw [decide_eq_true h]
    clear h h0 hA hB
    go_enter Tryd.func8, Tryd.ntmps8
    go_wp2_with (go_at_call 12; refine (G.out).mono ?_; rintro e w1 ⟨rfl, hb⟩)
    go_ret
    exact ⟨rfl, hb⟩
  · have h0 : (cmpL la lb == 0) = false := beq_eq_false_iff_ne.2 fun e => h ((cmpL_same la lb).1 e)
    rw [decide_eq_false h]
    generalize cmpL la lb = c at G h0
    clear h hA hB
    go_enter Tryd.func8, Tryd.ntmps8
    go_wp2_with (go_at_call 12; refine (G.out).mono ?_; rintro e w1 ⟨rfl, hb⟩)
    go_ret
    exact ⟨rfl, hb⟩

theorem isNaN (x : Int) (w : World) : Calls Tryd.prog 28 #[.int .i64 x] w fun e w' => e = .returned (.bool false) ∧ w' = w := by
  have h : (x != x) = false := by simp
  go_enter Tryd.func28, Tryd.ntmps28
  go_wp2
  go_ret
  exact ⟨rfl, rfl⟩
theorem cmpCompare (x y : Int) (w : World) : Calls Tryd.prog 22 #[.int .i64 x, .int .i64 y] w fun e w' => e = .returned (.int .i64 (cmpI x y)) ∧ w' = w := by
  have G : Hid (∀ x w, Calls Tryd.prog 28 #[.int .i64 x] w fun e w' => e = .returned (.bool false) ∧ w' = w) := isNaN
  unfold cmpI
  by_cases h1 : x < y
  · rw [if_pos h1]
    go_enter Tryd.func22, Tryd.ntmps22
    go_wp2_with (go_at_call 28; refine (G.out _ _).mono ?_; rintro e w1 ⟨rfl, hw1⟩; subst w1)
    go_ret
    exact ⟨rfl, rfl⟩
  · rw [if_neg h1]
    by_cases h2 : y < x
    · rw [if_pos h2]
      go_enter Tryd.func22, Tryd.ntmps22
      go_wp2_with (go_at_call 28; refine (G.out _ _).mono ?_; rintro e w1 ⟨rfl, hw1⟩; subst w1)
      go_ret
      exact ⟨rfl, rfl⟩
    · rw [if_neg h2]
      go_enter Tryd.func22, Tryd.ntmps22
      go_wp2_with (go_at_call 28; refine (G.out _ _).mono ?_; rintro e w1 ⟨rfl, hw1⟩; subst w1)
      go_ret
      exact ⟨rfl, rfl⟩

set_option maxHeartbeats 1000000 in
theorem slicesCompare (va vb : Value) (la lb : List Int) (w : World) (hla : la.length ≤ 9223372036854775807) (_ : lb.length ≤ 9223372036854775807) (hA : Nums w va la) (hB : Nums w vb lb) :
    Calls Tryd.prog 15 #[va, vb] w fun e w' => e = .returned (.int .i64 (cmpL la lb)) ∧ w' = w := by
  have G : Hid (∀ x y w, Calls Tryd.prog 22 #[.int .i64 x, .int .i64 y] w fun e w' => e = .returned (.int .i64 (cmpI x y)) ∧ w' = w) := cmpCompare
  obtain ⟨aa, ca, rfl, _, _, hA⟩ := hA
  obtain ⟨ab, cb, rfl, _, _, hB⟩ := hB
  go_enter Tryd.func15, Tryd.ntmps15
  go_wp2
  go_loop [11] (fun i => ∃ k : Nat, k ≤ la.length ∧ k ≤ lb.length ∧ i = .int .i64 k ∧ cmpL la lb = cmpL (la.drop k) (lb.drop k)) (fun i => la.length - (intOf i).toNat)
  case atStart => exact ⟨0, Nat.zero_le _, Nat.zero_le _, rfl, rfl⟩
  case round =>
    obtain ⟨k, hk, hk2, rfl, htk⟩ := hrel
    by_cases hlt : k < la.length
    · have hltz : (k : Int) < (la.length : Int) := by omega
      obtain ⟨b1, o1, rfl, hb1, hc1⟩ := hA k hlt
      clear hA
      by_cases hlt2 : k < lb.length
      · have hltz2 : ¬ (lb.length : Int) ≤ (k : Int) := by omega
        obtain ⟨b2, o2, rfl, hb2, hc2⟩ := hB k hlt2
        rw [cmpL_at hlt hlt2] at htk
        clear hB
        generalize la[k] = x at hc1 htk
        generalize lb[k] = y at hc2 htk
        by_cases h1 : x < y
        · rw [if_pos h1] at htk
          have hx : cmpI x y = -1 := by unfold cmpI; rw [if_pos h1]
          go_wp2_with (go_at_call 22; refine (G.out _ _ _).mono ?_; rw [hx]; rintro e w1 ⟨rfl, hw1⟩; subst w1)
          go_ret
          exact ⟨by first | rfl | (rw [htk]; rfl), rfl⟩
        · rw [if_neg h1] at htk
          by_cases h2 : y < x
          · rw [if_pos h2] at htk
            have hx : cmpI x y = 1 := by unfold cmpI; rw [if_neg h1, if_pos h2]
            go_wp2_with (go_at_call 22; refine (G.out _ _ _).mono ?_; rw [hx]; rintro e w1 ⟨rfl, hw1⟩; subst w1)
            go_ret
            exact ⟨by first | rfl | (rw [htk]; rfl), rfl⟩
          · rw [if_neg h2] at htk
            have hx : cmpI x y = 0 := by unfold cmpI; rw [if_neg h1, if_neg h2]
            have htk' := hid htk
            clear htk
            go_wp2_with (go_at_call 22; refine (G.out _ _ _).mono ?_; rw [hx]; rintro e w1 ⟨rfl, hw1⟩; subst w1)
            go_round
            case rel => exact ⟨k + 1, by omega, by omega, by go_num, htk'.out⟩
            case measure => simp [intOf]; omega
      · have hltz2 : (lb.length : Int) ≤ (k : Int) := by omega
        rw [cmpL_endB hlt hlt2] at htk
        clear hB
        go_wp2
        go_ret
        exact ⟨by first | rfl | (rw [htk]; rfl), rfl⟩
    · obtain rfl : k = la.length := by omega
      clear hA hB
      by_cases hlt2 : la.length < lb.length
      · have hltz2 : (la.length : Int) < (lb.length : Int) := by omega
        rw [cmpL_endA hlt hlt2] at htk
        go_wp2
        go_ret
        exact ⟨by first | rfl | (rw [htk]; rfl), rfl⟩
      · rw [cmpL_end hlt hlt2] at htk
        have hltz2 : ¬ (la.length : Int) < (lb.length : Int) := by omega
        go_wp2
        go_ret
        exact ⟨by first | rfl | (rw [htk]; rfl), rfl⟩

theorem setsOrder (va vb : Value) (la lb : List Int) (w : World) (hla : la.length ≤ 9223372036854775807) (hlb : lb.length ≤ 9223372036854775807) (hA : Nums w va la) (hB : Nums w vb lb) :
    Calls Tryd.prog 10 #[va, vb] w fun e w' => e = .returned (.int .i64 (cmpL la lb)) ∧ w' = w := by
  have G := hid (slicesCompare va vb la lb w hla hlb hA hB)
  generalize cmpL la lb = c at G ⊢
  clear hA hB
  go_enter Tryd.func10, Tryd.ntmps10
  go_wp2_with (go_at_call 15; refine (G.out).mono ?_; rintro e w1 ⟨rfl, hw1⟩; subst w1)
  go_ret
  exact ⟨rfl, rfl⟩

end Go.Proofs.YtklfcjgambdncaaDoor
