/- The contract of topiaryref03.Same, of any two lists of numbers. -/
import Derived.Test.YtbemlnllhedbpaaNums
namespace Go.Proofs.Ytbemlnllhedbpaa
open Go.RowKit

theorem take_eq_succ {la lb : List Int} {k : Nat} (ha : k < la.length) (hb : k < lb.length) (h : la.take k = lb.take k) (e : la[k] = lb[k]) : la.take (k + 1) = lb.take (k + 1) := by
  rw [List.take_succ_eq_append_getElem ha, List.take_succ_eq_append_getElem hb, h, e]

theorem belowN {B : Nat} {w u : World} {n : Nat} (h : Below B w u) : Below B w (u.drewN n) := ⟨h.os, h.tape, h.output, h.size, h.block⟩

set_option maxHeartbeats 1000000 in
theorem same10 (va vb : Value) (la lb : List Int) (w : World) (hla : la.length ≤ 9223372036854775807) (hlb : lb.length ≤ 9223372036854775807) (hA : Nums w va la) (hB : Nums w vb lb) :
    Calls Try.prog 10 #[va, vb] w fun e w' => e = .returned (.bool (decide (la = lb))) ∧ Below w.heap.size w w' := by
  obtain ⟨aa, ca, rfl, hA⟩ := hA
  obtain ⟨ab, cb, rfl, hB⟩ := hB
  by_cases hl : la.length = lb.length
  · have hl' : (la.length : Int) = (lb.length : Int) := by omega
    go_enter Try.func10, Try.ntmps10
    go_wp2
    go_loopw [5] (fun i wr => ∃ k : Nat, k ≤ la.length ∧ i = .int .i64 k ∧ la.take k = lb.take k ∧ Below w.heap.size w wr) (fun i _ => la.length - (intOf i).toNat)
    case atStart => exact ⟨0, Nat.zero_le _, rfl, rfl, Below.refl _ w⟩
    case round =>
      obtain ⟨k, hk, rfl, htk, hbl⟩ := hrel
      by_cases hlt : k < la.length
      · have hlt2 : k < lb.length := by omega
        obtain ⟨b1, o1, rfl, hb1, hc1⟩ := hA k hlt
        obtain ⟨b2, o2, rfl, hb2, hc2⟩ := hB k hlt2
        have hd1 := (hbl.cell hb1).trans hc1
        have hd2 := (hbl.cell hb2).trans hc2
        clear hc1 hc2 hA hB
        by_cases he : la[k] = lb[k]
        · have hstep := take_eq_succ hlt hlt2 htk he
          rw [← he] at hd2
          have hbq : ((la[k] : Int) != la[k]) = false := by simp
          generalize la[k] = x at hd1 hd2 hbq
          have hltz : (k : Int) < (la.length : Int) := by omega
          have hltz2 : (k : Int) < (lb.length : Int) := by omega
          go_wp2_with fail
          go_quiet (fail)
          go_wp2
          go_roundw
          case rel => exact ⟨k + 1, by omega, by go_num, hstep, belowN hbl⟩
          case measure => simp [intOf]; omega
        · have hres : decide (la = lb) = false := decide_eq_false (fun h => he (by subst h; rfl))
          have hbq : ((la[k] : Int) != lb[k]) = true := by simpa using he
          generalize la[k] = x at hd1 hbq
          generalize lb[k] = y at hd2 hbq
          have hltz : (k : Int) < (la.length : Int) := by omega
          have hltz2 : (k : Int) < (lb.length : Int) := by omega
          go_wp2_with fail
          go_quiet (fail)
          go_wp2
          go_ret
          exact ⟨by rw [hres]; rfl, belowN hbl⟩
      · obtain rfl : k = la.length := by omega
        have hres : decide (la = lb) = true := decide_eq_true (by rw [List.take_of_length_le (Nat.le_refl _), hl, List.take_of_length_le (Nat.le_refl _)] at htk; exact htk)
        clear hA hB
        go_wp2
        go_ret
        exact ⟨by rw [hres]; rfl, hbl⟩
  · have hl' : ¬ (la.length : Int) = (lb.length : Int) := by omega
    have hres : decide (la = lb) = false := decide_eq_false (fun h => hl (by rw [h]))
    rw [hres]
    clear hA hB
    go_enter Try.func10, Try.ntmps10
    go_wp2
    go_ret
    exact ⟨rfl, Below.refl _ w⟩

end Go.Proofs.Ytbemlnllhedbpaa
