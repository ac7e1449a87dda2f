/- Package word: cutters, cut. -/
import Derived.Test.YtkpakpfjgeannaaPd
import Derived.Laws.EntriesVeiled
namespace Go.Proofs.Ytkpakpfjgeannaa
open Go.RowKit Go.Maps

abbrev fnV (n : Nat) : Value := .func (.func n) #[] #[]
abbrev cutsV : Value := .agg #[fnV 28, fnV 29, fnV 30, fnV 31]
set_option maxRecDepth 20000 in
theorem cuttersC (w : World) : Calls Try.prog 25 #[] w fun e w' => e = .returned cutsV ∧ Below w.heap.size w w' := by
  have hb := hid (al' w (.cells #[fnV 28, fnV 29, fnV 30, fnV 31] 53))
  go_enter Try.func25, Try.ntmps25
  go_wp2
  refine bodyPost_ret (v := cutsV) (by simp [results, Try.results25, go_sem]) rfl ⟨rfl, ?_⟩
  exact hb.out
set_option maxRecDepth 20000 in
theorem ix4 (w : World) : (Instr.index 53 cutsV (.int .i64 0)).run Try.prog w = .ok (fnV 28) w ∧ (Instr.index 53 cutsV (.int .i64 1)).run Try.prog w = .ok (fnV 29) w ∧ (Instr.index 53 cutsV (.int .i64 2)).run Try.prog w = .ok (fnV 30) w ∧ (Instr.index 53 cutsV (.int .i64 3)).run Try.prog w = .ok (fnV 31) w := by
  refine ⟨?_, ?_, ?_, ?_⟩
  all_goals
    simp [Instr.index, run_underlying Try.underlying53, asIntOf, go_sem, part, isAgg, run_underlying Try.underlying52]
/-- the kind and the length of what is cut off -/
def cutK (u : Txt) : Nat × Nat := if 0 < blkL u then (0, blkL u) else if 0 < nmC u then (1, nmC u) else if 0 < rlC u then (2, rlC u) else if 0 < sgC u then (3, sgC u) else (0, 0)
set_option maxRecDepth 20000 in
set_option maxHeartbeats 4000000 in
theorem cutC (u : Txt) (w : World) (h0 : 0 < u.length) (hs : u.length ≤ 1000000) : Calls Try.prog 17 #[.string (strT u)] w fun e w' => e = .returned (.tuple #[.int .i64 ((cutK u).1 : Int), .int .i64 ((cutK u).2 : Int)]) ∧ Below w.heap.size w w' := by
  have GC := hid (cuttersC w)
  obtain ⟨c, r, hu⟩ : ∃ c r, u = c :: r := by
    cases u with
    | nil => exact absurd h0 (by decide)
    | cons c r => exact ⟨c, r, rfl⟩
  have GB := hid (fun x => blankP c r x (by rw [← hu]; exact hs))
  have GS := hid (fun x => signP c r x (by rw [← hu]; exact hs))
  rw [← hu] at GB GS
  have GN := hid (fun x => nameP u x h0 hs)
  have GR := hid (fun x => ruleP u x h0 hs)
  obtain ⟨R, hR⟩ : ∃ R, Hid (cutK u = R) := ⟨_, hid rfl⟩
  rw [hR.out]
  have hR := hid (show cutK u = R from hR.out)
  unfold cutK at hR
  clear hu
  have hI := hid (fun x => ix4 x)
  generalize blkL u = n0 at *
  generalize nmC u = n1 at *
  generalize rlC u = n2 at *
  generalize sgC u = n3 at *
  generalize strT u = U at *
  go_enter Try.func17, Try.ntmps17
  go_wp2_with (go_at_call 25; refine GC.out.mono ?_; clear GC; rintro e w2 ⟨rfl, hc2⟩; have hc2 := hid hc2)
  go_loopw [8] (fun x wr => ∃ k : Nat, k ≤ 4 ∧ x = .int .i64 (k : Int) ∧ Hid ((0 < k → n0 = 0) ∧ (1 < k → n1 = 0) ∧ (2 < k → n2 = 0) ∧ (3 < k → n3 = 0)) ∧ Hid (Below w.heap.size w wr)) (fun x _ => 4 - (intOf x).toNat)
  case atStart => exact ⟨0, by omega, rfl, hid (by omega), hc2⟩
  case round =>
    obtain ⟨k, hk, rfl, hZ, hw⟩ := hrel
    have hZ1 := hZ.out
    obtain ⟨i0, i1, i2, i3⟩ := hI.out wr
    rcases (show k = 0 ∨ k = 1 ∨ k = 2 ∨ k = 3 ∨ k = 4 by omega) with h9 | h9 | h9 | h9 | h9
    · subst h9
      have GB1 := hid (GB.out wr)
      by_cases hn : 0 < n0
      · have hnz : (0 : Int) < (n0 : Int) := by omega
        have hr := hid (hR.out.symm.trans (if_pos hn))
        clear hR hZ hZ1
        go_wp2_with (go_at_call 28; refine GB1.out.mono ?_; clear GB1; rintro e w3 ⟨rfl, hc3⟩; subst w3)
        go_ret2
        exact ⟨by rw [hr.out]; rfl, hw.out⟩
      · have hnz : ¬ (0 : Int) < (n0 : Int) := by omega
        have hZ2 : Hid ((0 < 1 → n0 = 0) ∧ (1 < 1 → n1 = 0) ∧ (2 < 1 → n2 = 0) ∧ (3 < 1 → n3 = 0)) := hid (by omega)
        clear hZ hZ1
        go_wp2_with (go_at_call 28; refine GB1.out.mono ?_; clear GB1; rintro e w3 ⟨rfl, hc3⟩; subst w3)
        go_roundw
        case rel => exact ⟨1, by omega, by go_num, hZ2, hw⟩
        case measure => simp [intOf]
    · subst h9
      have GB1 := hid (GN.out wr)
      have hp0 : n0 = 0 := hZ1.1 (by omega)
      subst hp0
      by_cases hn : 0 < n1
      · have hnz : (0 : Int) < (n1 : Int) := by omega
        have hr := hid (hR.out.symm.trans ((if_neg (by decide)).trans (if_pos hn)))
        clear hR hZ hZ1
        go_wp2_with (go_at_call 29; refine GB1.out.mono ?_; clear GB1; rintro e w3 ⟨rfl, hc3⟩; subst w3)
        go_ret2
        exact ⟨by rw [hr.out]; rfl, hw.out⟩
      · have hnz : ¬ (0 : Int) < (n1 : Int) := by omega
        have hZ2 : Hid ((0 < 2 → 0 = 0) ∧ (1 < 2 → n1 = 0) ∧ (2 < 2 → n2 = 0) ∧ (3 < 2 → n3 = 0)) := hid (by omega)
        clear hZ hZ1
        go_wp2_with (go_at_call 29; refine GB1.out.mono ?_; clear GB1; rintro e w3 ⟨rfl, hc3⟩; subst w3)
        go_roundw
        case rel => exact ⟨2, by omega, by go_num, hZ2, hw⟩
        case measure => simp [intOf]
    · subst h9
      have GB1 := hid (GR.out wr)
      have hp0 : n0 = 0 := hZ1.1 (by omega)
      subst hp0
      have hp1 : n1 = 0 := hZ1.2.1 (by omega)
      subst hp1
      by_cases hn : 0 < n2
      · have hnz : (0 : Int) < (n2 : Int) := by omega
        have hr := hid (hR.out.symm.trans ((if_neg (by decide)).trans ((if_neg (by decide)).trans (if_pos hn))))
        clear hR hZ hZ1
        go_wp2_with (go_at_call 30; refine GB1.out.mono ?_; clear GB1; rintro e w3 ⟨rfl, hc3⟩; subst w3)
        go_ret2
        exact ⟨by rw [hr.out]; rfl, hw.out⟩
      · have hnz : ¬ (0 : Int) < (n2 : Int) := by omega
        have hZ2 : Hid ((0 < 3 → 0 = 0) ∧ (1 < 3 → 0 = 0) ∧ (2 < 3 → n2 = 0) ∧ (3 < 3 → n3 = 0)) := hid (by omega)
        clear hZ hZ1
        go_wp2_with (go_at_call 30; refine GB1.out.mono ?_; clear GB1; rintro e w3 ⟨rfl, hc3⟩; subst w3)
        go_roundw
        case rel => exact ⟨3, by omega, by go_num, hZ2, hw⟩
        case measure => simp [intOf]
    · subst h9
      have GB1 := hid (GS.out wr)
      have hp0 : n0 = 0 := hZ1.1 (by omega)
      subst hp0
      have hp1 : n1 = 0 := hZ1.2.1 (by omega)
      subst hp1
      have hp2 : n2 = 0 := hZ1.2.2.1 (by omega)
      subst hp2
      by_cases hn : 0 < n3
      · have hnz : (0 : Int) < (n3 : Int) := by omega
        have hr := hid (hR.out.symm.trans ((if_neg (by decide)).trans ((if_neg (by decide)).trans ((if_neg (by decide)).trans (if_pos hn)))))
        clear hR hZ hZ1
        go_wp2_with (go_at_call 31; refine GB1.out.mono ?_; clear GB1; rintro e w3 ⟨rfl, hc3⟩; subst w3)
        go_ret2
        exact ⟨by rw [hr.out]; rfl, hw.out⟩
      · have hnz : ¬ (0 : Int) < (n3 : Int) := by omega
        have hZ2 : Hid ((0 < 4 → 0 = 0) ∧ (1 < 4 → 0 = 0) ∧ (2 < 4 → 0 = 0) ∧ (3 < 4 → n3 = 0)) := hid (by omega)
        clear hZ hZ1
        go_wp2_with (go_at_call 31; refine GB1.out.mono ?_; clear GB1; rintro e w3 ⟨rfl, hc3⟩; subst w3)
        go_roundw
        case rel => exact ⟨4, by omega, by go_num, hZ2, hw⟩
        case measure => simp [intOf]
    · subst h9
      have hr : Hid (R = (0, 0)) := hid (by
        have h1 := hZ1.1 (by omega)
        have h2 := hZ1.2.1 (by omega)
        have h3 := hZ1.2.2.1 (by omega)
        have h4 := hZ1.2.2.2 (by omega)
        have h5 := hR.out
        rw [h1, h2, h3, h4] at h5
        exact h5.symm)
      clear hR hZ hZ1
      go_wp2
      go_ret2
      exact ⟨by rw [hr.out]; rfl, hw.out⟩

end Go.Proofs.Ytkpakpfjgeannaa
