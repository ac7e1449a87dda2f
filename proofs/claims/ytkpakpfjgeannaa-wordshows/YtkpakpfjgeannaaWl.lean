/- topiaryref11.Letter, Skip, End. -/
import Derived.Test.YtkpakpfjgeannaaWm
namespace Go.Proofs.Ytkpakpfjgeannaa
open Go.RowKit Go.Maps

theorem letB_yes {b : Nat} (h : b = 95 ∨ (65 ≤ b ∧ b ≤ 90) ∨ (97 ≤ b ∧ b ≤ 122)) : letB b = true := by
  unfold letB
  rw [Bool.or_eq_true, Bool.or_eq_true, Bool.and_eq_true, Bool.and_eq_true, beq_iff_eq, decide_eq_true_iff, decide_eq_true_iff, decide_eq_true_iff, decide_eq_true_iff]
  omega
theorem letB_no {b : Nat} (h : ¬ (b = 95 ∨ (65 ≤ b ∧ b ≤ 90) ∨ (97 ≤ b ∧ b ≤ 122))) : letB b = false := by
  cases e : letB b with
  | false => rfl
  | true =>
    exfalso
    unfold letB at e
    rw [Bool.or_eq_true, Bool.or_eq_true, Bool.and_eq_true, Bool.and_eq_true, beq_iff_eq, decide_eq_true_iff, decide_eq_true_iff, decide_eq_true_iff, decide_eq_true_iff] at e
    omega
set_option maxRecDepth 20000 in
theorem letterC (b : Nat) (w : World) (hb : b < 256) : Calls Try.prog 20 #[.int .u8 (b : Int)] w fun e w' => e = .returned (.bool (letB b)) ∧ w' = w := by
  rcases (show b = 95 ∨ (65 ≤ b ∧ b ≤ 90) ∨ (97 ≤ b ∧ b ≤ 122) ∨ b < 65 ∨ (90 < b ∧ b < 97 ∧ b ≠ 95) ∨ 122 < b by omega) with h | h | h | h | h | h
  · rw [letB_yes (by omega)]
    subst h
    go_enter Try.func20, Try.ntmps20
    go_wp2
    go_ret
    exact ⟨by simp, rfl⟩
  · rw [letB_yes (by omega)]
    have h1 : ((b : Int) == 95) = false := by rw [beq_eq_false_iff_ne]; omega
    have h2 : (65 : Int) ≤ (b : Int) := by omega
    have h3 : (b : Int) ≤ 90 := by omega
    go_enter Try.func20, Try.ntmps20
    go_wp2
    go_ret
    exact ⟨by simp, rfl⟩
  · rw [letB_yes (by omega)]
    have h1 : ((b : Int) == 95) = false := by rw [beq_eq_false_iff_ne]; omega
    have h2 : (65 : Int) ≤ (b : Int) := by omega
    have h3 : ¬ (b : Int) ≤ 90 := by omega
    have h4 : (97 : Int) ≤ (b : Int) := by omega
    have h5 : (b : Int) ≤ 122 := by omega
    go_enter Try.func20, Try.ntmps20
    go_wp2
    go_ret
    exact ⟨by simp, rfl⟩
  · rw [letB_no (by omega)]
    have h1 : ((b : Int) == 95) = false := by rw [beq_eq_false_iff_ne]; omega
    have h2 : ¬ (65 : Int) ≤ (b : Int) := by omega
    have h4 : ¬ (97 : Int) ≤ (b : Int) := by omega
    go_enter Try.func20, Try.ntmps20
    go_wp2
    go_ret
    exact ⟨by simp, rfl⟩
  · rw [letB_no (by omega)]
    have h1 : ((b : Int) == 95) = false := by rw [beq_eq_false_iff_ne]; omega
    have h2 : (65 : Int) ≤ (b : Int) := by omega
    have h3 : ¬ (b : Int) ≤ 90 := by omega
    have h4 : ¬ (97 : Int) ≤ (b : Int) := by omega
    go_enter Try.func20, Try.ntmps20
    go_wp2
    go_ret
    exact ⟨by simp, rfl⟩
  · rw [letB_no (by omega)]
    have h1 : ((b : Int) == 95) = false := by rw [beq_eq_false_iff_ne]; omega
    have h2 : (65 : Int) ≤ (b : Int) := by omega
    have h3 : ¬ (b : Int) ≤ 90 := by omega
    have h4 : (97 : Int) ≤ (b : Int) := by omega
    have h5 : ¬ (b : Int) ≤ 122 := by omega
    go_enter Try.func20, Try.ntmps20
    go_wp2
    go_ret
    exact ⟨by simp, rfl⟩
theorem drop_get {s : Txt} {p : Nat} (h : p < s.length) : s.drop p = s.getD p 0 :: s.drop (p + 1) := by
  rw [List.drop_eq_getElem_cons h, List.getD_eq_getElem?_getD, List.getElem?_eq_getElem h]
  rfl
theorem str_get {s : Txt} {p : Nat} (h : p < s.length) (h' : p < (strT s).size) : (((strT s)[p]'h').toNat : Int) = ((s.getD p 0).toNat : Int) := by
  have hgd : s.getD p 0 = s[p]'h := by rw [List.getD_eq_getElem?_getD, List.getElem?_eq_getElem h]; rfl
  rw [hgd]
  exact congrArg (fun c : UInt8 => (c.toNat : Int)) (strT_at s p h' h)
theorem blnB_yes {c : Nat} (h : c = 9 ∨ c = 10 ∨ c = 13 ∨ c = 32) : blnB c = true := by
  rcases h with rfl | rfl | rfl | rfl <;> decide
theorem blnB_no {c : Nat} (h : ¬ (c = 9 ∨ c = 10 ∨ c = 13 ∨ c = 32)) : blnB c = false := by
  cases e : blnB c with
  | false => rfl
  | true =>
    exfalso
    unfold blnB at e
    rw [Bool.or_eq_true, Bool.or_eq_true, Bool.or_eq_true, beq_iff_eq, beq_iff_eq, beq_iff_eq, beq_iff_eq] at e
    omega

set_option maxRecDepth 20000 in
set_option maxHeartbeats 4000000 in
theorem skipC (s : Txt) (a : Nat) (w : World) (ha : a ≤ s.length) (hs : s.length ≤ 1000000) :
    Calls Try.prog 16 #[.string (strT s), .int .i64 (a : Int)] w fun e w' => e = .returned (.int .i64 ((a + skL false (s.drop a) : Nat) : Int)) ∧ w' = w := by
  obtain ⟨R, hR⟩ : ∃ R, Hid (a + skL false (s.drop a) = R) := ⟨_, hid rfl⟩
  rw [hR.out]
  have hsz := strT_size s
  go_enter Try.func16, Try.ntmps16
  go_wp2
  go_loopw [1, 5] (fun x f wr => ∃ (p : Nat) (rm : Bool), p ≤ s.length ∧ x = .int .i64 (p : Int) ∧ f = .bool rm ∧ Hid (p + skL rm (s.drop p) = R) ∧ wr = w) (fun x _ _ => s.length - (intOf x).toNat)
  case atStart => exact ⟨a, false, ha, rfl, rfl, hR, rfl⟩
  case round =>
    obtain ⟨p, rm, hp, rfl, rfl, hI, rfl⟩ := hrel
    by_cases hlt : p < s.length
    · have hltz : (p : Int) < (s.length : Int) := by omega
      have hltn : p < (strT s).size := by omega
      have key := str_get hlt hltn
      have hI' := hI.out
      rw [drop_get hlt] at hI'
      have hI' := hid hI'
      have hcb := (s.getD p 0).toNat_lt
      generalize s.getD p 0 = cc at *
      cases rm with
      | true =>
        have hn0 : p + 1 + skL (cc.toNat != 10) (s.drop (p + 1)) = R := by rw [← hI'.out, skL]; omega
        by_cases h10 : cc.toNat = 10
        · have hn : Hid (p + 1 + skL false (s.drop (p + 1)) = R) := hid (by rw [h10] at hn0; exact hn0)
          clear hn0
          generalize cc.toNat = c at *
          subst h10
          clear hI hI'
          go_wp2
          go_roundw
          case rel => exact ⟨p + 1, false, by omega, by go_num, rfl, hn, by first | rfl | trivial⟩
          case measure => simp [intOf]; omega
        · have hn : Hid (p + 1 + skL true (s.drop (p + 1)) = R) := hid (by rw [bne_iff_ne.2 h10] at hn0; exact hn0)
          clear hn0
          generalize cc.toNat = c at *
          have h10z : ((c : Int) != 10) = true := by rw [bne_iff_ne]; omega
          clear hI hI'
          go_wp2
          go_roundw
          case rel => exact ⟨p + 1, true, by omega, by go_num, rfl, hn, by first | rfl | trivial⟩
          case measure => simp [intOf]; omega
      | false =>
        by_cases h35 : cc.toNat = 35
        · have hn : Hid (p + 1 + skL true (s.drop (p + 1)) = R) := hid (by rw [← hI'.out, skL, if_pos h35]; omega)
          generalize cc.toNat = c at *
          subst h35
          clear hI hI'
          go_wp2
          go_roundw
          case rel => exact ⟨p + 1, true, by omega, by go_num, rfl, hn, by first | rfl | trivial⟩
          case measure => simp [intOf]; omega
        · by_cases hbl : cc.toNat = 9 ∨ cc.toNat = 10 ∨ cc.toNat = 13 ∨ cc.toNat = 32
          · have hn : Hid (p + 1 + skL false (s.drop (p + 1)) = R) := hid (by rw [← hI'.out, skL, if_neg h35, blnB_yes hbl, if_pos rfl]; omega)
            generalize cc.toNat = c at *
            clear hI hI' h35
            rcases hbl with h9 | h9 | h9 | h9
            all_goals
              subst h9
              go_wp2
              go_roundw
              case rel => exact ⟨p + 1, false, by omega, by go_num, rfl, hn, by first | rfl | trivial⟩
              case measure => simp [intOf]; omega
          · have hn : Hid (p = R) := hid (by rw [← hI'.out, skL, if_neg h35, blnB_no hbl, if_neg (by decide)]; omega)
            generalize cc.toNat = c at *
            have z1 : ((c : Int) == 35) = false := by rw [beq_eq_false_iff_ne]; omega
            have z2 : ((c : Int) != 9) = true := by rw [bne_iff_ne]; omega
            have z3 : ((c : Int) != 10) = true := by rw [bne_iff_ne]; omega
            have z4 : ((c : Int) != 13) = true := by rw [bne_iff_ne]; omega
            have z5 : ((c : Int) != 32) = true := by rw [bne_iff_ne]; omega
            clear hI hI' h35 hbl
            go_wp2
            go_ret
            exact ⟨by rw [← hn.out]; rfl, rfl⟩
    · have hltz : ¬ (p : Int) < (s.length : Int) := by omega
      have hn : Hid (p = R) := hid (by have := hI.out; rw [List.drop_eq_nil_of_le (by omega)] at this; cases rm <;> exact this)
      go_wp2
      go_ret
      exact ⟨by rw [← hn.out]; rfl, rfl⟩

end Go.Proofs.Ytkpakpfjgeannaa
