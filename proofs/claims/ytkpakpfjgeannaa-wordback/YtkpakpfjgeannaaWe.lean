/- topiaryref11.End: the place behind the word at a place. -/
import Derived.Test.YtkpakpfjgeannaaWl
namespace Go.Proofs.Ytkpakpfjgeannaa
open Go.RowKit Go.Maps

/-- what End answers -/
def endI (s : Txt) (a : Nat) : Int := match endL (s.drop a) with
  | none => -1
  | some n => ((a + n : Nat) : Int)
theorem endI_none {s : Txt} {a : Nat} (h : endL (s.drop a) = none) : endI s a = -1 := by unfold endI; rw [h]
theorem endI_some {s : Txt} {a n : Nat} (h : endL (s.drop a) = some n) : endI s a = ((a + n : Nat) : Int) := by unfold endI; rw [h]
theorem sgnB_yes {c : Nat} (h : c = 58 ∨ c = 59 ∨ c = 124 ∨ c = 37) : sgnB c = true := by
  rcases h with rfl | rfl | rfl | rfl <;> decide
theorem sgnB_no {c : Nat} (h : ¬ (c = 58 ∨ c = 59 ∨ c = 124 ∨ c = 37)) : sgnB c = false := by
  cases e : sgnB c with
  | false => rfl
  | true =>
    exfalso
    unfold sgnB at e
    rw [Bool.or_eq_true, Bool.or_eq_true, Bool.or_eq_true, beq_iff_eq, beq_iff_eq, beq_iff_eq, beq_iff_eq] at e
    omega
theorem digB_iff (c : Nat) : digB c = true ↔ 48 ≤ c ∧ c ≤ 57 := by
  unfold digB
  rw [Bool.and_eq_true, decide_eq_true_iff, decide_eq_true_iff]

set_option maxRecDepth 20000 in
set_option maxHeartbeats 8000000 in
theorem endC (s : Txt) (a : Nat) (w : World) (ha : a < s.length) (hs : s.length ≤ 1000000) :
    Calls Try.prog 19 #[.string (strT s), .int .i64 (a : Int)] w fun e w' => e = .returned (.int .i64 (endI s a)) ∧ w' = w := by
  have hsz := strT_size s
  have haz : (a : Int) < (s.length : Int) := by omega
  have han : a < (strT s).size := by omega
  have key := str_get ha han
  have hE := hid (drop_get ha)
  have hcb := (s.getD a 0).toNat_lt
  have GL := hid (fun (c : Nat) (hc : c < 256) (u : World) => letterC c u hc)
  obtain ⟨R, hR⟩ : ∃ R, Hid (endI s a = R) := ⟨_, hid rfl⟩
  rw [hR.out]
  generalize s.getD a 0 = cc at *
  by_cases hsg : cc.toNat = 58 ∨ cc.toNat = 59 ∨ cc.toNat = 124 ∨ cc.toNat = 37
  · have hr : R = ((a : Int) + 1) := by
      rw [← hR.out, endI_some (n := 1) (by rw [hE.out, endL, sgnB_yes hsg, if_pos rfl])]
      rfl
    subst hr
    generalize cc.toNat = c at *
    clear GL hE hR
    rcases hsg with h9 | h9 | h9 | h9
    all_goals
      subst h9
      go_enter Try.func19, Try.ntmps19
      go_wp2
      go_ret
      exact ⟨rfl, rfl⟩
  have hsn := sgnB_no hsg
  have z1 : ((cc.toNat : Int) == 58) = false := by rw [beq_eq_false_iff_ne]; omega
  have z2 : ((cc.toNat : Int) == 59) = false := by rw [beq_eq_false_iff_ne]; omega
  have z3 : ((cc.toNat : Int) == 124) = false := by rw [beq_eq_false_iff_ne]; omega
  have z4 : ((cc.toNat : Int) == 37) = false := by rw [beq_eq_false_iff_ne]; omega
  cases hlt : letB cc.toNat with
  | true =>
    have hr0 : R = if 16 < namL (s.drop a) then -1 else ((a + namL (s.drop a) : Nat) : Int) := by
      have e1 : endL (s.drop a) = if 16 < namL (s.drop a) then none else some (namL (s.drop a)) := by rw [hE.out, endL, hsn, if_neg (by decide), hlt, if_pos rfl]
      rw [← hR.out]
      by_cases h16 : 16 < namL (s.drop a)
      · rw [if_pos h16] at e1 ⊢; exact endI_none e1
      · rw [if_neg h16] at e1 ⊢; exact endI_some e1
    have hr := hid hr0
    clear hr0
    have GL1 := hid (GL.out cc.toNat hcb w)
    rw [hlt] at GL1
    generalize cc.toNat = c at *
    clear hE hR hsn hsg hlt
    go_enter Try.func19, Try.ntmps19
    go_wp2_with (go_at_call 20; refine GL1.out.mono ?_; clear GL1; rintro e w2 ⟨rfl, hc2⟩; subst w2)
    go_loopw [6] (fun x wr => ∃ p : Nat, a ≤ p ∧ p ≤ s.length ∧ x = .int .i64 (p : Int) ∧ Hid (p - a + namL (s.drop p) = namL (s.drop a)) ∧ wr = w) (fun x _ => s.length - (intOf x).toNat)
    case atStart => exact ⟨a, Nat.le_refl _, by omega, rfl, hid (by omega), rfl⟩
    case round =>
      obtain ⟨p, hap, hp, rfl, hI, rfl⟩ := hrel
      by_cases hpt : p < s.length
      · have hptz : (p : Int) < (s.length : Int) := by omega
        have hptn : p < (strT s).size := by omega
        have key2 := str_get hpt hptn
        have hE2 := hid (drop_get hpt)
        have hcb2 := (s.getD p 0).toNat_lt
        have GL2 := hid (GL.out (s.getD p 0).toNat hcb2 wr)
        have hI2 := hI.out
        rw [hE2.out, namL] at hI2
        generalize s.getD p 0 = c2 at *
        cases hl2 : letB c2.toNat with
        | true =>
          rw [hl2] at GL2
          have hI3 : Hid (p + 1 - a + namL (s.drop (p + 1)) = namL (s.drop a)) := hid (by rw [hl2, Bool.true_or, if_pos rfl] at hI2; omega)
          clear hI2 hE2 hl2 hI
          generalize c2.toNat = cn at *
          go_wp2_with (go_at_call 20; refine GL2.out.mono ?_; clear GL2; rintro e w2 ⟨rfl, hc2⟩; subst w2)
          go_roundw
          case rel => exact ⟨p + 1, by omega, by omega, by go_num, hI3, by first | rfl | trivial⟩
          case measure => simp [intOf]; omega
        | false =>
          rw [hl2] at GL2
          by_cases hd : 48 ≤ c2.toNat ∧ c2.toNat ≤ 57
          · have hI3 : Hid (p + 1 - a + namL (s.drop (p + 1)) = namL (s.drop a)) := hid (by rw [(digB_iff _).2 hd, Bool.or_true, if_pos rfl] at hI2; omega)
            clear hI2 hE2 hl2 hI
            generalize c2.toNat = cn at *
            have d1 : (48 : Int) ≤ (cn : Int) := by omega
            have d2 : (cn : Int) ≤ 57 := by omega
            go_wp2_with (go_at_call 20; refine GL2.out.mono ?_; clear GL2; rintro e w2 ⟨rfl, hc2⟩; subst w2)
            go_roundw
            case rel => exact ⟨p + 1, by omega, by omega, by go_num, hI3, by first | rfl | trivial⟩
            case measure => simp [intOf]; omega
          · have hI3 : Hid (p - a = namL (s.drop a)) := hid (by
              have hdn : digB c2.toNat = false := by
                cases e : digB c2.toNat with
                | false => rfl
                | true => exact absurd ((digB_iff _).1 e) hd
              rw [hl2, hdn, Bool.or_false, if_neg (by decide)] at hI2
              omega)
            clear hI2 hE2 hl2 hI
            generalize c2.toNat = cn at *
            have hr2 : Hid (R = if 16 < p - a then -1 else (p : Int)) := hid (by rw [hr.out, ← hI3.out, show a + (p - a) = p by omega])
            clear hr hI3
            have hdc : cn < 48 ∨ (48 ≤ cn ∧ 57 < cn) := by omega
            clear hd
            by_cases h16 : 16 < p - a
            · have h16z : (16 : Int) < (p : Int) - (a : Int) := by omega
              rcases hdc with d1 | ⟨d1, d2⟩
              · have d1z : ¬ (48 : Int) ≤ (cn : Int) := by omega
                go_wp2_with (go_at_call 20; refine GL2.out.mono ?_; clear GL2; rintro e w2 ⟨rfl, hc2⟩; subst w2)
                go_ret
                exact ⟨by rw [hr2.out, if_pos h16]; rfl, rfl⟩
              · have d1z : (48 : Int) ≤ (cn : Int) := by omega
                have d2z : ¬ (cn : Int) ≤ 57 := by omega
                go_wp2_with (go_at_call 20; refine GL2.out.mono ?_; clear GL2; rintro e w2 ⟨rfl, hc2⟩; subst w2)
                go_ret
                exact ⟨by rw [hr2.out, if_pos h16]; rfl, rfl⟩
            · have h16z : ¬ (16 : Int) < (p : Int) - (a : Int) := by omega
              rcases hdc with d1 | ⟨d1, d2⟩
              · have d1z : ¬ (48 : Int) ≤ (cn : Int) := by omega
                go_wp2_with (go_at_call 20; refine GL2.out.mono ?_; clear GL2; rintro e w2 ⟨rfl, hc2⟩; subst w2)
                go_ret
                exact ⟨by rw [hr2.out, if_neg h16]; rfl, rfl⟩
              · have d1z : (48 : Int) ≤ (cn : Int) := by omega
                have d2z : ¬ (cn : Int) ≤ 57 := by omega
                go_wp2_with (go_at_call 20; refine GL2.out.mono ?_; clear GL2; rintro e w2 ⟨rfl, hc2⟩; subst w2)
                go_ret
                exact ⟨by rw [hr2.out, if_neg h16]; rfl, rfl⟩
      · have hptz : ¬ (p : Int) < (s.length : Int) := by omega
        have hI3 : p - a = namL (s.drop a) := by have := hI.out; rw [List.drop_eq_nil_of_le (by omega)] at this; exact this
        have hr2 : Hid (R = if 16 < p - a then -1 else (p : Int)) := hid (by rw [hr.out, ← hI3, show a + (p - a) = p by omega])
        clear hr hI3 hI
        by_cases h16 : 16 < p - a
        · have h16z : (16 : Int) < (p : Int) - (a : Int) := by omega
          go_wp2
          go_ret
          exact ⟨by rw [hr2.out, if_pos h16]; rfl, rfl⟩
        · have h16z : ¬ (16 : Int) < (p : Int) - (a : Int) := by omega
          go_wp2
          go_ret
          exact ⟨by rw [hr2.out, if_neg h16]; rfl, rfl⟩
  | false =>
    have GL1 := hid (GL.out cc.toNat hcb w)
    rw [hlt] at GL1
    by_cases h47 : cc.toNat = 47
    · have hr : Hid (R = match rgL false (s.drop (a + 1)) with | none => -1 | some n => ((a + 1 + n : Nat) : Int)) := hid (by
        have e1 : endL (s.drop a) = (rgL false (s.drop (a + 1))).map (· + 1) := by rw [hE.out, endL, hsn, if_neg (by decide), hlt, if_neg (by decide), if_pos h47]
        rw [← hR.out]
        cases e2 : rgL false (s.drop (a + 1)) with
        | none => rw [e2] at e1; exact endI_none e1
        | some n => rw [e2] at e1; rw [endI_some e1]; show ((a + (n + 1) : Nat) : Int) = ((a + 1 + n : Nat) : Int); rw [show a + (n + 1) = a + 1 + n by omega])
      generalize cc.toNat = c at *
      subst h47
      clear hE hR hsn hsg hlt GL
      go_enter Try.func19, Try.ntmps19
      go_wp2_with (go_at_call 20; refine GL1.out.mono ?_; clear GL1; rintro e w2 ⟨rfl, hc2⟩; subst w2)
      go_loopw [7, 8] (fun f x wr => ∃ (p : Nat) (tk : Bool), a + 1 ≤ p ∧ p ≤ s.length ∧ x = .int .i64 (p : Int) ∧ f = .bool tk ∧ Hid (R = match rgL tk (s.drop p) with | none => -1 | some n => ((p + n : Nat) : Int)) ∧ wr = w) (fun _ x _ => s.length - (intOf x).toNat)
      case atStart => exact ⟨a + 1, false, Nat.le_refl _, by omega, by go_num, rfl, hr, rfl⟩
      case round =>
        obtain ⟨p, tk, hap, hp, rfl, rfl, hI, rfl⟩ := hrel
        by_cases hpt : p < s.length
        · have hptz : (p : Int) < (s.length : Int) := by omega
          have hptn : p < (strT s).size := by omega
          have key2 := str_get hpt hptn
          have hcb2 := (s.getD p 0).toNat_lt
          have hI2 := hI.out
          rw [drop_get hpt, rgL] at hI2
          generalize s.getD p 0 = c2 at *
          by_cases h10 : c2.toNat = 10
          · have hr2 : Hid (R = -1) := hid (by rw [if_pos h10] at hI2; exact hI2)
            generalize c2.toNat = cn at *
            subst h10
            clear hI hr hI2
            go_wp2
            go_ret
            exact ⟨by rw [hr2.out]; rfl, rfl⟩
          rw [if_neg h10] at hI2
          by_cases h47 : c2.toNat = 47 ∧ tk = false
          · have hr2 : Hid (R = ((p + 1 : Nat) : Int)) := hid (by rw [if_pos h47] at hI2; exact hI2)
            obtain ⟨h47, rfl⟩ := h47
            generalize c2.toNat = cn at *
            subst h47
            clear hI hr hI2 h10
            go_wp2
            go_ret
            exact ⟨by rw [hr2.out]; rfl, rfl⟩
          rw [if_neg h47] at hI2
          have hI3 : Hid (R = match rgL (c2.toNat == 92 && !tk) (s.drop (p + 1)) with | none => -1 | some n => ((p + 1 + n : Nat) : Int)) := hid (by
            rw [hI2]
            cases e2 : rgL (c2.toNat == 92 && !tk) (s.drop (p + 1)) with
            | none => rfl
            | some n => show ((p + (n + 1) : Nat) : Int) = ((p + 1 + n : Nat) : Int); rw [show p + (n + 1) = p + 1 + n by omega])
          clear hI2
          generalize c2.toNat = cn at *
          have z10 : ((cn : Int) != 10) = true := by rw [bne_iff_ne]; omega
          have hI4 : Hid (∀ tk', tk' = (cn == 92 && !tk) → R = match rgL tk' (s.drop (p + 1)) with | none => -1 | some n => ((p + 1 + n : Nat) : Int)) := hid (fun tk' h => by rw [h]; exact hI3.out)
          clear hI3 hI hr
          cases tk with
          | true =>
            have hI5 := hid (hI4.out false (by cases cn == 92 <;> rfl))
            clear hI4
            by_cases h47' : cn = 47
            · subst h47'
              go_wp2
              go_roundw
              case rel => exact ⟨p + 1, false, by omega, by omega, by go_num, rfl, hI5, by first | rfl | trivial⟩
              case measure => simp [intOf]; omega
            · have z47 : ((cn : Int) == 47) = false := by rw [beq_eq_false_iff_ne]; omega
              by_cases h92 : cn = 92
              · subst h92
                go_wp2
                go_roundw
                case rel => exact ⟨p + 1, false, by omega, by omega, by go_num, rfl, hI5, by first | rfl | trivial⟩
                case measure => simp [intOf]; omega
              · have z92 : ((cn : Int) == 92) = false := by rw [beq_eq_false_iff_ne]; omega
                go_wp2
                go_roundw
                case rel => exact ⟨p + 1, false, by omega, by omega, by go_num, rfl, hI5, by first | rfl | trivial⟩
                case measure => simp [intOf]; omega
          | false =>
            have h47n : ¬ cn = 47 := fun h => h47 ⟨h, rfl⟩
            have z47 : ((cn : Int) == 47) = false := by rw [beq_eq_false_iff_ne]; omega
            by_cases h92 : cn = 92
            · have hI5 := hid (hI4.out true (by rw [h92]; rfl))
              clear hI4
              subst h92
              go_wp2
              go_roundw
              case rel => exact ⟨p + 1, true, by omega, by omega, by go_num, rfl, hI5, by first | rfl | trivial⟩
              case measure => simp [intOf]; omega
            · have hI5 := hid (hI4.out false (by rw [beq_eq_false_iff_ne.2 h92]; rfl))
              clear hI4
              have z92 : ((cn : Int) == 92) = false := by rw [beq_eq_false_iff_ne]; omega
              go_wp2
              go_roundw
              case rel => exact ⟨p + 1, false, by omega, by omega, by go_num, rfl, hI5, by first | rfl | trivial⟩
              case measure => simp [intOf]; omega
        · have hptz : ¬ (p : Int) < (s.length : Int) := by omega
          have hr20 : R = -1 := by have := hI.out; rw [List.drop_eq_nil_of_le (by omega)] at this; cases tk <;> exact this
          have hr2 := hid hr20
          clear hI hr hr20
          go_wp2
          go_ret
          exact ⟨by rw [hr2.out]; rfl, rfl⟩
    · have hr : R = -1 := by
        rw [← hR.out]
        exact endI_none (by rw [hE.out, endL, hsn, if_neg (by decide), hlt, if_neg (by decide), if_neg h47])
      subst hr
      generalize cc.toNat = c at *
      have z5 : ((c : Int) == 47) = false := by rw [beq_eq_false_iff_ne]; omega
      clear hE hR hsn hsg hlt GL
      go_enter Try.func19, Try.ntmps19
      go_wp2_with (go_at_call 20; refine GL1.out.mono ?_; clear GL1; rintro e w2 ⟨rfl, hc2⟩; subst w2)
      go_ret
      exact ⟨rfl, rfl⟩

end Go.Proofs.Ytkpakpfjgeannaa
