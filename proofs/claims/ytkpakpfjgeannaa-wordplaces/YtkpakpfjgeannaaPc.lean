/- Package word's cutters: name, rule. -/
import Derived.Test.YtkpakpfjgeannaaPb
namespace Go.Proofs.Ytkpakpfjgeannaa
open Go.RowKit Go.Maps

set_option maxRecDepth 20000 in
set_option maxHeartbeats 8000000 in
theorem nameP (s : Txt) (w : World) (h0 : 0 < s.length) (hs : s.length ≤ 1000000) : Calls Try.prog 29 #[.string (strT s)] w fun e w' => e = .returned (.int .i64 (nmC s : Int)) ∧ w' = w := by
  have hsz := strT_size s
  have h0n : 0 < (strT s).size := by omega
  have key := str_get h0 h0n
  have hE : s = s.getD 0 0 :: s.drop 1 := by have := drop_get h0; rwa [List.drop_zero] at this
  have hcb := (s.getD 0 0).toNat_lt
  have GL := hid (fun (c : Nat) (hc : c < 256) (u : World) => letterP c u hc)
  have GD := hid (fun (c : Nat) (hc : c < 256) (u : World) => digitP c u hc)
  obtain ⟨R, hR⟩ : ∃ R, Hid (nmC s = R) := ⟨_, hid rfl⟩
  rw [hR.out]
  have GL1 := hid (GL.out (s.getD 0 0).toNat hcb w)
  cases hlt : letB (s.getD 0 0).toNat with
  | false =>
    rw [hlt] at GL1
    have hr : R = 0 := by rw [← hR.out, hE, nmC, hlt, if_neg (by decide)]
    subst hr
    clear hR hE hlt GL GD
    generalize (s.getD 0 0).toNat = c at *
    go_enter Try.func29, Try.ntmps29
    go_wp2_with (go_at_call 35; refine GL1.out.mono ?_; clear GL1; rintro e w2 ⟨rfl, hc2⟩; subst w2)
    go_ret
    exact ⟨rfl, rfl⟩
  | true =>
    rw [hlt] at GL1
    have hr : Hid (R = if 16 < namL s then 0 else namL s) := hid (by
      rw [← hR.out]
      conv => lhs; rw [hE]
      rw [nmC, hlt, if_pos rfl, ← hE])
    have hst : Hid (1 + namL (s.drop 1) = namL s) := hid (by
      conv => rhs; rw [hE]
      rw [namL, hlt, Bool.true_or, if_pos rfl])
    clear hR hE hlt
    generalize (s.getD 0 0).toNat = c at *
    go_enter Try.func29, Try.ntmps29
    go_wp2_with (go_at_call 35; refine GL1.out.mono ?_; clear GL1; rintro e w2 ⟨rfl, hc2⟩; subst w2)
    go_loopw [3] (fun x wr => ∃ p : Nat, 1 ≤ p ∧ p ≤ s.length ∧ x = .int .i64 (p : Int) ∧ Hid (p + namL (s.drop p) = namL s) ∧ wr = w) (fun x _ => s.length - (intOf x).toNat)
    case atStart => exact ⟨1, Nat.le_refl _, by omega, rfl, hst, rfl⟩
    case round =>
      obtain ⟨p, hap, hp, rfl, hI, rfl⟩ := hrel
      by_cases hpt : p < s.length
      · have hptz : (p : Int) < (s.length : Int) := by omega
        have hptn : p < (strT s).size := by omega
        have key2 := str_get hpt hptn
        have hE2 := hid (drop_get hpt)
        have hcb2 := (s.getD p 0).toNat_lt
        have GL2 := hid (GL.out (s.getD p 0).toNat hcb2 wr)
        have GD2 := hid (GD.out (s.getD p 0).toNat hcb2 wr)
        have hI2 := hI.out
        rw [hE2.out, namL] at hI2
        generalize s.getD p 0 = c2 at *
        cases hl2 : letB c2.toNat with
        | true =>
          rw [hl2] at GL2
          have hI3 : Hid (p + 1 + namL (s.drop (p + 1)) = namL s) := hid (by rw [hl2, Bool.true_or, if_pos rfl] at hI2; omega)
          clear hI2 hE2 hl2 hI GD2 hst
          generalize c2.toNat = cn at *
          go_wp2_with (go_at_call 35; refine GL2.out.mono ?_; clear GL2; rintro e w2 ⟨rfl, hc2⟩; subst w2)
          go_roundw
          case rel => exact ⟨p + 1, by omega, by omega, by go_num, hI3, by first | rfl | trivial⟩
          case measure => simp [intOf]; omega
        | false =>
          rw [hl2] at GL2
          cases hd : digB c2.toNat with
          | true =>
            rw [hd] at GD2
            have hI3 : Hid (p + 1 + namL (s.drop (p + 1)) = namL s) := hid (by rw [hd, Bool.or_true, if_pos rfl] at hI2; omega)
            clear hI2 hE2 hl2 hI hd hst
            generalize c2.toNat = cn at *
            go_wp2_with (first
              | (go_at_call 35; refine GL2.out.mono ?_; clear GL2; rintro e w2 ⟨rfl, hc2⟩; subst w2)
              | (go_at_call 36; refine GD2.out.mono ?_; clear GD2; rintro e w2 ⟨rfl, hc2⟩; subst w2))
            go_roundw
            case rel => exact ⟨p + 1, by omega, by omega, by go_num, hI3, by first | rfl | trivial⟩
            case measure => simp [intOf]; omega
          | false =>
            rw [hd] at GD2
            have hI3 : Hid (p = namL s) := hid (by rw [hl2, hd, Bool.or_false, if_neg (by decide)] at hI2; omega)
            have hr2 : Hid (R = if 16 < p then 0 else p) := hid (by rw [hr.out, ← hI3.out])
            clear hI2 hE2 hl2 hI hd hr hI3 hst
            generalize c2.toNat = cn at *
            by_cases h16 : 16 < p
            · have h16z : (16 : Int) < (p : Int) := by omega
              go_wp2_with (first
                | (go_at_call 35; refine GL2.out.mono ?_; clear GL2; rintro e w2 ⟨rfl, hc2⟩; subst w2)
                | (go_at_call 36; refine GD2.out.mono ?_; clear GD2; rintro e w2 ⟨rfl, hc2⟩; subst w2))
              go_ret
              exact ⟨by rw [hr2.out, if_pos h16]; rfl, rfl⟩
            · have h16z : ¬ (16 : Int) < (p : Int) := by omega
              go_wp2_with (first
                | (go_at_call 35; refine GL2.out.mono ?_; clear GL2; rintro e w2 ⟨rfl, hc2⟩; subst w2)
                | (go_at_call 36; refine GD2.out.mono ?_; clear GD2; rintro e w2 ⟨rfl, hc2⟩; subst w2))
              go_ret
              exact ⟨by rw [hr2.out, if_neg h16]; rfl, rfl⟩
      · have hptz : ¬ (p : Int) < (s.length : Int) := by omega
        have hI3 : p = namL s := by have := hI.out; rw [List.drop_eq_nil_of_le (by omega)] at this; exact this
        have hr2 : Hid (R = if 16 < p then 0 else p) := hid (by rw [hr.out, ← hI3])
        clear hr hI3 hI hst
        by_cases h16 : 16 < p
        · have h16z : (16 : Int) < (p : Int) := by omega
          go_wp2
          go_ret
          exact ⟨by rw [hr2.out, if_pos h16]; rfl, rfl⟩
        · have h16z : ¬ (16 : Int) < (p : Int) := by omega
          go_wp2
          go_ret
          exact ⟨by rw [hr2.out, if_neg h16]; rfl, rfl⟩

/-- what rule answers, from a place on -/
def rlI (tk : Bool) (s : Txt) (p : Nat) : Nat := match rgL tk (s.drop p) with
  | none => 0
  | some n => p + n
set_option maxRecDepth 20000 in
set_option maxHeartbeats 8000000 in
theorem ruleP (s : Txt) (w : World) (h0 : 0 < s.length) (hs : s.length ≤ 1000000) : Calls Try.prog 30 #[.string (strT s)] w fun e w' => e = .returned (.int .i64 (rlC s : Int)) ∧ w' = w := by
  have hsz := strT_size s
  have h0n : 0 < (strT s).size := by omega
  have key := str_get h0 h0n
  have hE : s = s.getD 0 0 :: s.drop 1 := by have := drop_get h0; rwa [List.drop_zero] at this
  have hcb := (s.getD 0 0).toNat_lt
  obtain ⟨R, hR⟩ : ∃ R, Hid (rlC s = R) := ⟨_, hid rfl⟩
  rw [hR.out]
  by_cases h47 : (s.getD 0 0).toNat = 47
  · have hr : Hid (R = rlI false s 1) := hid (by
      rw [← hR.out]
      conv => lhs; rw [hE]
      rw [rlC, if_pos h47]
      unfold rlI
      cases e2 : rgL false (s.drop 1) with
      | none => rfl
      | some n => show n + 1 = 1 + n; omega)
    clear hR hE
    generalize (s.getD 0 0).toNat = c at *
    subst h47
    go_enter Try.func30, Try.ntmps30
    go_wp2
    go_loopw [3, 4] (fun f x wr => ∃ (p : Nat) (tk : Bool), 1 ≤ p ∧ p ≤ s.length ∧ x = .int .i64 (p : Int) ∧ f = .bool tk ∧ Hid (R = rlI tk s p) ∧ wr = w) (fun _ x _ => s.length - (intOf x).toNat)
    case atStart => exact ⟨1, false, Nat.le_refl _, by omega, rfl, rfl, hr, rfl⟩
    case round =>
      obtain ⟨p, tk, hap, hp, rfl, rfl, hI, rfl⟩ := hrel
      by_cases hpt : p < s.length
      · have hptz : (p : Int) < (s.length : Int) := by omega
        have hptn : p < (strT s).size := by omega
        have key2 := str_get hpt hptn
        have hcb2 := (s.getD p 0).toNat_lt
        have hI2 := hI.out
        unfold rlI at hI2
        rw [drop_get hpt, rgL] at hI2
        generalize s.getD p 0 = c2 at *
        by_cases h10 : c2.toNat = 10
        · have hr2 : Hid (R = 0) := hid (by rw [if_pos h10] at hI2; exact hI2)
          generalize c2.toNat = cn at *
          subst h10
          clear hI hr hI2
          go_wp2
          go_ret
          exact ⟨by rw [hr2.out]; rfl, rfl⟩
        rw [if_neg h10] at hI2
        by_cases h47 : c2.toNat = 47 ∧ tk = false
        · have hr2 : Hid (R = p + 1) := hid (by rw [if_pos h47] at hI2; exact hI2)
          obtain ⟨h47, rfl⟩ := h47
          generalize c2.toNat = cn at *
          subst h47
          clear hI hr hI2 h10
          go_wp2
          go_ret
          exact ⟨by rw [hr2.out]; rfl, rfl⟩
        rw [if_neg h47] at hI2
        have hI3 : Hid (R = rlI (c2.toNat == 92 && !tk) s (p + 1)) := hid (by
          rw [hI2]
          unfold rlI
          cases e2 : rgL (c2.toNat == 92 && !tk) (s.drop (p + 1)) with
          | none => rfl
          | some n => show p + (n + 1) = p + 1 + n; omega)
        clear hI2
        generalize c2.toNat = cn at *
        have z10 : ((cn : Int) != 10) = true := by rw [bne_iff_ne]; omega
        have hI4 : Hid (∀ tk', tk' = (cn == 92 && !tk) → R = rlI tk' s (p + 1)) := hid (fun tk' h => by rw [h]; exact hI3.out)
        clear hI3 hI hr
        cases tk with
        | true =>
          have hI5 := hid (hI4.out false (by cases cn == 92 <;> rfl))
          clear hI4
          by_cases h47' : cn = 47
          · subst h47'
            go_wp2
            go_roundw
            case rel => exact ⟨p + 1, false, by omega, by omega, by go_num, rfl, hI5, by first | rfl | trivial⟩
            case measure => simp [intOf]; omega
          · have z47 : ((cn : Int) == 47) = false := by rw [beq_eq_false_iff_ne]; omega
            by_cases h92 : cn = 92
            · subst h92
              go_wp2
              go_roundw
              case rel => exact ⟨p + 1, false, by omega, by omega, by go_num, rfl, hI5, by first | rfl | trivial⟩
              case measure => simp [intOf]; omega
            · have z92 : ((cn : Int) == 92) = false := by rw [beq_eq_false_iff_ne]; omega
              go_wp2
              go_roundw
              case rel => exact ⟨p + 1, false, by omega, by omega, by go_num, rfl, hI5, by first | rfl | trivial⟩
              case measure => simp [intOf]; omega
        | false =>
          have h47n : ¬ cn = 47 := fun h => h47 ⟨h, rfl⟩
          have z47 : ((cn : Int) == 47) = false := by rw [beq_eq_false_iff_ne]; omega
          by_cases h92 : cn = 92
          · have hI5 := hid (hI4.out true (by rw [h92]; rfl))
            clear hI4
            subst h92
            go_wp2
            go_roundw
            case rel => exact ⟨p + 1, true, by omega, by omega, by go_num, rfl, hI5, by first | rfl | trivial⟩
            case measure => simp [intOf]; omega
          · have hI5 := hid (hI4.out false (by rw [beq_eq_false_iff_ne.2 h92]; rfl))
            clear hI4
            have z92 : ((cn : Int) == 92) = false := by rw [beq_eq_false_iff_ne]; omega
            go_wp2
            go_roundw
            case rel => exact ⟨p + 1, false, by omega, by omega, by go_num, rfl, hI5, by first | rfl | trivial⟩
            case measure => simp [intOf]; omega
      · have hptz : ¬ (p : Int) < (s.length : Int) := by omega
        have hr20 : R = 0 := by have := hI.out; unfold rlI at this; rw [List.drop_eq_nil_of_le (by omega)] at this; cases tk <;> exact this
        have hr2 := hid hr20
        clear hI hr hr20
        go_wp2
        go_ret
        exact ⟨by rw [hr2.out]; rfl, rfl⟩
  · have hr : R = 0 := by
      rw [← hR.out, hE, rlC, if_neg h47]
    subst hr
    generalize (s.getD 0 0).toNat = c at *
    have z5 : ((c : Int) != 47) = true := by rw [bne_iff_ne]; omega
    clear hE hR
    go_enter Try.func30, Try.ntmps30
    go_wp2
    go_ret
    exact ⟨rfl, rfl⟩

end Go.Proofs.Ytkpakpfjgeannaa
