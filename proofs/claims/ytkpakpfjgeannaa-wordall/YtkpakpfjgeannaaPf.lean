/- Package word: inner; what is cut off, and the words of a text. -/
import Derived.Test.YtkpakpfjgeannaaPe
import Derived.Test.YtkpakpfjgeannaaWa
namespace Go.Proofs.Ytkpakpfjgeannaa
open Go.RowKit Go.Maps

theorem letB_47 : letB 47 = false := by decide
theorem cut_blank {u : Txt} (h : 0 < blkL u) : cutK u = (0, blkL u) := if_pos h
theorem kinds (c : UInt8) : (sgnB c.toNat = true → letB c.toNat = false ∧ c.toNat ≠ 47) := fun h => by
  have h9 : c.toNat = 58 ∨ c.toNat = 59 ∨ c.toNat = 124 ∨ c.toNat = 37 := by
    unfold sgnB at h
    rw [Bool.or_eq_true, Bool.or_eq_true, Bool.or_eq_true, beq_iff_eq, beq_iff_eq, beq_iff_eq, beq_iff_eq] at h
    omega
  generalize c.toNat = n at *
  refine ⟨letB_no (by omega), by omega⟩
theorem namL_pos {c : UInt8} {r : Txt} (h : letB c.toNat = true) : 0 < namL (c :: r) := by rw [namL, h, Bool.true_or, if_pos rfl]; omega
theorem cut_word {u : Txt} (hb : blkL u = 0) : cutK u = match endL u with | none => (0, 0) | some n => (kndW (u.headD 0).toNat, n) := by
  cases u with
  | nil => rfl
  | cons c r =>
    unfold cutK
    rw [hb, if_neg (by decide)]
    show _ = match endL (c :: r) with | none => (0, 0) | some n => (kndW c.toNat, n)
    rw [endL]
    by_cases hs : sgnB c.toNat = true
    · obtain ⟨h1, h2⟩ := kinds c hs
      rw [if_pos hs]
      show _ = (kndW c.toNat, 1)
      have e1 : nmC (c :: r) = 0 := by rw [nmC, h1]; rfl
      have e2 : rlC (c :: r) = 0 := by rw [rlC, if_neg h2]
      have e3 : sgC (c :: r) = 1 := by rw [sgC, hs, if_pos rfl]
      rw [e1, e2, e3, if_neg (by decide), if_neg (by decide), if_pos (by decide)]
      unfold kndW
      rw [h1, if_neg (by decide), if_neg h2]
    · rw [if_neg hs]
      have h3 : sgC (c :: r) = 0 := by rw [sgC, if_neg hs]
      rw [h3]
      cases hl : letB c.toNat with
      | true =>
        rw [if_pos rfl]
        have h47 : c.toNat ≠ 47 := fun h => by rw [h] at hl; cases hl
        have h4 : rlC (c :: r) = 0 := by rw [rlC, if_neg h47]
        rw [h4, nmC, hl, if_pos rfl]
        by_cases h16 : 16 < namL (c :: r)
        · rw [if_pos h16, if_pos h16]
          rfl
        · rw [if_neg h16, if_neg h16, if_pos (namL_pos hl)]
          show _ = (kndW c.toNat, namL (c :: r))
          unfold kndW
          rw [hl, if_pos rfl]
      | false =>
        have e1 : nmC (c :: r) = 0 := by rw [nmC, hl]; rfl
        rw [e1, if_neg (show ¬ (0 : Nat) < 0 by decide), if_neg (show ¬ false = true by decide), rlC]
        by_cases h47 : c.toNat = 47
        · rw [if_pos h47, if_pos h47]
          cases e : rgL false r with
          | none => rfl
          | some m =>
            show (if 0 < m + 1 then (2, m + 1) else _) = (kndW c.toNat, m + 1)
            rw [if_pos (by omega)]
            unfold kndW
            rw [hl, if_neg (by decide), if_pos h47]
        · rw [if_neg h47, if_neg h47]
          rfl
theorem kndW_two {c : Nat} (h : kndW c = 2) : c = 47 := by
  unfold kndW at h
  split at h
  · omega
  · split at h
    · assumption
    · omega
/-- what inner makes of a word's text -/
def innT (k : Nat) (t : Txt) : Txt := if k = 2 then (t.drop 1).take (t.length - 2) else t
theorem wdOf_inn {s : Txt} {a n : Nat} (hl : a + n ≤ s.length) : wdOf s a n = (kndW ((s.drop a).headD 0).toNat, a, innT (kndW ((s.drop a).headD 0).toNat) ((s.drop a).take n)) := by
  have h1 : ((s.drop a).take n).length = n := by rw [List.length_take, List.length_drop]; omega
  unfold wdOf innT
  generalize ((s.drop a).headD 0).toNat = c
  refine Prod.ext rfl (Prod.ext rfl ?_)
  show (if c = 47 then _ else _) = if kndW c = 2 then _ else _
  by_cases h47 : c = 47
  · subst h47
    rw [if_pos rfl, if_pos (by decide), h1, List.drop_take, List.take_take, List.drop_drop, Nat.min_eq_left (by omega)]
  · rw [if_neg h47, if_neg (fun h => h47 (kndW_two h))]
theorem kndW_pos (c : Nat) : kndW c ≠ 0 := by unfold kndW; split <;> (try split) <;> omega
set_option maxRecDepth 20000 in
set_option maxHeartbeats 1000000 in
theorem innerC (k : Nat) (t : Txt) (w : World) (hk : k = 2 → 2 ≤ t.length) (hs : t.length ≤ 1000000) : Calls Try.prog 18 #[.int .i64 (k : Int), .string (strT t)] w fun e w' => e = .returned (.string (strT (innT k t))) ∧ Below w.heap.size w w' := by
  have hsz := strT_size t
  by_cases h2 : k = 2
  · have hl := hk h2
    have e1 : innT k t = (t.drop 1).take (t.length - 2) := if_pos h2
    have hex := strT_ext t 1 (t.length - 2)
    rw [← e1] at hex
    have hlen : (innT k t).length ≤ 1000000 := by rw [e1, List.length_take, List.length_drop]; omega
    have GC := hid (fun u => cloneC (strT (innT k t)) u (by rw [strT_size]; omega))
    obtain ⟨E, hE⟩ : ∃ E, 1 + (t.length - 2) = E := ⟨_, rfl⟩
    rw [hE] at hex
    have hEz : (t.length : Int) - 1 = (E : Int) := by omega
    have hE1 : 1 ≤ E := by omega
    have hE2 : E ≤ (strT t).size := by omega
    have hE1z : (1 : Int) ≤ (E : Int) := by omega
    subst h2
    clear e1 hk
    generalize strT (innT 2 t) = U at *
    go_enter Try.func18, Try.ntmps18
    go_wp2_with (go_at_call 26; refine (GC.out w).mono ?_; clear GC; rintro e w2 ⟨rfl, hc2⟩)
    go_ret
    exact ⟨rfl, hc2⟩
  · have e1 : innT k t = t := if_neg h2
    rw [e1]
    have GC := hid (fun u => cloneC (strT t) u (by rw [strT_size]; omega))
    have z2 : ((k : Int) == 2) = false := by rw [beq_eq_false_iff_ne]; omega
    clear e1 hk
    go_enter Try.func18, Try.ntmps18
    go_wp2_with (go_at_call 26; refine (GC.out w).mono ?_; clear GC; rintro e w2 ⟨rfl, hc2⟩)
    go_ret
    exact ⟨rfl, hc2⟩

end Go.Proofs.Ytkpakpfjgeannaa
