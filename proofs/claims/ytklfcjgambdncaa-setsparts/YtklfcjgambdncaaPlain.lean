/- The contracts of sets.Is, sets.Has, topiaryref04.Has, of long and copied. -/
import Derived.Test.YtklfcjgambdncaaNums
import Derived.Test.YtklfcjgambdncaaShelf
import Derived.Laws.AppendOwnNone
namespace Go.Proofs.Ytklfcjgambdncaa
open Go.RowKit

theorem up_not {l : List Int} {p k : Nat} (hpk : p < k) (hk : k < l.length) (h : l[k] ≤ l[p]) : ¬ Up l := fun hu => by
  have := List.pairwise_iff_getElem.1 hu p k (by omega) hk hpk
  omega
theorem up_snoc {l : List Int} {p k : Nat} (hpk : k = p + 1) (hk : k < l.length) (h : l[p] < l[k]) (hu : Up (l.take k)) : Up (l.take (k + 1)) := by
  rw [List.take_succ_eq_append_getElem hk]
  refine List.pairwise_append.2 ⟨hu, List.pairwise_singleton _ _, fun y hy z hz => ?_⟩
  rw [List.mem_singleton] at hz
  subst hz
  obtain ⟨i, hi, rfl⟩ := List.mem_take_iff_getElem.1 hy
  by_cases e : i = p
  · subst e; exact h
  · have h1 := List.pairwise_iff_getElem.1 hu i p (by rw [List.length_take]; omega) (by rw [List.length_take]; omega) (by omega)
    rw [List.getElem_take, List.getElem_take] at h1
    omega

set_option maxHeartbeats 1000000 in
theorem setsIs (v : Value) (l : List Int) (w : World) (hl : l.length ≤ 1000000) (hA : Nums w v l) :
    Calls Try.prog 14 #[v] w fun e w' => e = .returned (.bool (decide (Up l))) ∧ Below w.heap.size w w' := by
  obtain ⟨aa, ca, rfl, _, _, hA⟩ := hA
  go_enter Try.func14, Try.ntmps14
  go_wp2
  go_loopw [3] (fun i wr => ∃ k : Nat, 1 ≤ k ∧ (k ≤ l.length ∨ k = 1) ∧ i = .int .i64 k ∧ Up (l.take k) ∧ Below w.heap.size w wr) (fun i _ => l.length - (intOf i).toNat)
  case atStart => exact ⟨1, Nat.le_refl _, Or.inr rfl, rfl, by cases l <;> simp [Up], Below.refl _ w⟩
  case round =>
    obtain ⟨k, hk1, hk, rfl, hu, hbl⟩ := hrel
    by_cases hlt : k < l.length
    · have hltz : (k : Int) < (l.length : Int) := by omega
      obtain ⟨p, hp⟩ : ∃ p, k = p + 1 := ⟨k - 1, by omega⟩
      have hpl : p < l.length := by omega
      have hw : IntKind.i64.wrap ((k : Int) - 1) = (p : Int) := by rw [IntKind.wrap_i64]; omega
      obtain ⟨b1, o1, rfl, hb1, hc1⟩ := hA p hpl
      obtain ⟨b2, o2, e2, _, hc2⟩ := hA k hlt
      injection e2 with e2; injection e2 with e2 e3; subst e2; subst e3
      have hd1 := (hbl.cell hb1).trans hc1
      have hd2 := (hbl.cell hb1).trans hc2
      have hpz : (p : Int) < (l.length : Int) := by omega
      clear hc1 hc2 hA
      by_cases h : l[p] < l[k]
      · have hu' := hid (up_snoc hp hlt h hu)
        clear hu hp
        have h' : ¬ l[k] ≤ l[p] := by omega
        generalize l[p] = x at hd1 h h'
        generalize l[k] = y at hd2 h h'
        go_wp2_with fail
        go_quiet (fail)
        go_wp2
        go_roundw
        case rel => exact ⟨k + 1, by omega, by omega, by go_num, hu'.out, belowN hbl⟩
        case measure => simp [intOf]; omega
      · have h' : l[k] ≤ l[p] := by omega
        have hres : decide (Up l) = false := decide_eq_false (up_not (by omega) hlt h')
        clear hu h hp
        generalize l[p] = x at hd1 h'
        generalize l[k] = y at hd2 h'
        go_wp2_with fail
        go_quiet (fail)
        go_wp2
        go_ret
        exact ⟨by first | rfl | (rw [hres]; rfl), belowN hbl⟩
    · have hltz : ¬ (k : Int) < (l.length : Int) := by omega
      have hres : decide (Up l) = true := decide_eq_true (by rwa [List.take_of_length_le (by omega)] at hu)
      clear hA hu
      go_wp2
      go_ret
      exact ⟨by first | rfl | (rw [hres]; rfl), hbl⟩

theorem setsHas (v : Value) (l : List Int) (n : Int) (w : World) (hl : l.length ≤ 1000000) (hA : Nums w v l) :
    Calls Try.prog 16 #[v, .int .i64 n] w fun e w' => e = .returned (.bool (l.contains n)) ∧ w' = w := by
  have G : Hid (Calls Try.prog 28 #[v, .int .i64 n] w fun e w' => e = .returned (.bool (l.contains n)) ∧ w' = w) := by
    by_cases h0 : l = []
    · subst h0
      obtain ⟨aa, ca, rfl, _, _, hA⟩ := hA
      exact (Try.slices_Contains_int_empty aa ca n w).mono fun e w' ⟨he, hw⟩ => ⟨he, hw⟩
    · obtain ⟨b, o, cap, rfl, hcap, hb, hc⟩ := hA.at (List.length_pos_iff.2 h0)
      have := Try.slices_Contains_int b o l.length cap l n w (Nat.le_refl _) (by omega) (Nums.getD hc)
      rwa [List.take_of_length_le (Nat.le_refl _)] at this
  generalize l.contains n = r at G ⊢
  clear hA
  go_enter Try.func16, Try.ntmps16
  go_wp2_with (go_at_call 28; refine (G.out).mono ?_; rintro e w1 ⟨rfl, hw1⟩; subst w1)
  go_ret
  exact ⟨rfl, rfl⟩

theorem refHas (v : Value) (l : List Int) (n : Int) (w : World) (hl : l.length ≤ 1000000) (hA : Nums w v l) :
    Calls Try.prog 17 #[v, .int .i64 n] w fun e w' => e = .returned (.bool (l.contains n)) ∧ w' = w := by
  obtain ⟨aa, ca, rfl, _, _, hA⟩ := hA
  obtain ⟨r, hr⟩ : ∃ r, Hid (l.contains n = r) := ⟨_, hid rfl⟩
  rw [show l.contains n = r from hr.out]
  go_enter Try.func17, Try.ntmps17
  go_wp2
  go_loop [5] (fun i => ∃ k : Nat, k ≤ l.length ∧ i = .int .i64 k ∧ ¬ n ∈ l.take k) (fun i => l.length - (intOf i).toNat)
  case atStart => exact ⟨0, Nat.zero_le _, rfl, by simp⟩
  case round =>
    obtain ⟨k, hk, rfl, hn⟩ := hrel
    by_cases hlt : k < l.length
    · have hltz : (k : Int) < (l.length : Int) := by omega
      obtain ⟨b1, o1, rfl, hb1, hc1⟩ := hA k hlt
      clear hA
      by_cases h : l[k] = n
      · have hres : r = true := by rw [← hr.out]; rw [List.contains_iff_mem, ← h]; exact List.getElem_mem hlt
        have hb : (l[k] == n) = true := beq_iff_eq.2 h
        generalize l[k] = x at hc1 hb
        clear h hn
        go_wp2
        go_ret
        exact ⟨by first | rfl | (rw [hres]; rfl), rfl⟩
      · have hn' : ¬ n ∈ l.take (k + 1) := by
          rw [List.take_succ_eq_append_getElem hlt, List.mem_append, List.mem_singleton]
          rintro (e | e)
          · exact hn e
          · exact h e.symm
        have hb : (l[k] == n) = false := beq_eq_false_iff_ne.2 h
        generalize l[k] = x at hc1 hb
        clear h hn
        go_wp2
        go_round
        case rel => exact ⟨k + 1, by omega, by go_num, hn'⟩
        case measure => simp [intOf]; omega
    · have hltz : ¬ (k : Int) < (l.length : Int) := by omega
      have hres : r = false := by
        rw [← hr.out]
        rw [List.take_of_length_le (by omega)] at hn
        rw [← Bool.not_eq_true, List.contains_iff_mem]; exact hn
      clear hA hn
      go_wp2
      go_ret
      exact ⟨by first | rfl | (rw [hres]; rfl), rfl⟩

theorem longC (v : Value) (l : List Int) (w : World) (hl : l.length ≤ 9223372036854775807) (hA : Nums w v l) : Calls Try.prog 9 #[v] w fun e w' => e = .returned (.bool (decide (300 < l.length))) ∧ w' = w := by
  obtain ⟨aa, ca, rfl, _, _, hA⟩ := hA
  clear hA
  by_cases h : 300 < l.length
  · have h' : (300 : Int) < l.length := by omega
    go_enter Try.func9, Try.ntmps9
    go_wp2
    go_ret
    first | exact ⟨rfl, rfl⟩ | exact ⟨by rw [decide_eq_true h, ← decide_eq_true h']; rfl, rfl⟩
  · have h' : ¬ (300 : Int) < l.length := by omega
    go_enter Try.func9, Try.ntmps9
    go_wp2
    go_ret
    first | exact ⟨rfl, rfl⟩ | exact ⟨by rw [decide_eq_false h, ← decide_eq_false h']; rfl, rfl⟩

end Go.Proofs.Ytklfcjgambdncaa
