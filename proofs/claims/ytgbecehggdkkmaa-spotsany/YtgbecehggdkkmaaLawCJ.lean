/- SpotsAny's walk. -/
import Derived.Test.YtgbecehggdkkmaaLawBJ
import Derived.Test.YtgbecehggdkkmaaOpenSJ
namespace Go.Proofs.Ytgbecehggdkkmaa
open Go.RowKit

set_option maxRecDepth 20000 in
theorem rfitsC (sv fv lv gv : Value) (p : Sp) (s : Txt) (w : World) (h : SpV w sv fv lv gv p) (h1 : p.sets.length ≤ 60) (h2 : p.follow.length ≤ 60) (h3 : p.first.length ≤ 100) (h4 : p.last.length ≤ 100) (h5 : ∀ l ∈ p.follow, l.length ≤ 100) (hs : s.length ≤ 1000) :
    Calls Try.prog 14 #[.agg #[sv, .bool p.null, fv, lv, gv], .string (strT s)] w fun e w' => e = .returned (.bool (fitB p s)) ∧ Below w.heap.size w w' := by
  cases hb : (decide (p.follow.length = p.sets.length) && insB p.first p.sets.length && insB p.last p.sets.length) with
  | false =>
    have hf : fitB p s = false := by unfold fitB goodB; rw [hb]; rfl
    rw [hf]
    exact rfitsBad sv fv lv gv p s w h h1 h2 h3 h4 hb
  | true =>
    simp only [Bool.and_eq_true, decide_eq_true_eq] at hb
    exact rfitsGood sv fv lv gv p s w h h1 hb.1.1 h3 h4 h5 hs hb.1.2 hb.2

set_option maxRecDepth 20000 in
set_option maxHeartbeats 4000000 in
theorem anyWalk (v : Value) (s : ByteArray) (w : World) (h : ∃ (p : Sp) (sv fv lv gv : Value), v = .agg #[sv, .bool p.null, fv, lv, gv] ∧ SpV w sv fv lv gv p ∧ p.sets.length ≤ 9223372036854775807 ∧ p.first.length ≤ 9223372036854775807 ∧ p.last.length ≤ 9223372036854775807 ∧ p.follow.length ≤ 9223372036854775807 ∧ ∀ l ∈ p.follow, l.length ≤ 9223372036854775807) :
    Calls Try.prog 5 #[v, .string s] w fun e w' => e = .returned (.bool true) ∧ Below w.heap.size w w' := by
  rw [← strT_list s]
  generalize s.data.toList = S
  obtain ⟨p, sv, fv, lv, gv, rfl, h, m1, m2, m3, m4, m5⟩ := h
  have hsz := strT_size S
  have hV := hid (fun u (hu : Below w.heap.size w u) => h.keep hu)
  have GA := hid (fun (h1 : p.sets.length ≤ 60) (h2 : p.follow.length ≤ 60) (h3 : p.first.length ≤ 100) (h4 : p.last.length ≤ 100) (h5 : ∀ l ∈ p.follow, l.length ≤ 100) (hs : S.length ≤ 100) u (hu : Below w.heap.size w u) => sfitsC sv fv lv gv p S u (h.keep hu) h1 h2 h3 h4 h5 (by omega))
  have GB := hid (fun (h1 : p.sets.length ≤ 60) (h2 : p.follow.length ≤ 60) (h3 : p.first.length ≤ 100) (h4 : p.last.length ≤ 100) (h5 : ∀ l ∈ p.follow, l.length ≤ 100) (hs : S.length ≤ 100) u (hu : Below w.heap.size w u) => rfitsC sv fv lv gv p S u (h.keep hu) h1 h2 h3 h4 h5 (by omega))
  obtain ⟨sa, sc, rfl⟩ : ∃ a c, sv = .slice a p.sets.length c := by obtain ⟨a, c, e, _⟩ := h.sets; exact ⟨a, c, e⟩
  obtain ⟨ga, gc, rfl⟩ : ∃ a c, gv = .slice a p.follow.length c := by obtain ⟨a, c, e, _⟩ := h.follow; exact ⟨a, c, e⟩
  obtain ⟨fa, fc, rfl⟩ : ∃ a c, fv = .slice a p.first.length c := by obtain ⟨a, c, e, _⟩ := h.first; exact ⟨a, c, e⟩
  obtain ⟨la, lc, rfl⟩ : ∃ a c, lv = .slice a p.last.length c := by obtain ⟨a, c, e, _⟩ := h.last; exact ⟨a, c, e⟩
  have hG := hid h.follow
  have hal := hid (al' w (.cells #[.slice sa p.sets.length sc, .bool p.null, .slice fa p.first.length fc, .slice la p.last.length lc, .slice ga p.follow.length gc] 27))
  have hC0 := hid (heap_new w (.cells #[.slice sa p.sets.length sc, .bool p.null, .slice fa p.first.length fc, .slice la p.last.length lc, .slice ga p.follow.length gc] 27))
  have GW := hid (wakes7 (w.alloc (.cells #[.slice sa p.sets.length sc, .bool p.null, .slice fa p.first.length fc, .slice la p.last.length lc, .slice ga p.follow.length gc] 27)))
  have hm5 : Hid (∀ k, (p.follow.getD k []).length ≤ 9223372036854775807) := hid (fun k => by
    rw [List.getD_eq_getElem?_getD]
    by_cases hk : k < p.follow.length
    · rw [List.getElem?_eq_getElem hk]; exact m5 _ (List.getElem_mem hk)
    · rw [List.getElem?_eq_none (by omega)]; simp)
  have hall : Hid ((∀ k, k < p.follow.length → (p.follow.getD k []).length ≤ 100) → ∀ l ∈ p.follow, l.length ≤ 100) := hid (fun hh l hl => by
    obtain ⟨j, hj, rfl⟩ := List.getElem_of_mem hl
    have := hh j hj
    rwa [List.getD_eq_getElem?_getD, List.getElem?_eq_getElem hj] at this)
  clear h m5
  by_cases c0 : 60 < p.sets.length
  · have z0 : (60 : Int) < (p.sets.length : Int) := by omega
    go_enter Try.func5, Try.ntmps5
    go_wp2_with (go_at_call 9; refine GW.out.mono ?_; rintro e w1 ⟨rfl, hb1⟩; obtain ⟨p0, p1, p2, p3, p4, -⟩ := cells5s (hs_keep hC0.out hb1))
    go_ret
    exact ⟨rfl, bl_step hal.out hb1⟩
  · have z0 : ¬ (60 : Int) < (p.sets.length : Int) := by omega
    by_cases c1 : 60 < p.follow.length
    · have z1 : (60 : Int) < (p.follow.length : Int) := by omega
      go_enter Try.func5, Try.ntmps5
      go_wp2_with (go_at_call 9; refine GW.out.mono ?_; rintro e w1 ⟨rfl, hb1⟩; obtain ⟨p0, p1, p2, p3, p4, -⟩ := cells5s (hs_keep hC0.out hb1))
      go_ret
      exact ⟨rfl, bl_step hal.out hb1⟩
    · have z1 : ¬ (60 : Int) < (p.follow.length : Int) := by omega
      by_cases c2 : 100 < S.length
      · have z2 : (100 : Int) < (S.length : Int) := by omega
        go_enter Try.func5, Try.ntmps5
        go_wp2_with (go_at_call 9; refine GW.out.mono ?_; rintro e w1 ⟨rfl, hb1⟩; obtain ⟨p0, p1, p2, p3, p4, -⟩ := cells5s (hs_keep hC0.out hb1))
        go_ret
        exact ⟨rfl, bl_step hal.out hb1⟩
      · have z2 : ¬ (100 : Int) < (S.length : Int) := by omega
        by_cases c3 : 100 < p.first.length
        · have z3 : (100 : Int) < (p.first.length : Int) := by omega
          go_enter Try.func5, Try.ntmps5
          go_wp2_with (go_at_call 9; refine GW.out.mono ?_; rintro e w1 ⟨rfl, hb1⟩; obtain ⟨p0, p1, p2, p3, p4, -⟩ := cells5s (hs_keep hC0.out hb1))
          go_ret
          exact ⟨rfl, bl_step hal.out hb1⟩
        · have z3 : ¬ (100 : Int) < (p.first.length : Int) := by omega
          by_cases c4 : 100 < p.last.length
          · have z4 : (100 : Int) < (p.last.length : Int) := by omega
            go_enter Try.func5, Try.ntmps5
            go_wp2_with (go_at_call 9; refine GW.out.mono ?_; rintro e w1 ⟨rfl, hb1⟩; obtain ⟨p0, p1, p2, p3, p4, -⟩ := cells5s (hs_keep hC0.out hb1))
            go_ret
            exact ⟨rfl, bl_step hal.out hb1⟩
          · have z4 : ¬ (100 : Int) < (p.last.length : Int) := by omega
            go_enter Try.func5, Try.ntmps5
            go_wp2_with (go_at_call 9; refine GW.out.mono ?_; rintro e w1 ⟨rfl, hb1⟩; obtain ⟨p0, p1, p2, p3, p4, -⟩ := cells5s (hs_keep hC0.out hb1))
            have hb := hid (bl_step hal.out hb1)
            have hC1 := hid (fun u (hu : Below w1.heap.size w1 u) => cells5s (hs_keep (hs_keep hC0.out hb1) hu))
            go_loopw [38] (fun i wr => ∃ k : Nat, k ≤ p.follow.length ∧ i = .int .i64 k ∧ Hid (∀ j, j < k → (p.follow.getD j []).length ≤ 100) ∧ Hid (wr = w1)) (fun i _ => p.follow.length - (intOf i).toNat)
            case atStart => exact ⟨0, Nat.zero_le _, rfl, hid (fun j hj => absurd hj (Nat.not_lt_zero _)), hid rfl⟩
            case round =>
              obtain ⟨k, hk, rfl, hak, hwr⟩ := hrel
              have hwr' := hwr.out
              subst hwr'
              by_cases hlt : k < p.follow.length
              · have hltz : (k : Int) < (p.follow.length : Int) := by omega
                obtain ⟨gb, go, gx, rfl, hgb, g0', hgx⟩ := numss_at hG.out hlt
                have g0 := keep_cell hb.out g0'
                have hmk := hm5.out k
                have hak1 : Hid ((p.follow.getD k []).length ≤ 100 → ∀ j, j < k + 1 → (p.follow.getD j []).length ≤ 100) := hid (fun hh j hj => by
                  rcases Nat.lt_or_ge j k with h1 | h1
                  · exact hak.out j h1
                  · rw [show j = k by omega]; exact hh)
                generalize p.follow.getD k [] = L at hgx hmk hak1
                obtain ⟨xa, xc, rfl⟩ : ∃ a c, gx = .slice a L.length c := by obtain ⟨a, c, e, _⟩ := hgx; exact ⟨a, c, e⟩
                clear hgx g0'
                by_cases hL : 100 < L.length
                · have hLz : (100 : Int) < (L.length : Int) := by omega
                  go_wp2
                  go_ret
                  exact ⟨rfl, hb.out⟩
                · have hLz : ¬ (100 : Int) < (L.length : Int) := by omega
                  go_wp2
                  go_roundw
                  case rel => exact ⟨k + 1, by omega, by go_num, hid (hak1.out (by omega)), by first | exact hid rfl | exact hid trivial⟩
                  case measure => simp [intOf]; omega
              · have hltz : ¬ (k : Int) < (p.follow.length : Int) := by omega
                obtain rfl : k = p.follow.length := by omega
                have h5 := hall.out hak.out
                have hd : Hid (Below wr.heap.size wr wr.drew) := hid ((Below.refl _ _).drew)
                have GA1 := hid (GA.out (by omega) (by omega) (by omega) (by omega) h5 (by omega))
                have GB1 := hid (GB.out (by omega) (by omega) (by omega) (by omega) h5 (by omega))
                generalize fitB p S = R at GA1 GB1
                clear GA GB h5 hak
                go_wp2_with fail
                go_region_held3 (fun w' => w'.cell? ⟨w.heap.size, 0, none⟩ = some (.slice sa p.sets.length sc) ∧ w'.cell? ⟨w.heap.size, 1, none⟩ = some (.bool p.null) ∧ w'.cell? ⟨w.heap.size, 2, none⟩ = some (.slice fa p.first.length fc) ∧ w'.cell? ⟨w.heap.size, 3, none⟩ = some (.slice la p.last.length lc) ∧ w'.cell? ⟨w.heap.size, 4, none⟩ = some (.slice ga p.follow.length gc))
                  (go_keep)
                  ((first
                    | (go_at_call 12; refine (GA1.out _ (bl_step hb.out hd.out)).mono ?_; rintro e w2 ⟨rfl, hb2⟩; have hb2' := bl_step hd.out hb2; obtain ⟨q0, q1, q2, q3, q4, -⟩ := hC1.out w2 hb2')
                    | (go_at_call 14; refine (GB1.out w2 (bl_step hb.out hb2')).mono ?_; rintro e w3 ⟨rfl, hb3⟩; have hb3' := bl_step hb2' hb3; obtain ⟨r0, r1, r2, r3, r4, -⟩ := hC1.out w3 hb3')))
                all_goals
                  go_wp2
                  go_ret
                  exact ⟨by simp, bl_step hb.out hb3'⟩

end Go.Proofs.Ytgbecehggdkkmaa
