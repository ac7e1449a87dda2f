/- DfaMet's walk. -/
import Derived.Test.YtlpbeieljjgbaaaGreatDoorJ42
namespace Go.Proofs.YtlpbeieljjgbaaaGreatDoor
open Go.RowKit

theorem metF_cons (m : Nat) (k : Int) (l : List Int) {r : Nat} (h : metF m (k :: l) = some r) : ¬ (m : Int) < k ∧ metF (if k = (m : Int) then m + 1 else m) l = some r := by
  rw [metF] at h
  split at h
  · cases h
  · rename_i hk
    exact ⟨hk, h⟩
/-- the law's count, in letters -/
structure MetQ (n : Nat) (N : List (List Int)) (mt : Nat → Nat) : Prop where
  len : N.length = n
  zero : mt 0 = 1
  on : ∀ i, i < n → i < mt i
  row : ∀ i, i < n → (N.getD i []).length = 256
  step : ∀ i, i < n → metF (mt i) (N.getD i []) = some (mt (i + 1))
  few : ∀ i, i ≤ n → mt i ≤ 240
  fin : mt n = n
  n240 : n ≤ 240
theorem metQ_of {ts : List Rx} {all : List Sp} {n : Nat} (h : Blt ts all n) : MetQ n (nxtK all n) (fun i => (stsK all i).length) where
  len := nxtK_len all n
  zero := by simp [stsK]
  on := h.to.on
  row := fun i hi => (nxtK_row all hi).1
  step := fun i hi => by
    have h1 := mets_is all h.to.on i (Nat.le_of_lt hi)
    have h2 := mets_is all h.to.on (i + 1) hi
    rw [metsF, h1] at h2
    simp only [Option.bind_some] at h2
    rw [if_neg (by have := h.to.on i hi; omega)] at h2
    exact h2
  few := h.to.few
  fin := h.to.fin
  n240 := h.to.le
set_option maxRecDepth 20000 in
set_option maxHeartbeats 4000000 in
theorem metWalk (v : Value) (L : List (List Cel)) (w : World) (hl : L.length * 24 ≤ 140737488351232) (hA : Celss w v L) (hT : Tab w) :
    Calls Tryz.prog 6 #[v] w fun e w' => e = .returned (.bool true) ∧ Below w.heap.size w w' := by
  have GW := hid (wakes8 w hT)
  have GH := hid (fun u (hu : Below w.heap.size w u) => heavyC v L u (by omega) (hA.keep hu))
  obtain ⟨va, vc, rfl⟩ : ∃ a c, v = .slice a L.length c := by obtain ⟨a, c, e, _⟩ := hA; exact ⟨a, c, e⟩
  cases hh : heavyB L with
  | true =>
    rw [hh] at GH
    clear hA hT hh
    go_enter Tryz.func6, Tryz.ntmps6
    go_wp2_with (first
      | (go_at_call 8; refine GW.out.mono ?_; rintro e w1 ⟨rfl, hb1⟩)
      | (go_at_call 14; refine (GH.out w1 hb1).mono ?_; rintro e u ⟨rfl, hu⟩; subst u))
    go_ret
    exact ⟨rfl, hb1⟩
  | false =>
    rw [hh] at GH
    obtain ⟨hL20, hl40⟩ := light hh
    have GR := hid (fun u (hu : Below w.heap.size w u) => rightsC _ L u (by omega) (hA.keep hu))
    cases hr : (L.all rightB && decide (L.length ≤ 16)) with
    | false =>
      rw [hr] at GR
      clear hA hT hh hr hl40
      go_enter Tryz.func6, Tryz.ntmps6
      go_wp2_with (first
        | (go_at_call 8; refine GW.out.mono ?_; rintro e w1 ⟨rfl, hb1⟩)
        | (go_at_call 14; refine (GH.out w1 hb1).mono ?_; rintro e u ⟨rfl, hu⟩; subst u)
        | (go_at_call 19; refine (GR.out w1 hb1).mono ?_; rintro e u ⟨rfl, hu⟩; subst u))
      go_ret
      exact ⟨rfl, hb1⟩
    | true =>
      rw [hr] at GR
      rw [Bool.and_eq_true, decide_eq_true_iff] at hr
      obtain ⟨ts, hts, hok⟩ := trees_of hr.1
      have h16 : ts.length ≤ 16 := by have := hr.2; rw [hts, List.length_map] at this; exact this
      have GC := hid (fun u (hu : Below w.heap.size w u) => copiedC _ L u (hA.keep hu) (by omega) (fun l h => by have := hl40 l h; omega))
      have GB := hid (fun v' u (hc : Celss u v' L) (hu : Below w.heap.size w u) => buildGood v' ts u (by rw [← hts]; exact hc) h16 hok (hT.keep hu))
      have hans := hid (fun u nv av er (h : BldR ts u nv av er) => blt_of hok h)
      have hshC : Hid (∀ u v', Celss u v' L → ∃ a c, v' = .slice a L.length c) := hid (fun u v' h => by obtain ⟨a, c, e, _⟩ := h; exact ⟨a, c, e⟩)
      clear hA hT hh hr hl40 hts hok
      go_enter Tryz.func6, Tryz.ntmps6
      go_wp2_with (first
        | (go_at_call 8; refine GW.out.mono ?_; rintro e w1 ⟨rfl, hb1⟩)
        | (go_at_call 14; refine (GH.out w1 hb1).mono ?_; rintro e u ⟨rfl, hu⟩; subst u)
        | (go_at_call 19; refine (GR.out w1 hb1).mono ?_; rintro e u ⟨rfl, hu⟩; subst u)
        | (go_at_call 16; refine (GC.out w1 hb1).mono ?_; rintro e w2 ⟨v2, rfl, hC2, hb2⟩; obtain ⟨a2, c2, rfl⟩ := hshC.out _ _ hC2; have hb02 := hid (bl_step hb1 hb2); have hC2 := hid hC2)
        | (go_at_call 15; refine (GB.out _ w2 hC2.out hb02.out).mono ?_; rintro e w3 ⟨nv, av, er, rfl, hR, hb3⟩; have hR := hid hR; have hb03 := hid (bl_step hb02.out hb3); obtain ⟨na, nn, nc, rfl⟩ : (∃ a n c, nv = .slice a n c) := (by rcases hans.out _ _ _ _ hR.out with ⟨_, e1, _⟩ | ⟨_, all, n, _, ⟨a, c, e1, _⟩, _⟩; exact ⟨_, _, _, e1⟩; exact ⟨_, _, _, e1⟩); obtain ⟨aa, an, ac, rfl⟩ : (∃ a n c, av = .slice a n c) := (by rcases hans.out _ _ _ _ hR.out with ⟨_, _, e1⟩ | ⟨_, all, n, _, _, ⟨a, c, e1, _⟩⟩; exact ⟨_, _, _, e1⟩; exact ⟨_, _, _, e1⟩)))
      · rcases hans.out _ _ _ _ hR.out with ⟨h3, _⟩ | ⟨h3, _⟩
        · subst h3
          go_ret
          exact ⟨rfl, bl_step hb03.out (al' w3 _)⟩
        · subst h3
          rename_i hx
          first | exact absurd hx (by decide) | exact absurd (by decide) hx | simp at hx
      · rcases hans.out _ _ _ _ hR.out with ⟨h3, _⟩ | ⟨h3, all, n, hB, hN, hAc⟩
        · subst h3
          rename_i hx
          first | exact absurd hx (by decide) | exact absurd (by decide) hx | simp at hx
        have hQ := metQ_of hB
        clear h3 hB hAc GW GH GR GC GB hans hshC hR
        generalize nxtK all n = N at hN hQ
        generalize (fun i => (stsK all i).length) = mt at hQ
        obtain ⟨na', nc', e1, _⟩ := id hN
        injection e1 with e1 e2 e3
        subst e1 e2 e3
        have hal := hid (al' w3 (.cells #[.slice na N.length nc, .slice aa an ac] 25))
        have hbk := heap_new w3 (.cells #[.slice na N.length nc, .slice aa an ac] 25)
        have hN' := hid (fun j (hj : j < N.length) => numss_get (hN.keep hal.out) hj)
        obtain ⟨d0, d1, -⟩ := cells2m hbk
        have hend := hid (bl_step hb03.out hal.out)
        clear hN hbk
        have hlen := hQ.len
        have hn240 := hQ.n240
        subst hlen
        have hQ := hid hQ
        generalize w3.alloc (.cells #[.slice na N.length nc, .slice aa an ac] 25) = W at *
        go_loop [5, 31] (fun m i => ∃ k : Nat, k ≤ N.length ∧ i = .int .i64 k ∧ m = .int .i64 (mt k)) (fun _ i => N.length - (intOf i).toNat)
        case atStart => exact ⟨0, Nat.zero_le _, rfl, by rw [hQ.out.zero]; rfl⟩
        case round =>
          obtain ⟨k, hk, rfl, rfl⟩ := hrel
          have hmk := hQ.out.few k hk
          by_cases hlt : k < N.length
          · have hltz : (k : Int) < (N.length : Int) := by omega
            have hon := hQ.out.on k hlt
            have honz : ¬ (mt k : Int) ≤ (k : Int) := by omega
            obtain ⟨b1, o1, x, rfl, hb1', hx, hNx⟩ := hN'.out k hlt
            obtain ⟨xa, xc, hxe⟩ : ∃ a c, x = .slice a (N.getD k []).length c := by obtain ⟨a, c, e, _⟩ := hNx; exact ⟨a, c, e⟩
            subst hxe
            have hrow := hid (nums_cell hNx)
            have hr256 := hQ.out.row k hlt
            have hst := hid (hQ.out.step k hlt)
            clear hNx
            generalize N.getD k [] = rw at *
            rw [hr256] at hx hrow
            have hr256 := hid hr256
            generalize hmv : mt (k + 1) = m1 at hst
            have hmv := hid hmv
            go_wp2
            go_loop [5, 43] (fun m i => ∃ c q : Nat, c ≤ 256 ∧ i = .int .i64 c ∧ m = .int .i64 q ∧ q ≤ 240 + c ∧ Hid (metF q (rw.drop c) = some m1)) (fun _ i => 256 - (intOf i).toNat)
            case atStart => exact ⟨0, mt k, Nat.zero_le _, rfl, rfl, by omega, hst⟩
            case round =>
              obtain ⟨c, q, hc, rfl, rfl, hq, hin⟩ := hrel
              by_cases hcl : c < 256
              · have hcz : (c : Int) < 256 := by omega
                obtain ⟨b3, o3, rfl, hb3, h3⟩ := hrow.out c hcl
                have hcr : c < rw.length := by rw [hr256.out]; exact hcl
                have hdr : rw.drop c = rw.getD c 0 :: rw.drop (c + 1) := by
                  rw [List.drop_eq_getElem_cons hcr, List.getD_eq_getElem?_getD, List.getElem?_eq_getElem hcr]
                  rfl
                have hin' := hin.out
                rw [hdr] at hin'
                obtain ⟨hng, hnx⟩ := metF_cons _ _ _ hin'
                clear hdr hin' hin
                generalize rw.getD c 0 = y at h3 hng hnx
                by_cases hy : y = (q : Int)
                · rw [if_pos hy] at hnx
                  have hnx := hid hnx
                  subst hy
                  go_wp2
                  go_round
                  case rel => exact ⟨c + 1, q + 1, by omega, by go_num, by go_num, by omega, hnx⟩
                  case measure => simp [intOf]; omega
                · rw [if_neg hy] at hnx
                  have hnx := hid hnx
                  have hyb : (y == (q : Int)) = false := beq_eq_false_iff_ne.2 hy
                  go_wp2
                  go_round
                  case rel => exact ⟨c + 1, q, by omega, by go_num, rfl, by omega, hnx⟩
                  case measure => simp [intOf]; omega
              · have hcz : ¬ (c : Int) < 256 := by omega
                have hqm : Hid (q = m1) := hid (by
                  have := hin.out
                  rw [List.drop_eq_nil_of_le (by rw [hr256.out]; omega)] at this
                  simpa [metF] using this)
                clear hin
                go_wp2
                refine ⟨⟨_, _, _, _, _, ⟨k + 1, by omega, ?_, ?_⟩, rfl, rfl, rfl, rfl, rfl⟩, by simp [intOf]; omega⟩
                · go_num
                · rw [hmv.out, ← hqm.out]
          · have hltz : ¬ (k : Int) < (N.length : Int) := by omega
            obtain rfl : k = N.length := by omega
            have hf := hQ.out.fin
            go_wp2
            go_ret
            exact ⟨by simp, hend.out⟩

end Go.Proofs.YtlpbeieljjgbaaaGreatDoor
