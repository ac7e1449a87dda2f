/- SmallLeast's walk. -/
import Derived.Test.YtjelgphhlcecoaaGreatDoorJSa
import Derived.Test.YtjelgphhlcecoaaGreatDoorJSp
namespace Go.Proofs.YtjelgphhlcecoaaGreatDoor
open Go.RowKit Go.Maps

def hvB (N : List (List Int)) (A : List Int) : Bool := decide (40 < N.length) && rgtB N A
set_option maxRecDepth 20000 in
theorem heavyC9 (nv av : Value) (N : List (List Int)) (A : List Int) (w : World) (hD : Dfa w nv av N A) (hl : N.length ≤ 9223372036854775807) :
    Calls Tryz.prog 9 #[.agg #[nv, av]] w fun e w' => e = .returned (.bool (hvB N A)) ∧ Below w.heap.size w w' := by
  obtain ⟨⟨na, nc, rfl⟩, ⟨aa, ac, rfl⟩⟩ := hD.shape
  obtain ⟨W0, hW0⟩ : ∃ W0, w.alloc (.cells #[.slice na N.length nc, .slice aa A.length ac] 25) = W0 := ⟨_, rfl⟩
  have hb0 : Hid (Below w.heap.size w W0) := by rw [← hW0]; exact hid (al' w _)
  have hz0 : Hid (W0.heap[w.heap.size]? = some (.cells #[.slice na N.length nc, .slice aa A.length ac] 25)) := by rw [← hW0]; exact hid (heap_new w _)
  obtain ⟨c0, c1, -⟩ := cells2m hz0.out
  have GR := hid (refRightA _ _ N A W0 (hD.keep hb0.out) hl)
  unfold hvB
  by_cases h : 40 < N.length
  · have hz : (40 : Int) < (N.length : Int) := by omega
    rw [decide_eq_true h, Bool.true_and]
    generalize rgtB N A = r at *
    clear hD
    go_enter Tryz.func9, Tryz.ntmps9
    go_wp2_with (go_at_call 13; refine GR.out.mono ?_; rintro e w1 ⟨rfl, hb1⟩)
    go_ret
    exact ⟨by simp, bl_step hb0.out hb1⟩
  · have hz : ¬ (40 : Int) < (N.length : Int) := by omega
    rw [decide_eq_false h, Bool.false_and]
    clear hD GR
    go_enter Tryz.func9, Tryz.ntmps9
    go_wp2
    go_ret
    exact ⟨by simp, hb0.out⟩
theorem metF_cons (m : Nat) (k : Int) (l : List Int) {r : Nat} (h : metF m (k :: l) = some r) : ¬ (m : Int) < k ∧ metF (if k = (m : Int) then m + 1 else m) l = some r := by
  rw [metF] at h
  split at h
  · cases h
  · rename_i hk
    exact ⟨hk, h⟩
/-- the law's count, in letters -/
structure MetQ9 (N : List (List Int)) (mt : Nat → Nat) : Prop where
  zero : mt 0 = 1
  on : ∀ i, i < N.length → i < mt i
  row : ∀ i, i < N.length → (N.getD i []).length = 256
  step : ∀ i, i < N.length → metF (mt i) (N.getD i []) = some (mt (i + 1))
  few : ∀ i, i ≤ N.length → mt i ≤ 240
  fin : mt N.length = N.length
  n240 : N.length ≤ 240
theorem metQ9_of {N : List (List Int)} {A : List Int} (hr : RgtA N A) {M : List (List Int)} {B : List Int} (h : MkR N A M B) : ∃ mt, MetQ9 M mt := by
  obtain ⟨al, m, h1, h2, rfl, rfl⟩ := h
  have hR := mk_right h1 hr h2
  have hl : (nxM al N m).length = m := nxM_len al N m
  have hfew : ∀ i, (stM al N i).length ≤ 240 := fun i => Nat.le_trans (stM_met h1 hr i).few hr.few
  refine ⟨fun i => (stM al N i).length, rfl, fun i hi => h2.on i (by rw [← hl]; exact hi), fun i hi => (hR.rgt i hi).1, fun i hi => stM_mets h1 hr (by rw [← hl]; exact hi), fun i _ => hfew i, ?_, hR.few⟩
  show (stM al N (nxM al N m).length).length = (nxM al N m).length
  rw [hl]
  exact h2.all
theorem MkR.apart {N : List (List Int)} {A : List Int} (hr : RgtA N A) {M : List (List Int)} {B : List Int} (h : MkR N A M B) {i k : Nat} (hi : i < M.length) (hk : k < M.length) (e : Alk M B i k) : i = k := by
  obtain ⟨al, m, h1, h2, rfl, rfl⟩ := h
  rw [nxM_len] at hi hk
  exact mk_apart h1 hr h2 hi hk e
theorem MkR.alive {N : List (List Int)} {A : List Int} (hr : RgtA N A) {M : List (List Int)} {B : List Int} (h : MkR N A M B) {i : Nat} (hi : i < M.length) (h0 : 0 < i) : ¬ Alk M B i M.length := by
  obtain ⟨al, m, h1, h2, rfl, rfl⟩ := h
  rw [nxM_len] at hi ⊢
  exact mk_alive h1 hr h2 hi h0
set_option maxRecDepth 20000 in
set_option maxHeartbeats 8000000 in
theorem leastWalk (nv av : Value) (N : List (List Int)) (A : List Int) (w : World) (hNl : N.length ≤ 9223372036854775807) (hD : Dfa w nv av N A) (hAw : AccW A) (hT : Tab w) :
    Calls Tryz.prog 7 #[.agg #[nv, av]] w fun e w' => e = .returned (.bool true) ∧ Below w.heap.size w w' := by
  obtain ⟨⟨na, nc, rfl⟩, ⟨va, vc, rfl⟩⟩ := hD.shape
  obtain ⟨W0, hW0⟩ : ∃ W0, w.alloc (.cells #[.slice na N.length nc, .slice va A.length vc] 25) = W0 := ⟨_, rfl⟩
  have hal : Hid (Below w.heap.size w W0) := by rw [← hW0]; exact hid (al' w _)
  have hbk : Hid (W0.heap[w.heap.size]? = some (.cells #[.slice na N.length nc, .slice va A.length vc] 25)) := by rw [← hW0]; exact hid (heap_new w _)
  have GW := hid (wakes9 W0 (hT.keep hal.out))
  have hD0 := hid (hD.keep hal.out)
  have GH := hid (fun u (hu : Below W0.heap.size W0 u) => heavyC9 _ _ N A u (hD0.out.keep hu) hNl)
  have GR := hid (fun u (hu : Below W0.heap.size W0 u) => refRightA _ _ N A u (hD0.out.keep hu) hNl)
  have hcs : Hid (∀ u, Below W0.heap.size W0 u → u.cell? ⟨w.heap.size, 0, none⟩ = some (.slice na N.length nc) ∧ u.cell? ⟨w.heap.size, 1, none⟩ = some (.slice va A.length vc)) := hid (fun u hu => ⟨keep_cell hu (blk_cell hbk.out rfl), keep_cell hu (blk_cell hbk.out rfl)⟩)
  clear hD hT hbk
  cases hh : hvB N A with
  | true =>
    rw [hh] at GH
    clear hh
    go_enter Tryz.func7, Tryz.ntmps7
    go_wp2_with (first
      | (go_at_call 8; refine GW.out.mono ?_; rintro e w1 ⟨rfl, hb1⟩; obtain ⟨c0, c1⟩ := hcs.out w1 hb1)
      | (go_at_call 9; refine (GH.out w1 hb1).mono ?_; rintro e w2 ⟨rfl, hb2⟩; obtain ⟨d0, d1⟩ := hcs.out w2 (bl_step hb1 hb2)))
    go_ret
    exact ⟨rfl, bl_step hal.out (bl_step hb1 hb2)⟩
  | false =>
    rw [hh] at GH
    cases hr : rgtB N A with
    | false =>
      rw [hr] at GR
      clear hr hh
      go_enter Tryz.func7, Tryz.ntmps7
      go_wp2_with (first
        | (go_at_call 8; refine GW.out.mono ?_; rintro e w1 ⟨rfl, hb1⟩; obtain ⟨c0, c1⟩ := hcs.out w1 hb1)
        | (go_at_call 9; refine (GH.out w1 hb1).mono ?_; rintro e w2 ⟨rfl, hb2⟩; have h2 := hid (bl_step hb1 hb2); obtain ⟨d0, d1⟩ := hcs.out w2 h2.out)
        | (go_at_call 13; refine (GR.out w2 h2.out).mono ?_; rintro e w3 ⟨rfl, hb3⟩))
      go_ret
      exact ⟨rfl, bl_step hal.out (bl_step h2.out hb3)⟩
    | true =>
      rw [hr] at GR
      have H := hid (rgtA_of hr)
      have GM := hid (fun u (hu : Below W0.heap.size W0 u) => makeGood _ _ N A u (hD0.out.keep hu) H.out hAw)
      have GA := hid (fun nv' av' M B u (hR : MkR N A M B) (hD' : Dfa u nv' av' M B) => apartC nv' av' M B u hD' (hR.right H.out))
      clear hr hh hNl
      go_enter Tryz.func7, Tryz.ntmps7
      go_wp2_with (first
        | (go_at_call 8; refine GW.out.mono ?_; rintro e w1 ⟨rfl, hb1⟩; obtain ⟨c0, c1⟩ := hcs.out w1 hb1)
        | (go_at_call 9; refine (GH.out w1 hb1).mono ?_; rintro e w2 ⟨rfl, hb2⟩; have h2 := hid (bl_step hb1 hb2); obtain ⟨d0, d1⟩ := hcs.out w2 h2.out)
        | (go_at_call 13; refine (GR.out w2 h2.out).mono ?_; rintro e w3 ⟨rfl, hb3⟩; have h3 := hid (bl_step h2.out hb3); obtain ⟨f0, f1⟩ := hcs.out w3 h3.out)
        | (go_at_call 10; refine (GM.out w3 h3.out).mono ?_; rintro e w4 ⟨nv4, av4, M, B, rfl, hR, hD4, hb4⟩; obtain ⟨⟨ma, mc, rfl⟩, ⟨ba, bc, rfl⟩⟩ := hD4.shape; have hR := hid hR; have hal4 := hid (al' w4 (.cells #[.slice ma M.length mc, .slice ba B.length bc] 25)); have hk4 := hid (heap_new w4 (.cells #[.slice ma M.length mc, .slice ba B.length bc] 25)); have hD5 := hid (hD4.keep hal4.out); have h4 := hid (bl_step (bl_step h3.out hb4) hal4.out); obtain ⟨m0, m1, -⟩ := cells2m hk4.out)
        | (go_at_call 18; refine (GA.out _ _ _ _ _ hR.out hD5.out).mono ?_; rintro e w6 ⟨v6, rs, F, rfl, hAp, hFl, hDn⟩; have hAp := hid hAp; have hFl := hid hFl; have hDn := hid hDn; obtain ⟨ga, gc, rfl⟩ := own_shape hAp.out.out; obtain ⟨n0, n1, -⟩ := cells2m (hs_keep hk4.out hAp.out.low)))
      have hMr := hid (hR.out.right H.out)
      obtain ⟨mt, hQ⟩ := metQ9_of H.out hR.out
      have hQ := hid hQ
      have hrsl : Hid (rs.length = M.length + 1) := hid (by rw [← hAp.out.len, hFl.out.sq.len])
      obtain ⟨g, gc', hve, -, -, -⟩ := hAp.out.at (i := 0) (k := 0) (by have := hrsl.out; omega) (by omega)
      injection hve with hva _ hvc
      subst hva hvc
      have hf1 : Hid (∀ i k, i < M.length → k < i → flg F i k = true) := hid (fun i k hi hk => by
        cases e : flg F i k with
        | true => rfl
        | false =>
          have ha := (hFl.out.done hMr.out.rgt hDn.out i k (by omega) (by omega)).1 e
          have := hR.out.apart H.out hi (by omega) ha
          omega)
      have hf2 : Hid (∀ i, i < M.length → 0 < i → flg F i M.length = true) := hid (fun i hi h0 => by
        cases e : flg F i M.length with
        | true => rfl
        | false => exact absurd ((hFl.out.done hMr.out.rgt hDn.out i M.length (by omega) (by omega)).1 e) (hR.out.alive H.out hi h0))
      have hcell : Hid (∀ i k, i ≤ M.length → k ≤ M.length → w6.cell? ⟨g, i, none⟩ = some (.slice (some ⟨rs.getD i 0, 0, none⟩) (M.length + 1) (M.length + 1)) ∧ w6.cell? ⟨rs.getD i 0, k, none⟩ = some (.bool (flg F i k))) := hid (fun i k hi hk => by
        obtain ⟨h1, h2, _⟩ := hAp.out.cells (i := i) (k := k) (by have := hrsl.out; omega) (by omega)
        exact ⟨h1, h2⟩)
      have hrows := hid (fun j (hj : j < M.length) => numss_get (hD5.out.keep hAp.out.low).nxt hj)
      have hend := hid (bl_step hal.out (bl_step h4.out hAp.out.low))
      have hn240 := hQ.out.n240
      have hrz : ((rs.length : Nat) : Int) = (M.length : Int) + 1 := by have := hrsl.out; omega
      clear hAp hFl hDn c0 c1 d0 d1 f0 f1 m0 m1 hk4 hD5
      generalize rs.length = rl at hrz ⊢
      go_loop [33] (fun i => ∃ k : Nat, k ≤ M.length ∧ i = .int .i64 k) (fun i => M.length - (intOf i).toNat)
      case atStart => exact ⟨0, Nat.zero_le _, rfl⟩
      case round =>
        obtain ⟨i, hi, rfl⟩ := hrel
        by_cases hil : i < M.length
        · have hilz : (i : Int) < (M.length : Int) := by omega
          go_wp2
          go_loop [37] (fun j => ∃ k : Nat, k ≤ i ∧ j = .int .i64 k) (fun j => i - (intOf j).toNat)
          case atStart => exact ⟨0, Nat.zero_le _, rfl⟩
          case round =>
            obtain ⟨k, hk, rfl⟩ := hrel
            by_cases hki : k < i
            · have hkiz : (k : Int) < (i : Int) := by omega
              obtain ⟨a0, a1⟩ := hcell.out i k (by omega) (by omega)
              rw [hf1.out i k hil hki] at a1
              generalize rs.getD i 0 = ri at a0 a1
              have hb1 : (i : Int) < (rl : Int) := by omega
              have hb2 : (k : Int) < (M.length : Int) + 1 := by omega
              go_wp2
              go_round
              case rel => exact ⟨k + 1, by omega, by go_num⟩
              case measure => simp [intOf]; omega
            · have hkiz : ¬ (k : Int) < (i : Int) := by omega
              obtain rfl : k = i := by omega
              obtain ⟨a0, a1⟩ := hcell.out k M.length (by omega) (by omega)
              generalize rs.getD k 0 = ri at a0 a1
              have hb1 : (k : Int) < (rl : Int) := by omega
              have hb2 : (M.length : Int) < (M.length : Int) + 1 := by omega
              by_cases hk0 : k = 0
              · have hk0z : ¬ (0 : Int) < (k : Int) := by omega
                go_wp2
                go_round
                case rel => exact ⟨k + 1, by omega, by go_num⟩
                case measure => simp [intOf]; omega
              · have hk0z : (0 : Int) < (k : Int) := by omega
                rw [hf2.out k hil (by omega)] at a1
                go_wp2
                go_round
                case rel => exact ⟨k + 1, by omega, by go_num⟩
                case measure => simp [intOf]; omega
        · have hilz : ¬ (i : Int) < (M.length : Int) := by omega
          obtain rfl : i = M.length := by omega
          have hmt0 : Hid (mt 0 = 1) := hid hQ.out.zero
          go_wp2
          go_loop [9, 63] (fun m i => ∃ k : Nat, k ≤ M.length ∧ i = .int .i64 k ∧ m = .int .i64 (mt k)) (fun _ i => M.length - (intOf i).toNat)
          case atStart => exact ⟨0, Nat.zero_le _, rfl, by rw [hmt0.out]; rfl⟩
          case round =>
            obtain ⟨k, hk, rfl, rfl⟩ := hrel
            have hmk := hQ.out.few k hk
            by_cases hlt : k < M.length
            · have hltz : (k : Int) < (M.length : Int) := by omega
              have hon := hQ.out.on k hlt
              obtain ⟨b1, o1, x, rfl, hb1', hx, hNx⟩ := hrows.out k hlt
              obtain ⟨xa, xc, hxe⟩ : ∃ a c, x = .slice a (M.getD k []).length c := by obtain ⟨a, c, e, _⟩ := hNx; exact ⟨a, c, e⟩
              subst hxe
              have hrow := hid (nums_cell hNx)
              have hr256 := hQ.out.row k hlt
              have hst := hid (hQ.out.step k hlt)
              clear hNx
              generalize M.getD k [] = rw at *
              rw [hr256] at hx hrow
              have hr256 := hid hr256
              generalize hmv : mt (k + 1) = m1 at hst
              have hmv := hid hmv
              go_wp2
              go_loop [9, 72] (fun m i => ∃ c q : Nat, c ≤ 256 ∧ i = .int .i64 c ∧ m = .int .i64 q ∧ k < q ∧ q ≤ 240 + c ∧ Hid (metF q (rw.drop c) = some m1)) (fun _ i => 256 - (intOf i).toNat)
              case atStart => exact ⟨0, mt k, Nat.zero_le _, rfl, rfl, hon, by omega, hst⟩
              case round =>
                obtain ⟨c, q, hc, rfl, rfl, hkq, hq, hin⟩ := hrel
                have hkqz : ¬ (q : Int) ≤ (k : Int) := by omega
                by_cases hcl : c < 256
                · have hcz : (c : Int) < 256 := by omega
                  obtain ⟨b3, o3, rfl, hb3, h3⟩ := hrow.out c hcl
                  have hcr : c < rw.length := by rw [hr256.out]; exact hcl
                  have hdr : rw.drop c = rw.getD c 0 :: rw.drop (c + 1) := by
                    rw [List.drop_eq_getElem_cons hcr, List.getD_eq_getElem?_getD, List.getElem?_eq_getElem hcr]
                    rfl
                  have hin' := hin.out
                  rw [hdr] at hin'
                  obtain ⟨hng, hnx⟩ := metF_cons _ _ _ hin'
                  clear hdr hin' hin
                  generalize rw.getD c 0 = y at h3 hng hnx
                  by_cases hy : y = (q : Int)
                  · rw [if_pos hy] at hnx
                    have hnx := hid hnx
                    subst hy
                    go_wp2
                    go_round
                    case rel => exact ⟨c + 1, q + 1, by omega, by go_num, by go_num, by omega, by omega, hnx⟩
                    case measure => simp [intOf]; omega
                  · rw [if_neg hy] at hnx
                    have hnx := hid hnx
                    have hyb : (y == (q : Int)) = false := beq_eq_false_iff_ne.2 hy
                    go_wp2
                    go_round
                    case rel => exact ⟨c + 1, q, by omega, by go_num, rfl, by omega, by omega, hnx⟩
                    case measure => simp [intOf]; omega
                · have hcz : ¬ (c : Int) < 256 := by omega
                  have hqm : Hid (q = m1) := hid (by
                    have := hin.out
                    rw [List.drop_eq_nil_of_le (by rw [hr256.out]; omega)] at this
                    simpa [metF] using this)
                  clear hin
                  go_wp2
                  go_round
                  case rel => exact ⟨k + 1, by omega, by go_num, by rw [hmv.out, ← hqm.out]⟩
                  case measure => simp [intOf]; omega
            · have hltz : ¬ (k : Int) < (M.length : Int) := by omega
              obtain rfl : k = M.length := by omega
              have hf := hQ.out.fin
              go_wp2
              go_ret
              exact ⟨by simp, hend.out⟩

end Go.Proofs.YtjelgphhlcecoaaGreatDoor
