/- The maths of Alike: pairs of states that the same text leads to. topiaryref08.Same: whether two automata are the same. small.Alike$1: a pair is met. small.Alike$1: the call. Alike's memory at its start; how many pairs there are. -/
import Derived.Test.YtjelgphhlcecoaaGreatDoorJ15
import Derived.Test.YtjelgphhlcecoaaGreatDoorJ29
import Derived.Test.YtjelgphhlcecoaaGreatDoorJSp
import Derived.Lib.QuietBelow
import Derived.BigQuiet
import Derived.Deep.AppendLies
namespace Go.Proofs.YtjelgphhlcecoaaGreatDoor

/-- these pairs are met by a text -/
def RchP (N N' : List (List Int)) (p : Nat × Nat) : Prop := ∃ s : Txt, goA N 0 s = p.1 ∧ goA N' 0 s = p.2
theorem rch_start (N N' : List (List Int)) : RchP N N' (0, 0) := ⟨[], rfl, rfl⟩
theorem rch_next {N N' : List (List Int)} {p : Nat × Nat} (h : RchP N N' p) {b : Nat} (hb : b < 256) : RchP N N' (nxA N p.1 b, nxA N' p.2 b) := by
  obtain ⟨s, h1, h2⟩ := h
  refine ⟨s ++ [UInt8.ofNat b], ?_, ?_⟩
  · rw [goA_app, h1]
    show nxA N p.1 (UInt8.ofNat b).toNat = _
    rw [UInt8.toNat_ofNat', Nat.mod_eq_of_lt hb]
  · rw [goA_app, h2]
    show nxA N' p.2 (UInt8.ofNat b).toNat = _
    rw [UInt8.toNat_ofNat', Nat.mod_eq_of_lt hb]
/-- a pair that accepts otherwise -/
theorem al2_not {N : List (List Int)} {A : List Int} {N' : List (List Int)} {A' : List Int} {p : Nat × Nat} (h : RchP N N' p) (hne : acA N A p.1 ≠ acA N' A' p.2) : ¬ Al2 N A N' A' 0 0 := fun e => by
  obtain ⟨s, h1, h2⟩ := h
  have := e s
  unfold doA at this
  rw [h1, h2] at this
  exact hne this
/-- all pairs that are met lead to such as are met, and none accepts otherwise -/
theorem al2_of {N : List (List Int)} {A : List Int} {N' : List (List Int)} {A' : List Int} (P : List (Nat × Nat)) (h0 : (0, 0) ∈ P) (ha : ∀ p ∈ P, acA N A p.1 = acA N' A' p.2) (hs : ∀ p ∈ P, ∀ b, b < 256 → (nxA N p.1 b, nxA N' p.2 b) ∈ P) : Al2 N A N' A' 0 0 := by
  have key : ∀ (s : Txt) (p : Nat × Nat), p ∈ P → doA N A p.1 s = doA N' A' p.2 s := by
    intro s
    induction s with
    | nil => intro p hp; exact ha p hp
    | cons c s ih =>
      intro p hp
      rw [doA_cons, doA_cons]
      exact ih _ (hs p hp c.toNat c.toNat_lt)
  exact fun s => key s (0, 0) h0
/-- pairs as they are met -/
def metP (P : List (Nat × Nat)) (p : Nat × Nat) : List (Nat × Nat) := if p ∈ P then P else P ++ [p]
theorem metP_mem (P : List (Nat × Nat)) (p : Nat × Nat) : p ∈ metP P p := by
  unfold metP
  split
  · assumption
  · simp
theorem metP_sub {P : List (Nat × Nat)} {p q : Nat × Nat} (h : q ∈ P) : q ∈ metP P p := by
  unfold metP
  split
  · exact h
  · exact List.mem_append_left _ h
theorem metP_pre (P : List (Nat × Nat)) (p : Nat × Nat) : ∃ U, metP P p = P ++ U := by
  unfold metP
  split
  · exact ⟨[], by simp⟩
  · exact ⟨[p], rfl⟩
theorem metP_nd {P : List (Nat × Nat)} (h : P.Nodup) (p : Nat × Nat) : (metP P p).Nodup := by
  unfold metP
  split
  · exact h
  · rename_i hn
    rw [List.nodup_append]
    refine ⟨h, by simp, fun a ha b hb => ?_⟩
    have : b = p := by simpa using hb
    subst this
    exact fun e => hn (e ▸ ha)
/-- behind b bytes of a pair -/
def rowP2 (N N' : List (List Int)) (p : Nat × Nat) (P : List (Nat × Nat)) : Nat → List (Nat × Nat)
  | 0 => P
  | b + 1 => metP (rowP2 N N' p P b) (nxA N p.1 b, nxA N' p.2 b)
/-- the pairs when k of them are gone through -/
def prsP (N N' : List (List Int)) : Nat → List (Nat × Nat)
  | 0 => [(0, 0)]
  | k + 1 => rowP2 N N' ((prsP N N' k).getD k (0, 0)) (prsP N N' k) 256
theorem rowP2_pre (N N' : List (List Int)) (p : Nat × Nat) (P : List (Nat × Nat)) : ∀ b, ∃ U, rowP2 N N' p P b = P ++ U
  | 0 => ⟨[], by simp [rowP2]⟩
  | b + 1 => by
    obtain ⟨U, hU⟩ := rowP2_pre N N' p P b
    obtain ⟨V, hV⟩ := metP_pre (rowP2 N N' p P b) (nxA N p.1 b, nxA N' p.2 b)
    exact ⟨U ++ V, by rw [rowP2, hV, hU, List.append_assoc]⟩
theorem rowP2_in (N N' : List (List Int)) (p : Nat × Nat) (P : List (Nat × Nat)) : ∀ b c, c < b → (nxA N p.1 c, nxA N' p.2 c) ∈ rowP2 N N' p P b
  | 0, _, h => absurd h (Nat.not_lt_zero _)
  | b + 1, c, h => by
    rw [rowP2]
    rcases Nat.lt_or_ge c b with hl | hl
    · exact metP_sub (rowP2_in N N' p P b c hl)
    · obtain rfl : c = b := by omega
      exact metP_mem _ _
theorem rowP2_nd {N N' : List (List Int)} {p : Nat × Nat} {P : List (Nat × Nat)} (h : P.Nodup) : ∀ b, (rowP2 N N' p P b).Nodup
  | 0 => h
  | b + 1 => metP_nd (rowP2_nd h b) _
theorem rowP2_rch {N N' : List (List Int)} {p : Nat × Nat} {P : List (Nat × Nat)} (hp : RchP N N' p) (h : ∀ q ∈ P, RchP N N' q) : ∀ b, b ≤ 256 → ∀ q ∈ rowP2 N N' p P b, RchP N N' q
  | 0, _ => h
  | b + 1, hb => by
    intro q hq
    rw [rowP2] at hq
    unfold metP at hq
    split at hq
    · exact rowP2_rch hp h b (by omega) q hq
    · rcases List.mem_append.1 hq with h1 | h1
      · exact rowP2_rch hp h b (by omega) q h1
      · have : q = (nxA N p.1 b, nxA N' p.2 b) := by simpa using h1
        subst this
        exact rch_next hp (by omega)
theorem prsP_pre (N N' : List (List Int)) (k : Nat) : ∀ d, ∃ U, prsP N N' (k + d) = prsP N N' k ++ U
  | 0 => ⟨[], by simp⟩
  | d + 1 => by
    obtain ⟨U, hU⟩ := prsP_pre N N' k d
    obtain ⟨V, hV⟩ := rowP2_pre N N' ((prsP N N' (k + d)).getD (k + d) (0, 0)) (prsP N N' (k + d)) 256
    exact ⟨U ++ V, by rw [← Nat.add_assoc, prsP, hV, hU, List.append_assoc]⟩
theorem prsP_nd (N N' : List (List Int)) : ∀ k, (prsP N N' k).Nodup
  | 0 => by simp [prsP]
  | k + 1 => rowP2_nd (prsP_nd N N' k) 256
theorem prsP_zero (N N' : List (List Int)) (k : Nat) : (0, 0) ∈ prsP N N' k := by
  obtain ⟨U, hU⟩ := prsP_pre N N' 0 k
  rw [Nat.zero_add] at hU
  rw [hU]
  simp [prsP]
theorem prsP_rch (N N' : List (List Int)) : ∀ k, (∀ j, j < k → j < (prsP N N' j).length) → ∀ q ∈ prsP N N' k, RchP N N' q
  | 0, _ => by
    intro q hq
    have : q = (0, 0) := by simpa [prsP] using hq
    subst this
    exact rch_start N N'
  | k + 1, hk => by
    have ih := prsP_rch N N' k (fun j hj => hk j (by omega))
    have hl := hk k (by omega)
    refine rowP2_rch (ih _ ?_) ih 256 (Nat.le_refl _)
    rw [List.getD_eq_getElem?_getD, List.getElem?_eq_getElem hl]
    exact List.getElem_mem hl
/-- all are gone through, and none accepts otherwise -/
theorem prsP_end {N : List (List Int)} {A : List Int} {N' : List (List Int)} {A' : List Int} {k : Nat} (hk : (prsP N N' k).length = k) (hon : ∀ j, j < k → j < (prsP N N' j).length) (ha : ∀ j, j < k → acA N A ((prsP N N' k).getD j (0, 0)).1 = acA N' A' ((prsP N N' k).getD j (0, 0)).2) : Al2 N A N' A' 0 0 := by
  refine al2_of (prsP N N' k) (prsP_zero N N' k) (fun p hp => ?_) (fun p hp b hb => ?_)
  · obtain ⟨j, hj, rfl⟩ := List.getElem_of_mem hp
    have := ha j (by omega)
    rw [List.getD_eq_getElem?_getD, List.getElem?_eq_getElem hj] at this
    exact this
  · obtain ⟨j, hj, rfl⟩ := List.getElem_of_mem hp
    have hjk : j < k := by omega
    have hl := hon j hjk
    obtain ⟨U, hU⟩ := prsP_pre N N' (j + 1) (k - (j + 1))
    rw [show j + 1 + (k - (j + 1)) = k by omega] at hU
    obtain ⟨V, hV⟩ := prsP_pre N N' j (k - j)
    rw [show j + (k - j) = k by omega] at hV
    have e : (prsP N N' k)[j] = (prsP N N' j).getD j (0, 0) := by
      rw [List.getD_eq_getElem?_getD, List.getElem?_eq_getElem hl]
      simp only [hV]
      rw [List.getElem_append_left hl]
      rfl
    rw [e, hU]
    exact List.mem_append_left _ (by rw [prsP]; exact rowP2_in N N' _ _ 256 b hb)

end Go.Proofs.YtjelgphhlcecoaaGreatDoor
namespace Go.Proofs.YtjelgphhlcecoaaGreatDoor
open Go.RowKit Go.Sort

theorem lists_eq {N N' : List (List Int)} (hl : N.length = N'.length) (h : ∀ j, j < N.length → N.getD j [] = N'.getD j []) : N = N' := by
  refine List.ext_getElem hl fun i h1 h2 => ?_
  have := h i h1
  rw [List.getD_eq_getElem?_getD, List.getElem?_eq_getElem h1, List.getD_eq_getElem?_getD, List.getElem?_eq_getElem h2] at this
  exact this
set_option maxRecDepth 20000 in
set_option maxHeartbeats 4000000 in
theorem refSameG (nv av nv' av' : Value) (N N' : List (List Int)) (A A' : List Int) (w : World) (hD : Dfa w nv av N A) (hD' : Dfa w nv' av' N' A')
    (hl : N.length ≤ 1000) (hla : A.length ≤ 1000) (hla' : A'.length ≤ 1000) (hr : ∀ j, j < N.length → (N.getD j []).length ≤ 1000) (_hl' : N'.length ≤ 1000) (hr' : ∀ j, j < N'.length → (N'.getD j []).length ≤ 1000) :
    Calls Tryz.prog 12 #[.agg #[nv, av], .agg #[nv', av']] w fun e w' => e = .returned (.bool (decide (N = N' ∧ A = A'))) ∧ Below w.heap.size w w' := by
  obtain ⟨⟨na, nc, rfl⟩, ⟨va, vc, rfl⟩⟩ := hD.shape
  obtain ⟨⟨na2, nc2, rfl⟩, ⟨va2, vc2, rfl⟩⟩ := hD'.shape
  obtain ⟨W1, hW1⟩ : ∃ W1, w.alloc (.cells #[.slice na N.length nc, .slice va A.length vc] 25) = W1 := ⟨_, rfl⟩
  obtain ⟨W2, hW2⟩ : ∃ W2, W1.alloc (.cells #[.slice na2 N'.length nc2, .slice va2 A'.length vc2] 25) = W2 := ⟨_, rfl⟩
  have hb1 : Hid (Below w.heap.size w W1) := by rw [← hW1]; exact hid (al' w _)
  have hb2 : Hid (Below W1.heap.size W1 W2) := by rw [← hW2]; exact hid (al' W1 _)
  have hbb := hid (bl_step hb1.out hb2.out)
  have hk1 : Hid (W1.heap[w.heap.size]? = some (.cells #[.slice na N.length nc, .slice va A.length vc] 25)) := by rw [← hW1]; exact hid (heap_new w _)
  have hk2 : Hid (W2.heap[W1.heap.size]? = some (.cells #[.slice na2 N'.length nc2, .slice va2 A'.length vc2] 25)) := by rw [← hW2]; exact hid (heap_new W1 _)
  have hk3 := hid (hs_keep hk1.out hb2.out)
  have p0 : W2.cell? ⟨w.heap.size, 0, none⟩ = some (.slice na N.length nc) := blk_cell hk3.out rfl
  have p1 : W2.cell? ⟨w.heap.size, 1, none⟩ = some (.slice va A.length vc) := blk_cell hk3.out rfl
  have q0 : W2.cell? ⟨W1.heap.size, 0, none⟩ = some (.slice na2 N'.length nc2) := blk_cell hk2.out rfl
  have q1 : W2.cell? ⟨W1.heap.size, 1, none⟩ = some (.slice va2 A'.length vc2) := blk_cell hk2.out rfl
  have hD2 := hid (hD.keep hbb.out)
  have hD2' := hid (hD'.keep hbb.out)
  have GA := hid (refSame _ _ A A' W2 (by omega) (by omega) hD2.out.acc hD2'.out.acc)
  have hrH := hid hr
  have hrH' := hid hr'
  obtain ⟨R, hR⟩ : ∃ R, Hid (decide (N = N' ∧ A = A') = R) := ⟨_, hid rfl⟩
  rw [hR.out]
  clear hD hD' hr hr'
  by_cases hln : N.length = N'.length
  · have hlz : ((N.length : Int) != (N'.length : Int)) = false := by rw [hln]; simp
    have hlz2 : (N.length : Int) = (N'.length : Int) := by omega
    have hlnH := hid hln
    by_cases hAA : A = A'
    · rw [decide_eq_true hAA] at GA
      have hAH := hid hAA
      clear hAA hln hlz2
      go_enter Tryz.func12, Tryz.ntmps12
      go_wp2_with (go_at_call 24; refine GA.out.mono ?_; rintro e w3 ⟨rfl, hb3⟩)
      have hb3 := hid hb3
      have P0 := hid (keep_cell hb3.out p0)
      have Q0 := hid (keep_cell hb3.out q0)
      clear p0 p1 q0 q1 GA hW1 hW2 hk1 hk2 hk3 hlz
      go_loopw [5] (fun i wr => ∃ k : Nat, k ≤ N.length ∧ i = .int .i64 k ∧ Below w3.heap.size w3 wr ∧ Hid (∀ j, j < k → N.getD j [] = N'.getD j [])) (fun i _ => N.length - (intOf i).toNat)
      case atStart => exact ⟨0, Nat.zero_le _, rfl, Below.refl _ _, hid (fun j hj => absurd hj (Nat.not_lt_zero _))⟩
      case round =>
        obtain ⟨k, hk, rfl, hbl, heq⟩ := hrel
        have hWr := hid (bl_step hb3.out hbl)
        have c0 := keep_cell hbl P0.out
        have c1 := keep_cell hbl Q0.out
        by_cases hlt : k < N.length
        · have hltz : (k : Int) < (N.length : Int) := by omega
          have hlt' : k < N'.length := by have := hlnH.out; omega
          have hltz' : (k : Int) < (N'.length : Int) := by omega
          obtain ⟨b1, o1, x, rfl, _, hx, hNx⟩ := numss_get (hD2.out.keep hWr.out).nxt hlt
          obtain ⟨b2, o2, y, rfl, _, hy, hNy⟩ := numss_get (hD2'.out.keep hWr.out).nxt hlt'
          have hrk := hrH.out k hlt
          have hrk' := hrH'.out k hlt'
          obtain ⟨rb, hrb⟩ : ∃ rb, Hid (decide (N.getD k [] = N'.getD k []) = rb) := ⟨_, hid rfl⟩
          have cA : Hid (∀ d os, Calls Tryz.prog 24 #[x, y] (grow (redrawn wr d) os) fun e w'' => e = .returned (.bool rb) ∧ ∃ p : Regrown, w'' = grow (redrawn wr p.d) p.os) := hid (fun d os => Calls.regrown_of (by
            have := refSame x y (N.getD k []) (N'.getD k []) _ (by omega) (by omega) (hNx.keep (below_regrown wr d os)) (hNy.keep (below_regrown wr d os))
            rw [hrb.out] at this
            exact this))
          have k0 := cell_regrown c0
          have k1 := cell_regrown c1
          have kx := cell_regrown hx
          have ky := cell_regrown hy
          clear hNx hNy hrk hrk'
          go_wp2_with fail
          refine wp_region_quiet_below (by kernel_rfl) (by kernel_rfl) ?_
          repeat (first | go_big_quiet_step (exact cA.out _ _) | quiet_step (exact cA.out _ _))
          refine wpQuiet_nil ?_
          intro _ hw'
          obtain ⟨⟨dq, osq⟩, hw''⟩ := hw'
          subst hw''
          have hq := hid (below_regrown wr dq osq)
          clear k0 k1 kx ky cA c0 c1 hx hy
          generalize grow (redrawn wr dq) osq = wz at hq ⊢
          cases rb with
          | true =>
            have heq' : Hid (∀ j, j < k + 1 → N.getD j [] = N'.getD j []) := hid (fun j hj => by
              rcases Nat.lt_or_ge j k with h9 | h9
              · exact heq.out j h9
              · obtain rfl : j = k := by omega
                exact of_decide_eq_true hrb.out)
            go_wp2
            go_roundw
            case rel => exact ⟨k + 1, by omega, by go_num, bl_step hbl hq.out, heq'⟩
            case measure => simp [intOf]; omega
          | false =>
            have hRf : Hid (R = false) := hid (by
              rw [← hR.out]
              refine decide_eq_false (fun h => of_decide_eq_false hrb.out ?_)
              rw [h.1])
            go_wp2
            go_ret
            exact ⟨by rw [hRf.out]; rfl, bl_step hbb.out (bl_step hWr.out hq.out)⟩
        · have hltz : ¬ (k : Int) < (N.length : Int) := by omega
          obtain rfl : k = N.length := by omega
          have hRt : Hid (R = true) := hid (by
            rw [← hR.out]
            exact decide_eq_true ⟨lists_eq hlnH.out heq.out, hAH.out⟩)
          go_wp2
          go_ret
          exact ⟨by rw [hRt.out]; rfl, bl_step hbb.out hWr.out⟩
    · rw [decide_eq_false hAA] at GA
      have hRf : Hid (R = false) := hid (by rw [← hR.out]; exact decide_eq_false (fun h => hAA h.2))
      clear hAA hln hlz2
      go_enter Tryz.func12, Tryz.ntmps12
      go_wp2_with (go_at_call 24; refine GA.out.mono ?_; rintro e w3 ⟨rfl, hb3⟩)
      go_ret
      exact ⟨by rw [hRf.out]; rfl, bl_step hbb.out hb3⟩
  · have hlz : ((N.length : Int) != (N'.length : Int)) = true := by simp; omega
    have hlz2 : ¬ (N.length : Int) = (N'.length : Int) := by omega
    have hRf : Hid (R = false) := hid (by rw [← hR.out]; exact decide_eq_false (fun h => hln (by rw [h.1])))
    clear hln GA
    go_enter Tryz.func12, Tryz.ntmps12
    go_wp2
    go_ret
    exact ⟨by rw [hRf.out]; rfl, hbb.out⟩

end Go.Proofs.YtjelgphhlcecoaaGreatDoor
namespace Go.Proofs.YtjelgphhlcecoaaGreatDoor
open Go.RowKit Go.Maps

/-- a pair's place -/
def plcP (n n' : Nat) (p : Nat × Nat) : Nat := ixK n p.1 * (n' + 1) + ixK n' p.2
theorem plcP_lt {n n' : Nat} (p : Nat × Nat) : plcP n n' p < (n + 1) * (n' + 1) := by
  have h1 := @ixK_le n p.1
  have h2 := @ixK_le n' p.2
  have h3 : ixK n p.1 * (n' + 1) ≤ n * (n' + 1) := Nat.mul_le_mul_right _ h1
  unfold plcP
  rw [Nat.succ_mul]
  omega
theorem plcP_inj {n n' : Nat} {p q : Nat × Nat} (hp : p.1 ≤ n ∧ p.2 ≤ n') (hq : q.1 ≤ n ∧ q.2 ≤ n') (h : plcP n n' p = plcP n n' q) : p = q := by
  unfold plcP at h
  have h1 := @ixK_le n' p.2
  have h2 := @ixK_le n' q.2
  have e2 : ixK n' p.2 = ixK n' q.2 := by
    have a1 : (ixK n p.1 * (n' + 1) + ixK n' p.2) % (n' + 1) = ixK n' p.2 := by
      rw [Nat.mul_comm, Nat.mul_add_mod]
      exact Nat.mod_eq_of_lt (by omega)
    have a2 : (ixK n q.1 * (n' + 1) + ixK n' q.2) % (n' + 1) = ixK n' q.2 := by
      rw [Nat.mul_comm, Nat.mul_add_mod]
      exact Nat.mod_eq_of_lt (by omega)
    rw [← a1, ← a2, h]
  have e1 : ixK n p.1 = ixK n q.1 := by
    rw [e2] at h
    have h3 : ixK n p.1 * (n' + 1) = ixK n q.1 * (n' + 1) := by omega
    exact Nat.eq_of_mul_eq_mul_right (by omega) h3
  exact Prod.ext (ixK_inj hp.1 hq.1 e1) (ixK_inj hp.2 hq.2 e2)
def prC (n n' : Nat) (p : Nat × Nat) : List Value := [.int .i64 (inI n p.1), .int .i64 (inI n' p.2)]
/-- which pairs are marked -/
def MrkP (n n' : Nat) (P : List (Nat × Nat)) (fl : List Bool) : Prop := ∀ p : Nat × Nat, p.1 ≤ n → p.2 ≤ n' → (fl.getD (plcP n n' p) false = true ↔ p ∈ P)
theorem MrkP.set {n n' : Nat} {P : List (Nat × Nat)} {fl : List Bool} (h : MrkP n n' P fl) (hl : fl.length = (n + 1) * (n' + 1)) {p : Nat × Nat} (hp : p.1 ≤ n ∧ p.2 ≤ n') : MrkP n n' (P ++ [p]) (fl.set (plcP n n' p) true) := fun q h1 h2 => by
  rw [List.mem_append, List.mem_singleton]
  by_cases e : q = p
  · subst e
    rw [List.getD_eq_getElem?_getD, List.getElem?_set_self (by rw [hl]; exact plcP_lt q)]
    simp
  · rw [List.getD_eq_getElem?_getD, List.getElem?_set_ne (fun e' => e (plcP_inj hp ⟨h1, h2⟩ e').symm), ← List.getD_eq_getElem?_getD, h q h1 h2]
    exact ⟨Or.inl, fun h9 => h9.resolve_right e⟩
structure AlO (n n' bw bm br bp : Nat) (w0 w : World) (pv : Value) (P : List (Nat × Nat)) (fl : List Bool) : Prop where
  wd : w.heap[bw]? = some (.cells #[.int .i64 (((n' + 1 : Nat)) : Int)] 3 (0, 0))
  mv : w.heap[bm]? = some (.cells #[.slice (some ⟨br, 0, none⟩) ((n + 1) * (n' + 1)) ((n + 1) * (n' + 1))] 43 (0, 0))
  mr : OwnT w w0.heap.size (.slice (some ⟨br, 0, none⟩) ((n + 1) * (n' + 1)) ((n + 1) * (n' + 1))) fl
  pb : w.heap[bp]? = some (.cells #[pv] 52 (0, 0))
  pr : w.ownsRow w0.heap.size 54 2 pv P.length (P.flatMap (prC n n'))
  mrk : MrkP n n' P fl
  low : Below w0.heap.size w0 w
  ge : w0.heap.size ≤ bw ∧ w0.heap.size ≤ bm ∧ w0.heap.size ≤ bp
  ne : bw ≠ bm ∧ bw ≠ br ∧ bw ≠ bp ∧ bm ≠ br ∧ bm ≠ bp ∧ br ≠ bp
  np : ∀ k, pv.ownBlock = some k → k ≠ bw ∧ k ≠ bm ∧ k ≠ br ∧ k ≠ bp
theorem AlO.len {n n' bw bm br bp : Nat} {w0 w : World} {pv : Value} {P : List (Nat × Nat)} {fl : List Bool} (h : AlO n n' bw bm br bp w0 w pv P fl) : fl.length = (n + 1) * (n' + 1) := ownT_len (m := (n + 1) * (n' + 1)) (r := br) h.mr
theorem AlO.keep {n n' bw bm br bp : Nat} {w0 w u : World} {pv : Value} {P : List (Nat × Nat)} {fl : List Bool} (h : AlO n n' bw bm br bp w0 w pv P fl) (hu : Below w.heap.size w u) : AlO n n' bw bm br bp w0 u pv P fl :=
  ⟨hs_keep h.wd hu, hs_keep h.mv hu, own_below h.mr hu, hs_keep h.pb hu, own_below h.pr hu, h.mrk, bl_step h.low hu, h.ge, h.ne, h.np⟩
theorem AlO.cell {n n' bw bm br bp : Nat} {w0 w : World} {pv : Value} {P : List (Nat × Nat)} {fl : List Bool} (h : AlO n n' bw bm br bp w0 w pv P fl) {x : Nat} (hx : x < (n + 1) * (n' + 1)) : w.cell? ⟨br, x, none⟩ = some (.bool (fl.getD x false)) ∧ w.frozen? ⟨br, x, none⟩ = false := by
  have hl := h.len
  have h2 : w.ownsRow w0.heap.size 4 1 (.slice (some ⟨br, 0, none⟩) ((n + 1) * (n' + 1)) ((n + 1) * (n' + 1))) ((n + 1) * (n' + 1)) (fl.map Value.bool) := by
    have h9 := h.mr
    unfold OwnT at h9
    rw [hl] at h9
    exact h9
  have h3 := h2.cellAt x (by omega)
  rw [List.getElem?_map, List.getElem?_eq_getElem (by omega)] at h3
  exact ⟨by rw [h3, getD_el (show x < fl.length by omega)]; rfl, h2.frozenAt x⟩
/-- the mark is set -/
theorem AlO.mark {n n' bw bm br bp : Nat} {w0 w : World} {pv : Value} {P : List (Nat × Nat)} {fl : List Bool} (h : AlO n n' bw bm br bp w0 w pv P fl) (x : Nat) : (w.setCell ⟨br, x, none⟩ (.bool true)).heap[bw]? = some (.cells #[.int .i64 (((n' + 1 : Nat)) : Int)] 3 (0, 0)) ∧ (w.setCell ⟨br, x, none⟩ (.bool true)).heap[bm]? = some (.cells #[.slice (some ⟨br, 0, none⟩) ((n + 1) * (n' + 1)) ((n + 1) * (n' + 1))] 43 (0, 0)) ∧ OwnT (w.setCell ⟨br, x, none⟩ (.bool true)) w0.heap.size (.slice (some ⟨br, 0, none⟩) ((n + 1) * (n' + 1)) ((n + 1) * (n' + 1))) (fl.set x true) ∧ (w.setCell ⟨br, x, none⟩ (.bool true)).heap[bp]? = some (.cells #[pv] 52 (0, 0)) ∧ (w.setCell ⟨br, x, none⟩ (.bool true)).ownsRow w0.heap.size 54 2 pv P.length (P.flatMap (prC n n')) ∧ Below w0.heap.size w0 (w.setCell ⟨br, x, none⟩ (.bool true)) := by
  have hbr := (h.mr.lt br rfl).1
  have hl := h.len
  refine ⟨?_, ?_, ?_, ?_, own_set h.pr (fun e => (h.np _ e).2.2.1 rfl), bl_set h.low _ _ _ hbr⟩
  · rw [Below.heap_setCell w ⟨br, x, none⟩ _ bw h.ne.2.1]; exact h.wd
  · rw [Below.heap_setCell w ⟨br, x, none⟩ _ bm h.ne.2.2.2.1]; exact h.mv
  · have h1 := h.mr
    rw [← hl] at h1 ⊢
    exact OwnT.put (k := x) true h1
  · rw [Below.heap_setCell w ⟨br, x, none⟩ _ bp (fun e => h.ne.2.2.2.2.2 e.symm)]; exact h.pb
set_option maxRecDepth 20000 in
theorem Tryz.infoPr : (Tryz.prog.info? 54).map (fun i => (i.zero, i.size, i.bytes)) = some (some (.agg #[.int .i64 0, .int .i64 0]), 2, 16) := by kernel_rfl
/-- one pair more -/
theorem AlO.push {n n' bw bm br bp : Nat} {w0 w u w' : World} {pv : Value} {P : List (Nat × Nat)} {fl : List Bool} (h : AlO n n' bw bm br bp w0 w pv P fl) {p : Nat × Nat} (hp : p.1 ≤ n ∧ p.2 ≤ n') (hu : Below (w.setCell ⟨br, plcP n n' p, none⟩ (.bool true)).heap.size (w.setCell ⟨br, plcP n n' p, none⟩ (.bool true)) u) {g cap : Nat}
    (ho : w'.ownsRow w0.heap.size 54 2 (.slice (some ⟨g, 0, none⟩) (P.length + 1) cap) (P.length + 1) (P.flatMap (prC n n') ++ prC n n' p)) (hg : u.grownBy w' pv.ownBlock) (hat : pv.ownBlock = some g ∨ g = u.heap.size) :
    AlO n n' bw bm br bp w0 (w'.setCell ⟨bp, 0, none⟩ (.slice (some ⟨g, 0, none⟩) (P.length + 1) cap)) (.slice (some ⟨g, 0, none⟩) (P.length + 1) cap) (P ++ [p]) (fl.set (plcP n n' p) true) := by
  obtain ⟨m1, m2, m3, m4, m5, m6⟩ := h.mark (plcP n n' p)
  have hk := Kept.of_grown hg
  have hlt : ∀ {b : Nat} {x : Obj}, u.heap[b]? = some x → b < u.heap.size := fun hx => blk_lt hx
  have a1 := hs_keep m1 hu
  have a2 := hs_keep m2 hu
  have a3 := own_below m3 hu
  have a4 := hs_keep m4 hu
  have hbr := (a3.lt br rfl).2
  have hgn : ∀ b, b < u.heap.size → (∀ k, pv.ownBlock = some k → k ≠ b) → g ≠ b := fun b hb hne e => by
    subst e
    rcases hat with h1 | h1
    · exact hne g h1 rfl
    · omega
  have g1 := hgn bw (blk_lt a1) (fun k e => (h.np k e).1)
  have g2 := hgn bm (blk_lt a2) (fun k e => (h.np k e).2.1)
  have g3 := hgn br hbr (fun k e => (h.np k e).2.2.1)
  have g4 := hgn bp (blk_lt a4) (fun k e => (h.np k e).2.2.2)
  have b1 := hk.blk a1 (fun e => (h.np _ e).1 rfl)
  have b2 := hk.blk a2 (fun e => (h.np _ e).2.1 rfl)
  have b3 := own_kept a3 hk (fun k e e' => (h.np _ e').2.2.1 (by have e1 : br = k := (by injection e); exact e1.symm))
  have b4 := hk.blk a4 (fun e => (h.np _ e).2.2.2 rfl)
  have hlow : Below w0.heap.size w0 w' := (bl_step m6 hu).trans (hk.below (fun k e => (h.pr.lt k e).1) (bl_step m6 hu).size)
  refine ⟨?_, ?_, own_set b3 (fun e => h.ne.2.2.2.2.2 (by injection e)), heap_setCell b4, ?_, h.mrk.set h.len hp, bl_set hlow _ _ _ h.ge.2.2, h.ge, h.ne, fun k e => ?_⟩
  · rw [Below.heap_setCell w' ⟨bp, 0, none⟩ _ bw h.ne.2.2.1]; exact b1
  · rw [Below.heap_setCell w' ⟨bp, 0, none⟩ _ bm h.ne.2.2.2.2.1]; exact b2
  · have := own_set (pb := bp) (o := 0) (x := .slice (some ⟨g, 0, none⟩) (P.length + 1) cap) ho (fun e => g4 (by injection e))
    rw [List.length_append, List.flatMap_append, List.flatMap_singleton]
    exact this
  · have e1 : g = k := by injection e
    subst e1
    exact ⟨g1, g2, g3, g4⟩

end Go.Proofs.YtjelgphhlcecoaaGreatDoor
namespace Go.Proofs.YtjelgphhlcecoaaGreatDoor
open Go.RowKit Go.Maps

theorem cells1m {w : World} {b : Nat} {x0 : Value} {T : TypeId} (h : w.heap[b]? = some (.cells #[x0] T (0, 0))) : w.cell? ⟨b, 0, none⟩ = some x0 ∧ w.frozen? ⟨b, 0, none⟩ = false :=
  ⟨cell_of_row w b 0 _ _ _ h, by simp [World.frozen?, h]⟩
/-- what meet leaves as it was -/
def FrA (br bp : Nat) (pv pv' : Value) (w w' : World) : Prop := ∀ b x, w.heap[b]? = some x → b ≠ br → b ≠ bp → pv.ownBlock ≠ some b → w'.heap[b]? = some x ∧ pv'.ownBlock ≠ some b
set_option maxRecDepth 20000 in
set_option maxHeartbeats 4000000 in
theorem meetC (n n' bw bm br bp : Nat) (w0 w : World) (pv : Value) (P : List (Nat × Nat)) (fl : List Bool) (p : Nat × Nat) (hn : n ≤ 240) (hn' : n' ≤ 240) (hP : P.length ≤ 100000) (h : AlO n n' bw bm br bp w0 w pv P fl) (hp : p.1 ≤ n ∧ p.2 ≤ n') :
    Calls Tryz.prog 26 #[.agg #[.int .i64 (inI n p.1), .int .i64 (inI n' p.2)], .pointer (some ⟨bw, 0, none⟩), .pointer (some ⟨bm, 0, none⟩), .pointer (some ⟨bp, 0, none⟩)] w fun e w' => e = .returned (.tuple #[]) ∧ ∃ pv' fl', AlO n n' bw bm br bp w0 w' pv' (metP P p) fl' ∧ FrA br bp pv pv' w w' := by
  obtain ⟨W0, hW0⟩ : ∃ W0, w.alloc (.cells #[.int .i64 (inI n p.1), .int .i64 (inI n' p.2)] 54) = W0 := ⟨_, rfl⟩
  have hb0 : Hid (Below w.heap.size w W0) := by rw [← hW0]; exact hid (al' w _)
  have hz0 : Hid (W0.heap[w.heap.size]? = some (.cells #[.int .i64 (inI n p.1), .int .i64 (inI n' p.2)] 54)) := by rw [← hW0]; exact hid (heap_new w _)
  have hO := hid (h.keep hb0.out)
  obtain ⟨c0, c1, -⟩ := cells2m hz0.out
  obtain ⟨a, ha⟩ : ∃ a : Int, inI n p.1 = a := ⟨_, rfl⟩
  obtain ⟨b, hb⟩ : ∃ b : Int, inI n' p.2 = b := ⟨_, rfl⟩
  obtain ⟨x, hx⟩ : ∃ x : Nat, Hid (x = plcP n n' p) := ⟨_, hid rfl⟩
  have ha1 : a + 1 = (ixK n p.1 : Int) := by rw [← ha]; exact inI_ix _ _
  have hb1 : b + 1 = (ixK n' p.2 : Int) := by rw [← hb]; exact inI_ix _ _
  have hi1 := @ixK_le n p.1
  have hi2 := @ixK_le n' p.2
  obtain ⟨i, hi⟩ : ∃ i : Nat, ixK n p.1 = i := ⟨_, rfl⟩
  obtain ⟨q, hq⟩ : ∃ q : Nat, i * (n' + 1) = q := ⟨_, rfl⟩
  obtain ⟨wd, hwd⟩ : ∃ wd : Nat, n' + 1 = wd := ⟨_, rfl⟩
  have hqi : (i : Int) * (wd : Int) = (q : Int) := by rw [← hq, hwd]; exact (Int.natCast_mul _ _).symm
  have hq2 : q ≤ 240 * 241 := by rw [← hq]; exact Nat.mul_le_mul (by omega) (by omega)
  have hxe : (q : Int) + b + 1 = (x : Int) := by
    have e : x = q + ixK n' p.2 := by rw [hx.out]; unfold plcP; rw [hi, hq]
    omega
  have hxl : Hid (x < (n + 1) * (n' + 1)) := by rw [hx.out]; exact hid (plcP_lt p)
  obtain ⟨M, hM⟩ : ∃ M : Nat, Hid (M = (n + 1) * (n' + 1)) := ⟨_, hid rfl⟩
  have hM2 : M ≤ 241 * 241 := by rw [hM.out]; exact Nat.mul_le_mul (by omega) (by omega)
  have hxM : (x : Int) < (M : Int) := by have := hxl.out; have := hM.out; omega
  rw [ha] at c0
  rw [hb] at c1
  rw [ha, hb] at hz0 hW0 ⊢
  rw [hi] at ha1
  obtain ⟨va, vc, rfl⟩ := own_shape h.pr
  have d0 := cell_of_row W0 bw 0 _ _ _ hO.out.wd
  rw [hwd] at d0
  have hwd := hid hwd
  have d1 := cell_of_row W0 bm 0 _ _ _ hO.out.mv
  rw [← hM.out] at d1
  obtain ⟨e0, e1⟩ := hO.out.cell hxl.out
  have d2 := cell_of_row W0 bp 0 _ _ _ hO.out.pb
  obtain ⟨iP, hiP, zP0, zP1, zP2⟩ := info_parts Tryz.infoPr
  have hPb : (P.length : Int) ≤ 100000 := by omega
  have hal : -1 ≤ a ∧ a ≤ 240 := by omega
  have hbl : -1 ≤ b ∧ b ≤ 240 := by omega
  have hmrk : Hid (fl.getD x false = true ↔ p ∈ P) := by rw [hx.out]; exact hid (h.mrk p hp.1 hp.2)
  cases hf : fl.getD x false with
  | true =>
    rw [hf] at e0
    have hfin : Hid (AlO n n' bw bm br bp w0 W0 (.slice va P.length vc) (metP P p) fl) := hid (by
      unfold metP
      rw [if_pos (hmrk.out.1 hf)]
      exact hO.out)
    clear hmrk hf hp h hi1 hi2 hb1 hi hq hn hx hxl hM
    go_enter Tryz.func26, Tryz.ntmps26
    go_wp2
    first | go_end0 | refine bodyPost_ret (results_none rfl _ _ _) rfl ?_
    exact ⟨rfl, _, _, hfin.out, fun b x h1 _ _ h4 => ⟨hs_keep h1 hb0.out, h4⟩⟩
  | false =>
    rw [hf] at e0
    have hno : ¬ p ∈ P := fun e => by have := hmrk.out.2 e; rw [hf] at this; cases this
    have hmet : Hid (metP P p = P ++ [p]) := hid (by unfold metP; rw [if_neg hno])
    have hmk := hid (hO.out.mark x)
    obtain ⟨W1, hW1⟩ : ∃ W1, W0.setCell ⟨br, x, none⟩ (.bool true) = W1 := ⟨_, rfl⟩
    have hal1 := hid (al' W1 (.cells #[.int .i64 a, .int .i64 b] 54))
    have hpr : Hid ((W1.alloc (.cells #[.int .i64 a, .int .i64 b] 54)).ownsRow w0.heap.size 54 2 (.slice va P.length vc) P.length (P.flatMap (prC n n'))) := hid (own_below (by rw [← hW1]; exact hmk.out.2.2.2.2.1) hal1.out)
    have hsz : Hid (w0.heap.size ≤ (W1.alloc (.cells #[.int .i64 a, .int .i64 b] 54)).heap.size) := hid (bl_step (by rw [← hW1]; exact hmk.out.2.2.2.2.2) hal1.out).size
    have hpush : Hid (∀ g cap w', w'.ownsRow w0.heap.size 54 2 (.slice (some ⟨g, 0, none⟩) (P.length + 1) cap) (P.length + 1) (P.flatMap (prC n n') ++ [.int .i64 a, .int .i64 b]) → (W1.alloc (.cells #[.int .i64 a, .int .i64 b] 54)).grownBy w' (Value.slice va P.length vc).ownBlock → ((Value.slice va P.length vc).ownBlock = some g ∨ g = (W1.alloc (.cells #[.int .i64 a, .int .i64 b] 54)).heap.size) → AlO n n' bw bm br bp w0 (w'.setCell ⟨bp, 0, none⟩ (.slice (some ⟨g, 0, none⟩) (P.length + 1) cap)) (.slice (some ⟨g, 0, none⟩) (P.length + 1) cap) (metP P p) (fl.set x true)) := hid (fun g cap w' h1 h2 h3 => by
      subst hW1
      rw [hmet.out, hx.out]
      rw [hx.out] at h2 h3 hal1
      refine hO.out.push hp hal1.out ?_ h2 h3
      unfold prC
      rw [ha, hb]
      exact h1)
    have hbrl := (h.mr.lt br rfl).2
    have hz1 : W1.heap[w.heap.size]? = some (.cells #[.int .i64 a, .int .i64 b] 54) := by rw [← hW1, Below.heap_setCell W0 ⟨br, x, none⟩ _ w.heap.size (fun e => by have e1 : w.heap.size = br := e; omega)]; exact hz0.out
    obtain ⟨k0, k1, -⟩ := cells2m hz1
    clear hz1 hbrl
    have hst : Hid (∀ w', (W1.alloc (.cells #[.int .i64 a, .int .i64 b] 54)).grownBy w' (Value.slice va P.length vc).ownBlock → w'.cell? ⟨bp, 0, none⟩ = some (.slice va P.length vc) ∧ w'.frozen? ⟨bp, 0, none⟩ = false) := hid (fun w' h2 => by
      have a4 := hs_keep (hW1 ▸ hmk.out.2.2.2.1) hal1.out
      have b4 := (Kept.of_grown h2).blk a4 (fun e => (h.np _ e).2.2.2 rfl)
      exact cells1m b4)
    have hFr : Hid (∀ g cap w', (W1.alloc (.cells #[.int .i64 a, .int .i64 b] 54)).grownBy w' (Value.slice va P.length vc).ownBlock → ((Value.slice va P.length vc).ownBlock = some g ∨ g = (W1.alloc (.cells #[.int .i64 a, .int .i64 b] 54)).heap.size) → FrA br bp (.slice va P.length vc) (.slice (some ⟨g, 0, none⟩) (P.length + 1) cap) w (w'.setCell ⟨bp, 0, none⟩ (.slice (some ⟨g, 0, none⟩) (P.length + 1) cap))) := hid (fun g cap w' h2 h3 y o h4 h5 h6 h7 => by
      have q1 := hs_keep h4 hb0.out
      have q2 : W1.heap[y]? = some o := by rw [← hW1, Below.heap_setCell W0 ⟨br, x, none⟩ _ y h5]; exact q1
      have q3 := hs_keep q2 hal1.out
      have q4 := (Kept.of_grown h2).blk q3 (fun e => h7 e)
      refine ⟨by rw [Below.heap_setCell w' ⟨bp, 0, none⟩ _ y h6]; exact q4, fun e => ?_⟩
      have e1 : g = y := by injection e
      subst e1
      rcases h3 with h8 | h8
      · exact h7 h8
      · have := blk_lt q3
        omega)
    have dd0 : W1.cell? ⟨bp, 0, none⟩ = some (.slice va P.length vc) := by rw [← hW1]; exact cell_of_row _ bp 0 _ _ _ hmk.out.2.2.2.1
    clear hmrk hf hp h hi1 hi2 hb1 hi hq hn hx hxl hM hno hmet
    go_enter Tryz.func26, Tryz.ntmps26
    go_wp2_with (at_builtin; refine wpList_append_lies _ (by rfl) _ _ _ (by rfl) w0.heap.size 54 iP (.agg #[.int .i64 0, .int .i64 0]) 2 16 Tryz.underlying52 hiP zP0 zP1 zP2 rfl (by decide) (.slice va P.length vc) P.length (P.flatMap (prC n n')) (by rfl) hpr.out ⟨W1.heap.size, 0, none⟩ 1 1 [.int .i64 a, .int .i64 b] (by rfl) (by rfl) (World.news_of_block (heap_new W1 (.cells #[.int .i64 a, .int .i64 b] 54))) (by simp [Value.oneCell']) (by omega) (by (unfold maxLen); omega) (by omega) hsz.out (W1.alloc (.cells #[.int .i64 a, .int .i64 b] 54)).heap.size rfl ?_; intro g7 c7 w7 hown7 hgrow7 hat7 hlt7; have hP7 := hid (hpush.out g7 c7 w7 hown7 hgrow7 hat7); obtain ⟨s0, s1⟩ := hst.out w7 hgrow7)
    first | go_end0 | refine bodyPost_ret (results_none rfl _ _ _) rfl ?_
    exact ⟨rfl, _, _, hP7.out, hFr.out g7 c7 w7 hgrow7 hat7⟩

end Go.Proofs.YtjelgphhlcecoaaGreatDoor
namespace Go.Proofs.YtjelgphhlcecoaaGreatDoor
open Go.RowKit Go.Maps

theorem AlO.start {n n' : Nat} {w0 w3 WA : World} (hb : Below w0.heap.size w0 w3) {wd M : Nat} (hwd : n' + 1 = wd) (hM : (n + 1) * wd = M) (hM2 : M ≤ 100000) (hWA : w3.alloc (.cells #[.int .i64 (wd : Int)] 3) = WA) :
    AlO n n' w3.heap.size (WA.heap.size + 1) WA.heap.size (WA.heap.size + 1 + 1) w0 (((WA.alloc (.cells (madeCells #[.bool false] M) 4)).alloc (.cells #[.slice (some ⟨WA.heap.size, 0, none⟩) M M] 43)).alloc (.cells #[.slice none 0 0] 52)) (.slice none 0 0) [] (List.replicate M false) := by
  subst hwd
  subst hM
  have hs : WA.heap.size = w3.heap.size + 1 := by rw [← hWA]; simp
  have hA : Below w3.heap.size w3 WA := by rw [← hWA]; exact al' w3 _
  have kA : WA.heap[w3.heap.size]? = some (.cells #[.int .i64 ((n' + 1 : Nat) : Int)] 3) := by rw [← hWA]; exact heap_new w3 _
  have o1 := made_bools WA ((n + 1) * (n' + 1)) hM2
  obtain ⟨X1, hX1⟩ : ∃ X, WA.alloc (.cells (madeCells #[.bool false] ((n + 1) * (n' + 1))) 4) = X := ⟨_, rfl⟩
  rw [hX1] at o1 ⊢
  have s1 : X1.heap.size = WA.heap.size + 1 := by rw [← hX1]; simp
  have b1 : Below WA.heap.size WA X1 := by rw [← hX1]; exact al' WA _
  have k2 := heap_new X1 (.cells #[.slice (some ⟨WA.heap.size, 0, none⟩) ((n + 1) * (n' + 1)) ((n + 1) * (n' + 1))] 43)
  have b2 := al' X1 (.cells #[.slice (some ⟨WA.heap.size, 0, none⟩) ((n + 1) * (n' + 1)) ((n + 1) * (n' + 1))] 43)
  obtain ⟨X2, hX2⟩ : ∃ X, X1.alloc (.cells #[.slice (some ⟨WA.heap.size, 0, none⟩) ((n + 1) * (n' + 1)) ((n + 1) * (n' + 1))] 43) = X := ⟨_, rfl⟩
  have s2 : X2.heap.size = X1.heap.size + 1 := by rw [← hX2]; simp
  rw [hX2] at k2 b2 ⊢
  have k3 := heap_new X2 (.cells #[.slice none 0 0] 52)
  have b3 := al' X2 (.cells #[.slice none 0 0] 52)
  generalize X2.alloc (.cells #[.slice none 0 0] 52) = X3 at k3 b3 ⊢
  have hsz := hb.size
  rw [s1] at k2
  rw [s2, s1] at k3
  refine ⟨hs_keep (hs_keep (hs_keep kA b1) b2) b3, hs_keep k2 b3, own_base (own_below (own_below o1 b2) b3) (by omega), k3, World.ownsRow_nil _ _ _ _, fun p h1 h2 => ?_, bl_step (bl_step (bl_step (bl_step hb hA) b1) b2) b3, ⟨by omega, by omega, by omega⟩, ⟨by omega, by omega, by omega, by omega, by omega, by omega⟩, fun k e => (by cases e)⟩
  rw [List.getD_eq_getElem?_getD, List.getElem?_replicate]
  split <;> simp
theorem prs_few {n n' : Nat} {P : List (Nat × Nat)} (hnd : P.Nodup) (hin : ∀ p ∈ P, p.1 ≤ n ∧ p.2 ≤ n') : P.length ≤ (n + 1) * (n' + 1) := by
  have h1 : (P.map (plcP n n')).Nodup := by
    rw [List.nodup_iff_pairwise_ne, List.pairwise_map]
    exact (List.nodup_iff_pairwise_ne.1 hnd).imp_of_mem (fun {a b} ha hb hne e => hne (plcP_inj (hin a ha) (hin b hb) e))
  have h2 := nodup_few ((n + 1) * (n' + 1)) (P.map (plcP n n')) h1 (fun x hx => by
    obtain ⟨p, -, rfl⟩ := List.mem_map.1 hx
    exact plcP_lt p)
  rw [List.length_map] at h2
  exact h2
theorem rch_in {N N' : List (List Int)} (hr : RgtN N) (hr' : RgtN N') (h0 : 0 < N.length) (h0' : 0 < N'.length) {p : Nat × Nat} (h : RchP N N' p) : p.1 ≤ N.length ∧ p.2 ≤ N'.length := by
  obtain ⟨s, h1, h2⟩ := h
  rw [← h1, ← h2]
  exact ⟨goA_le hr s 0 (by omega), goA_le hr' s 0 (by omega)⟩
theorem AlO.pair {n n' bw bm br bp : Nat} {w0 w : World} {pv : Value} {P : List (Nat × Nat)} {fl : List Bool} (h : AlO n n' bw bm br bp w0 w pv P fl) {k : Nat} (hk : k < P.length) : ∃ g c, pv = .slice (some ⟨g, 0, none⟩) P.length c ∧ w.cell? ⟨g, k * 2, none⟩ = some (.int .i64 (inI n (P.getD k (0, 0)).1)) ∧ w.cell? ⟨g, k * 2 + 1, none⟩ = some (.int .i64 (inI n' (P.getD k (0, 0)).2)) := by
  obtain ⟨g, c, e, _⟩ := own_form3 h.pr (show 0 < P.length by omega)
  have ho := h.pr
  rw [e] at ho
  have hfl : ∀ (P : List (Nat × Nat)) (k : Nat), k < P.length → (P.flatMap (prC n n'))[k * 2]? = some (.int .i64 (inI n (P.getD k (0, 0)).1)) ∧ (P.flatMap (prC n n'))[k * 2 + 1]? = some (.int .i64 (inI n' (P.getD k (0, 0)).2)) := by
    intro P
    induction P with
    | nil => intro k hk; exact absurd hk (Nat.not_lt_zero _)
    | cons a l ih =>
      intro k hk
      rw [List.flatMap_cons]
      cases k with
      | zero => exact ⟨rfl, rfl⟩
      | succ k =>
        have h1 := ih k (by simpa using hk)
        have e1 : (k + 1) * 2 = (prC n n' a).length + k * 2 := by show _ = 2 + _; omega
        have e2 : (k + 1) * 2 + 1 = (prC n n' a).length + (k * 2 + 1) := by show _ = 2 + _; omega
        rw [e1, List.getElem?_append_right (Nat.le_add_right _ _), Nat.add_sub_cancel_left, ← e1, e2, List.getElem?_append_right (Nat.le_add_right _ _), Nat.add_sub_cancel_left]
        exact h1
  obtain ⟨f1, f2⟩ := hfl P k hk
  exact ⟨g, c, e, (ho.cellAt (k * 2) (by omega)).trans f1, (ho.cellAt (k * 2 + 1) (by omega)).trans f2⟩

end Go.Proofs.YtjelgphhlcecoaaGreatDoor
