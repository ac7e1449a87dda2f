/- The reference of layer 8: topiaryref04.Find over states; Same of automata. topiaryref08.Same: an automaton is the same as itself, wherever the two lie. Layer 9's small functions: what a state accepts, where it leads, its kind. -/
import Derived.Test.YtjelgphhlcecoaaGreatDoorJ33
import Derived.Test.YtjelgphhlcecoaaGreatDoorJ12
import Derived.Test.YtjelgphhlcecoaaGreatDoorJ25
import Derived.Test.YtjelgphhlcecoaaGreatDoorJ42
import Derived.Lib.QuietBelow
import Derived.BigQuiet
namespace Go.Proofs.YtjelgphhlcecoaaGreatDoor
open Go.RowKit

/-- the place of a list among lists -/
def findS : List (List Int) → List Int → Nat → Int
  | [], _, _ => -1
  | a :: r, s, k => if a = s then (k : Int) else findS r s (k + 1)
theorem findS_at {ls : List (List Int)} {s : List Int} {k : Nat} (h : k < ls.length) : findS (ls.drop k) s k = if ls[k] = s then (k : Int) else findS (ls.drop (k + 1)) s (k + 1) := by
  rw [List.drop_eq_getElem_cons h, findS]
theorem findS_in {s : List Int} : ∀ {ls : List (List Int)} (k : Nat), s ∈ ls → findS ls s k = ((k + ls.idxOf s : Nat) : Int)
  | [], _, h => by cases h
  | a :: r, k, h => by
    rw [findS]
    by_cases e : a = s
    · subst e
      rw [if_pos rfl, List.idxOf_cons_self]
      rfl
    · rw [if_neg e, findS_in (k + 1) (by
        rcases List.mem_cons.1 h with h | h
        · exact absurd h.symm e
        · exact h), List.idxOf_cons, show (a == s) = false from beq_eq_false_iff_ne.2 e]
      simp only [cond_false]
      omega
theorem findS_out {s : List Int} : ∀ {ls : List (List Int)} (k : Nat), ¬ s ∈ ls → findS ls s k = -1
  | [], _, _ => rfl
  | a :: r, k, h => by
    rw [findS, if_neg (fun e => h (by simp [e])), findS_out (k + 1) (fun e => h (by simp [e]))]
end Go.Proofs.YtjelgphhlcecoaaGreatDoor
namespace Go.Proofs.YtjelgphhlcecoaaGreatDoor
open Go.RowKit Go.Sort

set_option maxRecDepth 20000 in
set_option maxHeartbeats 4000000 in
theorem refSameD (nv av nv' av' : Value) (N : List (List Int)) (A : List Int) (w : World) (hN : Numss w nv N) (hA : Nums w av A) (hN2 : Numss w nv' N) (hA2 : Nums w av' A)
    (hl : N.length ≤ 1000) (hla : A.length ≤ 1000) (hr : ∀ j, j < N.length → (N.getD j []).length ≤ 1000) :
    Calls Tryz.prog 12 #[.agg #[nv, av], .agg #[nv', av']] w fun e w' => e = .returned (.bool true) ∧ Below w.heap.size w w' := by
  obtain ⟨na, nc, rfl⟩ : ∃ a c, nv = .slice a N.length c := by obtain ⟨a, c, e, _⟩ := hN; exact ⟨a, c, e⟩
  obtain ⟨va, vc, rfl⟩ : ∃ a c, av = .slice a A.length c := by obtain ⟨a, c, e, _⟩ := hA; exact ⟨a, c, e⟩
  obtain ⟨na2, nc2, rfl⟩ : ∃ a c, nv' = .slice a N.length c := by obtain ⟨a, c, e, _⟩ := hN2; exact ⟨a, c, e⟩
  obtain ⟨va2, vc2, rfl⟩ : ∃ a c, av' = .slice a A.length c := by obtain ⟨a, c, e, _⟩ := hA2; exact ⟨a, c, e⟩
  obtain ⟨W1, hW1⟩ : ∃ W1, Hid (w.alloc (.cells #[.slice na N.length nc, .slice va A.length vc] 25) = W1) := ⟨_, hid rfl⟩
  obtain ⟨W2, hW2⟩ : ∃ W2, Hid (W1.alloc (.cells #[.slice na2 N.length nc2, .slice va2 A.length vc2] 25) = W2) := ⟨_, hid rfl⟩
  have hb1 : Hid (Below w.heap.size w W1) := hid (hW1.out ▸ al' w _)
  have hb2 : Hid (Below W1.heap.size W1 W2) := hid (hW2.out ▸ al' W1 _)
  have hbb := hid (bl_step hb1.out hb2.out)
  have hk1 : Hid (W1.heap[w.heap.size]? = some (.cells #[.slice na N.length nc, .slice va A.length vc] 25)) := hid (hW1.out ▸ heap_new w _)
  have hk2 : Hid (W2.heap[W1.heap.size]? = some (.cells #[.slice na2 N.length nc2, .slice va2 A.length vc2] 25)) := hid (hW2.out ▸ heap_new W1 _)
  have hk3 := hid ((hb2.out.block _ (blk_lt hk1.out)).trans hk1.out)
  have p0 : W2.cell? ⟨w.heap.size, 0, none⟩ = some (.slice na N.length nc) := blk_cell hk3.out rfl
  have p1 : W2.cell? ⟨w.heap.size, 1, none⟩ = some (.slice va A.length vc) := blk_cell hk3.out rfl
  have q0 : W2.cell? ⟨W1.heap.size, 0, none⟩ = some (.slice na2 N.length nc2) := blk_cell hk2.out rfl
  have q1 : W2.cell? ⟨W1.heap.size, 1, none⟩ = some (.slice va2 A.length vc2) := blk_cell hk2.out rfl
  have GA := hid (refSame _ _ A A W2 (by omega) (by omega) (hA.keep hbb.out) (hA2.keep hbb.out))
  rw [decide_eq_true rfl] at GA
  have GN := hid (fun j (hj : j < N.length) u (hu : Below W2.heap.size W2 u) => (⟨numss_get (hN.keep (bl_step hbb.out hu)) hj, numss_get (hN2.keep (bl_step hbb.out hu)) hj⟩ : _ ∧ _))
  have hr' := hid hr
  clear hN hA hN2 hA2 hr
  go_enter Tryz.func12, Tryz.ntmps12
  have hW1' := hW1.out
  have hW2' := hW2.out
  go_wp2_with (first | (go_at_call 24; refine GA.out.mono ?_; rintro e w3 ⟨rfl, hb3⟩))
  have hb3 := hid hb3
  have P0 := hid (keep_cell hb3.out p0)
  have Q0 := hid (keep_cell hb3.out q0)
  clear p0 p1 q0 q1 GA hW1' hW2' hk1 hk2 hk3
  go_loopw [5] (fun i wr => ∃ k : Nat, k ≤ N.length ∧ i = .int .i64 k ∧ Below w3.heap.size w3 wr) (fun i _ => N.length - (intOf i).toNat)
  case atStart => exact ⟨0, Nat.zero_le _, rfl, Below.refl _ _⟩
  case round =>
    obtain ⟨k, hk, rfl, hbl⟩ := hrel
    have hWr := hid (bl_step hb3.out hbl)
    have c0 := keep_cell hbl P0.out
    have c1 := keep_cell hbl Q0.out
    by_cases hlt : k < N.length
    · have hltz : (k : Int) < (N.length : Int) := by omega
      obtain ⟨⟨b1, o1, x, rfl, _, hx, hNx⟩, b2, o2, y, rfl, _, hy, hNy⟩ := GN.out k hlt wr hWr.out
      have hrk := hr'.out k hlt
      have cA : Hid (∀ d os, Calls Tryz.prog 24 #[x, y] (grow (redrawn wr d) os) fun e w'' => e = .returned (.bool true) ∧ ∃ p : Regrown, w'' = grow (redrawn wr p.d) p.os) := hid (fun d os => Calls.regrown_of (by
        have := refSame x y (N.getD k []) (N.getD k []) _ (by omega) (by omega) (hNx.keep (below_regrown wr d os)) (hNy.keep (below_regrown wr d os))
        rw [decide_eq_true rfl] at this
        exact this))
      have k0 := cell_regrown c0
      have k1 := cell_regrown c1
      have kx := cell_regrown hx
      have ky := cell_regrown hy
      clear hNx hNy hrk
      go_wp2_with fail
      refine wp_region_quiet_below (by kernel_rfl) (by kernel_rfl) ?_
      repeat (first | go_big_quiet_step (exact cA.out _ _) | quiet_step (exact cA.out _ _))
      refine wpQuiet_nil ?_
      intro _ hw'
      obtain ⟨⟨dq, osq⟩, hw''⟩ := hw'
      subst hw''
      have hq := hid (below_regrown wr dq osq)
      generalize grow (redrawn wr dq) osq = wz at *
      go_wp2
      go_roundw
      case rel => exact ⟨k + 1, by omega, by go_num, bl_step hbl hq.out⟩
      case measure => simp [intOf]; omega
    · have hltz : ¬ (k : Int) < (N.length : Int) := by omega
      go_wp2
      go_ret
      exact ⟨rfl, bl_step hbb.out hWr.out⟩

end Go.Proofs.YtjelgphhlcecoaaGreatDoor
namespace Go.Proofs.YtjelgphhlcecoaaGreatDoor
open Go.RowKit

/-- a state as the program counts: nowhere is -1 -/
def inI (n i : Nat) : Int := if n ≤ i then -1 else (i : Int)
/-- its place in a list of kinds -/
def ixK (n i : Nat) : Nat := if n ≤ i then 0 else i + 1
theorem inI_ix (n i : Nat) : inI n i + 1 = (ixK n i : Int) := by unfold inI ixK; split <;> omega
theorem ixK_le {n i : Nat} : ixK n i ≤ n := by unfold ixK; split <;> omega
theorem inI_none (n : Nat) : inI n n = -1 := by unfold inI; rw [if_pos (Nat.le_refl _)]
theorem inI_some {n i : Nat} (h : i < n) : inI n i = (i : Int) := by unfold inI; rw [if_neg (by omega)]
theorem inI_inj {n i j : Nat} (hi : i ≤ n) (hj : j ≤ n) (h : inI n i = inI n j) : i = j := by unfold inI at h; split at h <;> split at h <;> omega
theorem ixK_inj {n i j : Nat} (hi : i ≤ n) (hj : j ≤ n) (h : ixK n i = ixK n j) : i = j := by unfold ixK at h; split at h <;> split at h <;> omega
theorem nums_shape' {w : World} {v : Value} {A : List Int} (h : Nums w v A) : ∃ a c, v = .slice a A.length c := by obtain ⟨a, c, e, _⟩ := h; exact ⟨a, c, e⟩
/-- an automaton in memory -/
structure Dfa (w : World) (nv av : Value) (N : List (List Int)) (A : List Int) : Prop where
  nxt : Numss w nv N
  acc : Nums w av A
theorem Dfa.keep {w u : World} {nv av : Value} {N : List (List Int)} {A : List Int} (h : Dfa w nv av N A) (hu : Below w.heap.size w u) : Dfa u nv av N A := ⟨h.nxt.keep hu, h.acc.keep hu⟩
theorem Dfa.shape {w : World} {nv av : Value} {N : List (List Int)} {A : List Int} (h : Dfa w nv av N A) : (∃ a c, nv = .slice a N.length c) ∧ ∃ a c, av = .slice a A.length c := by
  obtain ⟨a, c, e, _⟩ := h.nxt
  obtain ⟨a', c', e', _⟩ := h.acc
  exact ⟨⟨a, c, e⟩, ⟨a', c', e'⟩⟩
theorem acA_some {N : List (List Int)} {A : List Int} {i : Nat} (h : i < N.length) : acA N A i = A.getD i 0 := by unfold acA; rw [if_neg (by omega)]
theorem acA_none (N : List (List Int)) (A : List Int) : acA N A N.length = -1 := by unfold acA; rw [if_pos (Nat.le_refl _)]
theorem nxA_some {N : List (List Int)} (hr : RgtN N) {i b : Nat} (h : i < N.length) (hb : b < 256) : inI N.length (nxA N i b) = (N.getD i []).getD b 0 := by
  have h1 := (hr i h).2 b hb
  have e : nxA N i b = if (N.getD i []).getD b 0 < 0 then N.length else ((N.getD i []).getD b 0).toNat := by unfold nxA; rw [if_neg (by omega)]
  rw [e]
  by_cases hy : (N.getD i []).getD b 0 < 0
  · rw [if_pos hy, inI_none]; omega
  · rw [if_neg hy, inI_some (by omega)]; omega
set_option maxRecDepth 20000 in
theorem acceptOfC (nv av : Value) (N : List (List Int)) (A : List Int) (i : Nat) (w : World) (hD : Dfa w nv av N A) (hr : RgtA N A) (hi : i ≤ N.length) :
    Calls Tryz.prog 27 #[.agg #[nv, av], .int .i64 (inI N.length i)] w fun e w' => e = .returned (.int .i64 (acA N A i)) ∧ Below w.heap.size w w' := by
  obtain ⟨⟨na, nc, rfl⟩, ⟨aa, ac, rfl⟩⟩ := hD.shape
  have hal := hid (al' w (.cells #[.slice na N.length nc, .slice aa A.length ac] 25))
  obtain ⟨x0, x1, -⟩ := cells2m (heap_new w (.cells #[.slice na N.length nc, .slice aa A.length ac] 25))
  rcases Nat.lt_or_ge i N.length with h | h
  · have hl := hr.len
    obtain ⟨b1, o1, e1, hb1, hc1⟩ := nums_cell hD.acc i (by omega)
    subst e1
    have hc1 := keep_cell hal.out hc1
    rw [inI_some h, acA_some h]
    have hne : ¬ (i : Int) = -1 := by omega
    have hne2 : ((i : Int) == -1) = false := beq_eq_false_iff_ne.2 hne
    have hlt : (i : Int) < (A.length : Int) := by omega
    clear hD hl hr
    go_enter Tryz.func27, Tryz.ntmps27
    go_wp2
    go_ret
    exact ⟨rfl, hal.out⟩
  · obtain rfl : i = N.length := by omega
    rw [inI_none, acA_none]
    clear hD
    go_enter Tryz.func27, Tryz.ntmps27
    go_wp2
    go_ret
    exact ⟨rfl, hal.out⟩
set_option maxRecDepth 20000 in
theorem nextOfC (nv av : Value) (N : List (List Int)) (A : List Int) (i b : Nat) (w : World) (hD : Dfa w nv av N A) (hr : RgtA N A) (hi : i ≤ N.length) (hb : b < 256) :
    Calls Tryz.prog 28 #[.agg #[nv, av], .int .i64 (inI N.length i), .int .i64 (b : Int)] w fun e w' => e = .returned (.int .i64 (inI N.length (nxA N i b))) ∧ Below w.heap.size w w' := by
  obtain ⟨⟨na, nc, rfl⟩, ⟨aa, ac, rfl⟩⟩ := hD.shape
  have hal := hid (al' w (.cells #[.slice na N.length nc, .slice aa A.length ac] 25))
  obtain ⟨x0, x1, -⟩ := cells2m (heap_new w (.cells #[.slice na N.length nc, .slice aa A.length ac] 25))
  rcases Nat.lt_or_ge i N.length with h | h
  · obtain ⟨b1, o1, x, e1, hb1, hc1, hN1⟩ := numss_get hD.nxt h
    subst e1
    have hlen := (hr.rgt i h).1
    obtain ⟨b2, o2, c2, e2, hb2, hc2⟩ := nums_get hN1 (c := b) (by omega)
    subst e2
    rw [hlen] at hc1
    have hc1 := keep_cell hal.out hc1
    have hc2 := keep_cell hal.out hc2
    rw [inI_some h, nxA_some hr.rgt h hb]
    have hne : ¬ (i : Int) = -1 := by omega
    have hne2 : ((i : Int) == -1) = false := beq_eq_false_iff_ne.2 hne
    have hlt : (i : Int) < (N.length : Int) := by omega
    have hbz : (b : Int) < 256 := by omega
    clear hD hN1 hlen
    generalize (N.getD i []).getD b 0 = y at *
    go_enter Tryz.func28, Tryz.ntmps28
    go_wp2
    go_ret
    exact ⟨rfl, hal.out⟩
  · obtain rfl : i = N.length := by omega
    rw [inI_none, nxA_none, inI_none]
    clear hD
    go_enter Tryz.func28, Tryz.ntmps28
    go_wp2
    go_ret
    exact ⟨rfl, hal.out⟩
set_option maxRecDepth 20000 in
theorem kofC (kv : Value) (K : List Int) (n i : Nat) (w : World) (hK : Nums w kv K) (hl : K.length = n + 1) (hn : n ≤ 1000) :
    Calls Tryz.prog 22 #[kv, .int .i64 (inI n i)] w fun e w' => e = .returned (.int .i64 (K.getD (ixK n i) 0)) ∧ w' = w := by
  obtain ⟨a, c, rfl⟩ := nums_shape' hK
  have hx : ixK n i < K.length := by have := @ixK_le n i; omega
  obtain ⟨b1, o1, e1, hb1, hc1⟩ := nums_cell hK (ixK n i) hx
  subst e1
  have he : inI n i = ((ixK n i : Nat) : Int) - 1 := by have := inI_ix n i; omega
  have hx2 : ixK n i ≤ 2000 := by omega
  have hxz : ((ixK n i : Nat) : Int) < (K.length : Int) := by omega
  rw [he]
  generalize ixK n i = x at *
  have hsub : (x : Int) - 1 - -1 = (x : Int) := by omega
  clear hK he
  go_enter Tryz.func22, Tryz.ntmps22
  go_wp2
  go_ret
  exact ⟨rfl, rfl⟩
set_option maxRecDepth 20000 in
theorem refAcceptC (nv av : Value) (N : List (List Int)) (A : List Int) (i : Nat) (w : World) (hD : Dfa w nv av N A) (hr : RgtA N A) (hi : i ≤ N.length) :
    Calls Tryz.prog 29 #[.agg #[nv, av], .int .i64 (i : Int)] w fun e w' => e = .returned (.int .i64 (acA N A i)) ∧ Below w.heap.size w w' := by
  obtain ⟨⟨na, nc, rfl⟩, ⟨aa, ac, rfl⟩⟩ := hD.shape
  have hal := hid (al' w (.cells #[.slice na N.length nc, .slice aa A.length ac] 25))
  obtain ⟨x0, x1, -⟩ := cells2m (heap_new w (.cells #[.slice na N.length nc, .slice aa A.length ac] 25))
  have hl := hr.len
  have hf := hr.few
  rcases Nat.lt_or_ge i N.length with h | h
  · obtain ⟨b1, o1, e1, hb1, hc1⟩ := nums_cell hD.acc i (by omega)
    subst e1
    have hc1 := keep_cell hal.out hc1
    rw [acA_some h]
    have hge : ¬ (N.length : Int) ≤ (i : Int) := by omega
    have hlt : (i : Int) < (A.length : Int) := by omega
    clear hD hl hr
    go_enter Tryz.func29, Tryz.ntmps29
    go_wp2
    go_ret
    exact ⟨rfl, hal.out⟩
  · obtain rfl : i = N.length := by omega
    rw [acA_none]
    clear hD hl hr
    go_enter Tryz.func29, Tryz.ntmps29
    go_wp2
    go_ret
    exact ⟨rfl, hal.out⟩
set_option maxRecDepth 20000 in
theorem refNextC (nv av : Value) (N : List (List Int)) (A : List Int) (i b : Nat) (w : World) (hD : Dfa w nv av N A) (hr : RgtA N A) (hi : i ≤ N.length) (hb : b < 256) :
    Calls Tryz.prog 23 #[.agg #[nv, av], .int .i64 (i : Int), .int .i64 (b : Int)] w fun e w' => e = .returned (.int .i64 ((nxA N i b : Nat) : Int)) ∧ Below w.heap.size w w' := by
  obtain ⟨⟨na, nc, rfl⟩, ⟨aa, ac, rfl⟩⟩ := hD.shape
  have hal := hid (al' w (.cells #[.slice na N.length nc, .slice aa A.length ac] 25))
  obtain ⟨x0, x1, -⟩ := cells2m (heap_new w (.cells #[.slice na N.length nc, .slice aa A.length ac] 25))
  have hf := hr.few
  rcases Nat.lt_or_ge i N.length with h | h
  · obtain ⟨b1, o1, x, e1, hb1, hc1, hN1⟩ := numss_get hD.nxt h
    subst e1
    have hlen := (hr.rgt i h).1
    obtain ⟨b2, o2, c2, e2, hb2, hc2⟩ := nums_get hN1 (c := b) (by omega)
    subst e2
    rw [hlen] at hc1
    have hc1 := keep_cell hal.out hc1
    have hc2 := keep_cell hal.out hc2
    have hge : ¬ (N.length : Int) ≤ (i : Int) := by omega
    have hlt : (i : Int) < (N.length : Int) := by omega
    have hbz : (b : Int) < 256 := by omega
    have hin := (hr.rgt i h).2 b hb
    have hnx : nxA N i b = if (N.getD i []).getD b 0 < 0 then N.length else ((N.getD i []).getD b 0).toNat := by unfold nxA; rw [if_neg (by omega)]
    rw [hnx]
    generalize (N.getD i []).getD b 0 = y at *
    clear hD hN1 hnx
    by_cases hy : y < 0
    · rw [if_pos hy]
      go_enter Tryz.func23, Tryz.ntmps23
      go_wp2
      go_ret
      exact ⟨rfl, hal.out⟩
    · rw [if_neg hy]
      have hyn : ((y.toNat : Nat) : Int) = y := by omega
      rw [hyn]
      go_enter Tryz.func23, Tryz.ntmps23
      go_wp2
      go_ret
      exact ⟨rfl, hal.out⟩
  · obtain rfl : i = N.length := by omega
    rw [nxA_none]
    clear hD
    go_enter Tryz.func23, Tryz.ntmps23
    go_wp2
    go_ret
    exact ⟨rfl, hal.out⟩

end Go.Proofs.YtjelgphhlcecoaaGreatDoor
