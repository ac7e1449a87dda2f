/- dfa.rightRow, Right. dfa.Go, Accepts. The maths of layer 9: what the states of an automaton do, and how kinds of them are told. The maths of layer 9: the smallest automaton, as it is met. -/
import Derived.Test.YtjelgphhlcecoaaGreatDoorJ13
namespace Go.Proofs.YtjelgphhlcecoaaGreatDoor
open Go.RowKit

def rrB (row : List Int) (n : Nat) : Bool := decide (row.length = 256) && (List.range 256).all fun b => okB n (row.getD b 0)
theorem nums_cell {w : World} {a : Option Addr} {n c : Nat} {l : List Int} (h : Nums w (.slice a n c) l) : ∀ j, j < l.length → ∃ b o, a = some ⟨b, o, none⟩ ∧ b < w.heap.size ∧ w.cell? ⟨b, o + j, none⟩ = some (.int .i64 (l.getD j 0)) := by
  intro j hj
  obtain ⟨a', c', e, _, _, hat⟩ := h
  injection e with e1 e2 e3
  subst e1
  obtain ⟨b, o, h1, h2, h3⟩ := hat j hj
  refine ⟨b, o, h1, h2, ?_⟩
  rw [h3, List.getD_eq_getElem?_getD, List.getElem?_eq_getElem hj]
  rfl
set_option maxRecDepth 20000 in
set_option maxHeartbeats 2000000 in
theorem rightRowC (v : Value) (row : List Int) (n : Nat) (w : World) (_hn : n ≤ 1000) (hA : Nums w v row) :
    Calls Tryz.prog 32 #[v, .int .i64 (n : Int)] w fun e w' => e = .returned (.bool (rrB row n)) ∧ w' = w := by
  obtain ⟨R, hR⟩ : ∃ R, Hid (rrB row n = R) := ⟨_, hid rfl⟩
  rw [hR.out]
  obtain ⟨aa, ca, rfl⟩ : ∃ a c, v = .slice a row.length c := by obtain ⟨a, c, e, _⟩ := hA; exact ⟨a, c, e⟩
  have hA' := hid (nums_cell hA)
  clear hA
  by_cases d1 : row.length = 256
  case neg =>
    have hres : R = false := by rw [← hR.out, rrB, decide_eq_false d1]; rfl
    subst hres
    have d1z : ((row.length : Int) == 256) = false := by rw [beq_eq_false_iff_ne]; omega
    go_enter Tryz.func32, Tryz.ntmps32
    go_wp2
    go_ret
    exact ⟨rfl, rfl⟩
  have hR2 : Hid (((List.range 256).all fun b => okB n (row.getD b 0)) = R) := hid (by rw [← hR.out, rrB, decide_eq_true d1]; rfl)
  rw [d1] at hA' ⊢
  clear hR d1
  go_enter Tryz.func32, Tryz.ntmps32
  go_wp2
  go_loop [12] (fun i => ∃ k : Nat, k ≤ 256 ∧ i = .int .i64 k ∧ Hid (∀ j, j < k → okB n (row.getD j 0) = true)) (fun i => 256 - (intOf i).toNat)
  case atStart => exact ⟨0, Nat.zero_le _, rfl, hid (fun j hj => absurd hj (Nat.not_lt_zero _))⟩
  case round =>
    obtain ⟨c, hc, rfl, hin⟩ := hrel
    by_cases hcl : c < 256
    · have hcz : (c : Int) < 256 := by omega
      obtain ⟨b3, o3, rfl, hb3, h3⟩ := hA'.out c hcl
      have hf : Hid (okB n (row.getD c 0) = false → R = false) := hid (fun h => by rw [← hR2.out]; exact all_no hcl h)
      have hok : Hid (okB n (row.getD c 0) = true → ∀ b, b < c + 1 → okB n (row.getD b 0) = true) := hid (fun h b hb => by
        by_cases e : b = c
        · rw [e]; exact h
        · exact hin.out b (by omega))
      generalize row.getD c 0 = y at h3 hf hok
      by_cases e1 : -1 ≤ y
      case neg =>
        have hres : R = false := hf.out (by rw [okB, decide_eq_false e1]; rfl)
        subst hres
        have e1z : y < -1 := by omega
        go_wp2
        go_ret
        exact ⟨rfl, rfl⟩
      have e1z : ¬ y < -1 := by omega
      by_cases e2 : y < (n : Int)
      case neg =>
        have hres : R = false := hf.out (by rw [okB, decide_eq_false e2, Bool.and_false])
        subst hres
        have e2z : (n : Int) ≤ y := by omega
        go_wp2
        go_ret
        exact ⟨rfl, rfl⟩
      have e2z : ¬ (n : Int) ≤ y := by omega
      have hok' := hid (hok.out (by rw [okB, decide_eq_true e1, decide_eq_true e2]; rfl))
      go_wp2
      go_round
      case rel => exact ⟨c + 1, by omega, by go_num, hok'⟩
      case measure => simp [intOf]; omega
    · have hcz : ¬ (c : Int) < 256 := by omega
      obtain rfl : c = 256 := by omega
      have hres : R = true := by rw [← hR2.out]; exact all_yes hin.out
      subst hres
      go_wp2
      go_ret
      exact ⟨rfl, rfl⟩
theorem rowB_rr (N : List (List Int)) (A : List Int) (i : Nat) : rowB N A i = (decide (-1 ≤ A.getD i 0) && rrB (N.getD i []) N.length) := by
  unfold rowB rrB
  cases decide ((N.getD i []).length = 256) <;> cases decide (-1 ≤ A.getD i 0) <;> simp
set_option maxRecDepth 20000 in
set_option maxHeartbeats 4000000 in
theorem rightD (nv av : Value) (N : List (List Int)) (A : List Int) (w : World) (hN : Numss w nv N) (hA : Nums w av A) (hl : N.length ≤ 1000) :
    Calls Tryz.prog 20 #[.agg #[nv, av]] w fun e w' => e = .returned (.bool (rgtB N A)) ∧ Below w.heap.size w w' := by
  obtain ⟨R, hR⟩ : ∃ R, Hid (rgtB N A = R) := ⟨_, hid rfl⟩
  rw [hR.out]
  obtain ⟨na, nc, rfl⟩ : ∃ a c, nv = .slice a N.length c := by obtain ⟨a, c, e, _⟩ := hN; exact ⟨a, c, e⟩
  obtain ⟨va, vc, rfl⟩ : ∃ a c, av = .slice a A.length c := by obtain ⟨a, c, e, _⟩ := hA; exact ⟨a, c, e⟩
  have hal : Hid (Below w.heap.size w (w.alloc (.cells #[.slice na N.length nc, .slice va A.length vc] 25))) := hid (al' w _)
  have hN' := hid (fun j (hj : j < N.length) => numss_get (hN.keep hal.out) hj)
  have hA' := hid (nums_cell (hA.keep hal.out))
  clear hN hA
  by_cases c1 : 1 ≤ N.length
  case neg =>
    have hres : R = false := by rw [← hR.out, rgtB, decide_eq_false c1]; rfl
    subst hres
    have z1 : (N.length : Int) < 1 := by omega
    go_enter Tryz.func20, Tryz.ntmps20
    go_wp2
    go_ret
    exact ⟨rfl, hal.out⟩
  have z1 : ¬ (N.length : Int) < 1 := by omega
  by_cases c2 : N.length ≤ 240
  case neg =>
    have hres : R = false := by rw [← hR.out, rgtB, decide_eq_true c1, decide_eq_false c2]; rfl
    subst hres
    have z2 : (240 : Int) < (N.length : Int) := by omega
    go_enter Tryz.func20, Tryz.ntmps20
    go_wp2
    go_ret
    exact ⟨rfl, hal.out⟩
  have z2 : ¬ (240 : Int) < (N.length : Int) := by omega
  by_cases c3 : N.length = A.length
  case neg =>
    have hres : R = false := by rw [← hR.out, rgtB, decide_eq_true c1, decide_eq_true c2, decide_eq_false c3]; rfl
    subst hres
    have z3 : ((A.length : Int) == (N.length : Int)) = false := by rw [beq_eq_false_iff_ne]; omega
    go_enter Tryz.func20, Tryz.ntmps20
    go_wp2
    go_ret
    exact ⟨rfl, hal.out⟩
  have hR2 : Hid (((List.range N.length).all fun i => rowB N A i) = R) := hid (by rw [← hR.out, rgtB, decide_eq_true c1, decide_eq_true c2, decide_eq_true c3]; rfl)
  rw [← c3] at hA' hal ⊢
  rw [← c3] at hN'
  clear hR c3 c2
  go_enter Tryz.func20, Tryz.ntmps20
  go_wp2
  generalize hW : w.alloc (.cells #[.slice na N.length nc, .slice va N.length vc] 25) = W at hal hN' hA' ⊢
  have q1 : W.cell? ⟨w.heap.size, 1, none⟩ = some (.slice va N.length vc) := by rw [← hW]; exact blk_cell (heap_new w _) rfl
  clear hW
  go_loop [25] (fun i => ∃ k : Nat, k ≤ N.length ∧ i = .int .i64 k ∧ Hid (∀ j, j < k → rowB N A j = true)) (fun i => N.length - (intOf i).toNat)
  case atStart => exact ⟨0, Nat.zero_le _, rfl, hid (fun j hj => absurd hj (Nat.not_lt_zero _))⟩
  case round =>
    obtain ⟨k, hk, rfl, hdone⟩ := hrel
    by_cases hlt : k < N.length
    · have hltz : (k : Int) < (N.length : Int) := by omega
      obtain ⟨b1, o1, x, rfl, hb1, hx, hNx⟩ := hN'.out k hlt
      obtain ⟨b2, o2, rfl, hb2, hy⟩ := hA'.out k hlt
      have GR := hid (rightRowC x _ N.length W hl hNx)
      have hno : Hid (rowB N A k = false → R = false) := hid (fun h => by rw [← hR2.out]; exact all_no hlt h)
      have hyes : Hid (rowB N A k = true → ∀ j, j < k + 1 → rowB N A j = true) := hid (fun h j hj => by
        by_cases e : j = k
        · rw [e]; exact h
        · exact hdone.out j (by omega))
      rw [rowB_rr] at hno hyes
      generalize rrB (N.getD k []) N.length = rr at GR hno hyes
      generalize A.getD k 0 = y at hy hno hyes
      clear hNx
      by_cases e1 : -1 ≤ y
      case neg =>
        have hres : R = false := hno.out (by rw [decide_eq_false e1]; rfl)
        subst hres
        have e1z : y < -1 := by omega
        go_wp2
        go_ret
        exact ⟨rfl, hal.out⟩
      have e1z : ¬ y < -1 := by omega
      rw [decide_eq_true e1, Bool.true_and] at hno hyes
      cases rr with
      | false =>
        have hres : R = false := hno.out rfl
        subst hres
        go_wp2_with (go_at_call 32; refine GR.out.mono ?_; rintro e w1 ⟨rfl, hw1⟩; subst w1)
        go_ret
        exact ⟨rfl, hal.out⟩
      | true =>
        have hy' := hid (hyes.out rfl)
        go_wp2_with (go_at_call 32; refine GR.out.mono ?_; rintro e w1 ⟨rfl, hw1⟩; subst w1)
        go_round
        case rel => exact ⟨k + 1, by omega, by go_num, hy'⟩
        case measure => simp [intOf]; omega
    · have hltz : ¬ (k : Int) < (N.length : Int) := by omega
      obtain rfl : k = N.length := by omega
      have hres : R = true := by rw [← hR2.out]; exact all_yes hdone.out
      subst hres
      go_wp2
      go_ret
      exact ⟨rfl, hal.out⟩

end Go.Proofs.YtjelgphhlcecoaaGreatDoor
namespace Go.Proofs.YtjelgphhlcecoaaGreatDoor
open Go.RowKit

structure RgtA (N : List (List Int)) (A : List Int) : Prop where
  rgt : RgtN N
  pos : 0 < N.length
  few : N.length ≤ 240
  len : N.length = A.length
  acc : ∀ j, j < A.length → -1 ≤ A.getD j 0
theorem rgtA_of {N : List (List Int)} {A : List Int} (h : rgtB N A = true) : RgtA N A := by
  unfold rgtB at h
  rw [Bool.and_eq_true, Bool.and_eq_true, Bool.and_eq_true, decide_eq_true_iff, decide_eq_true_iff, decide_eq_true_iff, List.all_eq_true] at h
  obtain ⟨h1, h2, h3, h4⟩ := h
  have key : ∀ j, j < N.length → (N.getD j []).length = 256 ∧ -1 ≤ A.getD j 0 ∧ ∀ c, c < 256 → -1 ≤ (N.getD j []).getD c 0 ∧ (N.getD j []).getD c 0 < (N.length : Int) := by
    intro j hj
    have h5 := h4 j (by simpa using hj)
    unfold rowB at h5
    rw [Bool.and_eq_true, Bool.and_eq_true, decide_eq_true_iff, decide_eq_true_iff, List.all_eq_true] at h5
    refine ⟨h5.1, h5.2.1, fun c hc => ?_⟩
    have h6 := h5.2.2 c (by simpa using hc)
    unfold okB at h6
    rw [Bool.and_eq_true, decide_eq_true_iff, decide_eq_true_iff] at h6
    exact h6
  exact ⟨fun j hj => ⟨(key j hj).1, (key j hj).2.2⟩, h1, h2, h3, fun j hj => (key j (by omega)).2.1⟩
theorem rgtB_of {N : List (List Int)} {A : List Int} (h : RgtA N A) : rgtB N A = true := by
  unfold rgtB
  rw [Bool.and_eq_true, Bool.and_eq_true, Bool.and_eq_true, decide_eq_true_iff, decide_eq_true_iff, decide_eq_true_iff, List.all_eq_true]
  refine ⟨h.pos, h.few, h.len, fun j hj => ?_⟩
  have hj' : j < N.length := by simpa using hj
  unfold rowB
  rw [Bool.and_eq_true, Bool.and_eq_true, decide_eq_true_iff, decide_eq_true_iff, List.all_eq_true]
  refine ⟨(h.rgt j hj').1, h.acc j (by rw [← h.len]; exact hj'), fun c hc => ?_⟩
  unfold okB
  rw [Bool.and_eq_true, decide_eq_true_iff, decide_eq_true_iff]
  exact (h.rgt j hj').2 c (by simpa using hc)
def goB (N : List (List Int)) (A : List Int) (s : Txt) : Int := if rgtB N A then goK N s s.length else -1
def accB (N : List (List Int)) (A : List Int) (s : Txt) : Int := if goB N A s = -1 then -1 else A.getD (goB N A s).toNat 0
theorem goB_no {N : List (List Int)} {A : List Int} {s : Txt} (h : rgtB N A = false) : goB N A s = -1 := by unfold goB; rw [h]; rfl
theorem goB_yes {N : List (List Int)} {A : List Int} {s : Txt} (h : rgtB N A = true) : goB N A s = goK N s s.length := by unfold goB; rw [if_pos h]
theorem goB_in (N : List (List Int)) (A : List Int) (s : Txt) : goB N A s = -1 ∨ ∃ m : Nat, goB N A s = (m : Int) ∧ m < N.length ∧ N.length = A.length ∧ N.length ≤ 240 := by
  cases h : rgtB N A with
  | false => exact Or.inl (goB_no h)
  | true =>
    have H := rgtA_of h
    have := goK_in H.rgt H.pos s s.length
    rw [goB_yes h]
    by_cases e : goK N s s.length = -1
    · exact Or.inl e
    · exact Or.inr ⟨(goK N s s.length).toNat, by omega, by omega, H.len, H.few⟩
set_option maxRecDepth 20000 in
set_option maxHeartbeats 4000000 in
theorem goD (nv av : Value) (N : List (List Int)) (A : List Int) (s : Txt) (w : World) (hN : Numss w nv N) (hA : Nums w av A) (hl : N.length ≤ 1000) (hs : s.length ≤ 100000) :
    Calls Tryz.prog 25 #[.agg #[nv, av], .string (strT s)] w fun e w' => e = .returned (.int .i64 (goB N A s)) ∧ Below w.heap.size w w' := by
  have hal : Hid (Below w.heap.size w (w.alloc (.cells #[nv, av] 25))) := hid (al' w _)
  have GR := hid (rightD nv av N A _ (hN.keep hal.out) (hA.keep hal.out) hl)
  cases hr : rgtB N A with
  | false =>
    rw [hr] at GR
    rw [goB_no hr]
    obtain ⟨na, nc, rfl⟩ : ∃ a c, nv = .slice a N.length c := by obtain ⟨a, c, e, _⟩ := hN; exact ⟨a, c, e⟩
    obtain ⟨va, vc, rfl⟩ : ∃ a c, av = .slice a A.length c := by obtain ⟨a, c, e, _⟩ := hA; exact ⟨a, c, e⟩
    clear hN hA hr
    go_enter Tryz.func25, Tryz.ntmps25
    go_wp2_with (go_at_call 20; refine GR.out.mono ?_; rintro e w1 ⟨rfl, hb1⟩)
    go_ret
    exact ⟨rfl, bl_step hal.out hb1⟩
  | true =>
    rw [hr] at GR
    rw [goB_yes hr]
    have H := rgtA_of hr
    obtain ⟨R, hR⟩ : ∃ R, Hid (goK N s s.length = R) := ⟨_, hid rfl⟩
    rw [hR.out]
    have hG := hid (goK_in H.rgt H.pos s)
    have hr' := hid H.rgt
    obtain ⟨na, nc, rfl⟩ : ∃ a c, nv = .slice a N.length c := by obtain ⟨a, c, e, _⟩ := hN; exact ⟨a, c, e⟩
    have hN' := hid hN
    have hsz := strT_size s
    have hq := hid (heap_new w (.cells #[.slice na N.length nc, av] 25))
    obtain ⟨va, vc, rfl⟩ : ∃ a c, av = .slice a A.length c := by obtain ⟨a, c, e, _⟩ := hA; exact ⟨a, c, e⟩
    clear hN hA hr H
    go_enter Tryz.func25, Tryz.ntmps25
    go_wp2_with (go_at_call 20; refine GR.out.mono ?_; rintro e w1 ⟨rfl, hb1⟩)
    have hq1 := hid ((hb1.block _ (blk_lt hq.out)).trans hq.out)
    have hbw1 := hid (bl_step hal.out hb1)
    clear GR hb1 hq hal
    go_loopw [5, 6] (fun a i wr => ∃ k : Nat, k ≤ s.length ∧ i = .int .i64 k ∧ a = .int .i64 (goK N s k) ∧ Below w1.heap.size w1 wr) (fun _ i _ => s.length - (intOf i).toNat)
    case atStart => exact ⟨0, Nat.zero_le _, rfl, rfl, Below.refl _ _⟩
    case round =>
      obtain ⟨k, hk, rfl, rfl, hbl⟩ := hrel
      have hblw : Below w.heap.size w wr := bl_step hbw1.out hbl
      have hc0 : wr.cell? ⟨w.heap.size, 0, none⟩ = some (.slice na N.length nc) := keep_cell hbl (blk_cell hq1.out rfl)
      have hg := hG.out k
      by_cases hlt : k < s.length
      · have hltz : (k : Int) < (s.length : Int) := by omega
        have hltn : k < (strT s).size := by omega
        have hgs := hid (goK_succ N s k)
        have hout := hid (fun h => goK_out (N := N) (s := s) (i := k) h (s.length - k - 1))
        generalize goK N s k = at0 at hg hgs hout
        by_cases hneg : at0 = -1
        · have hres : R = -1 := by
            have := hout.out (by omega)
            rw [show k + (s.length - k - 1) + 1 = s.length by omega] at this
            rw [← hR.out, this]
          subst hres
          subst hneg
          clear hout hgs hR
          go_wp2
          go_ret
          exact ⟨rfl, hblw⟩
        · obtain ⟨m, rfl⟩ : ∃ m : Nat, at0 = (m : Int) := ⟨at0.toNat, by omega⟩
          have hm : m < N.length := by omega
          obtain ⟨b1, o1, x, rfl, hb1, hx, hNx⟩ := numss_get (hN'.out.keep hblw) hm
          have hrow := hr'.out m hm
          have hcl : (s.getD k 0).toNat < (N.getD m []).length := by rw [hrow.1]; exact (s.getD k 0).toNat_lt
          obtain ⟨b2, o2, c2, rfl, hb2, hy⟩ := nums_get hNx hcl
          have hlen := hrow.1
          rw [hlen] at hx hcl
          have hgd : s.getD k 0 = s[k]'hlt := by rw [List.getD_eq_getElem?_getD, List.getElem?_eq_getElem hlt]; rfl
          have key : (((strT s)[k]'hltn).toNat : Int) = ((s.getD k 0).toNat : Int) := by rw [hgd]; exact congrArg (fun c : UInt8 => (c.toNat : Int)) (strT_at s k hltn hlt)
          have hgs' : Hid (goK N s (k + 1) = (N.getD m []).getD (s.getD k 0).toNat 0) := hid (by rw [hgs.out, if_neg (by omega), Int.toNat_natCast])
          clear hgs hrow hgd hNx
          generalize (N.getD m []).getD (s.getD k 0).toNat 0 = y at hy hgs'
          generalize (s.getD k 0).toNat = c at *
          have hcz : (c : Int) < 256 := by omega
          have hmz : (m : Int) < (N.length : Int) := by omega
          have hmn : ((m : Int) == -1) = false := by rw [beq_eq_false_iff_ne]; omega
          clear hout hneg
          go_wp2_with fail
          go_quiet (fail)
          go_wp2
          go_roundw
          case rel => exact ⟨k + 1, by omega, by go_num, by rw [hgs'.out], by first | exact hbl | exact belowN hbl⟩
          case measure => simp [intOf]; omega
      · have hltz : ¬ (k : Int) < (s.length : Int) := by omega
        obtain rfl : k = s.length := by omega
        have hR' := hR.out
        go_wp2
        go_ret
        exact ⟨by rw [← hR']; rfl, hblw⟩
set_option maxRecDepth 20000 in
set_option maxHeartbeats 2000000 in
theorem acceptsD (nv av : Value) (N : List (List Int)) (A : List Int) (s : Txt) (w : World) (hN : Numss w nv N) (hA : Nums w av A) (hl : N.length ≤ 1000) (hs : s.length ≤ 100000) :
    Calls Tryz.prog 14 #[.agg #[nv, av], .string (strT s)] w fun e w' => e = .returned (.int .i64 (accB N A s)) ∧ Below w.heap.size w w' := by
  have hal : Hid (Below w.heap.size w (w.alloc (.cells #[nv, av] 25))) := hid (al' w _)
  have GG := hid (goD nv av N A s _ (hN.keep hal.out) (hA.keep hal.out) hl hs)
  obtain ⟨na, nc, rfl⟩ : ∃ a c, nv = .slice a N.length c := by obtain ⟨a, c, e, _⟩ := hN; exact ⟨a, c, e⟩
  obtain ⟨va, vc, rfl⟩ : ∃ a c, av = .slice a A.length c := by obtain ⟨a, c, e, _⟩ := hA; exact ⟨a, c, e⟩
  have hA' := hid (nums_cell (hA.keep hal.out))
  have hq := hid (heap_new w (.cells #[.slice na N.length nc, .slice va A.length vc] 25))
  have hin := goB_in N A s
  unfold accB
  clear hN hA
  generalize goB N A s = g at GG hin ⊢
  rcases hin with rfl | ⟨m, rfl, hm, hlen, hm2⟩
  · rw [if_pos rfl]
    go_enter Tryz.func14, Tryz.ntmps14
    go_wp2_with (go_at_call 25; refine GG.out.mono ?_; rintro e w1 ⟨rfl, hb1⟩)
    go_ret
    exact ⟨rfl, bl_step hal.out hb1⟩
  · rw [if_neg (by omega), Int.toNat_natCast]
    obtain ⟨b2, o2, rfl, hb2, hy⟩ := hA'.out m (by omega)
    have hmn : ((m : Int) == -1) = false := by rw [beq_eq_false_iff_ne]; omega
    have hmz : (m : Int) < (A.length : Int) := by omega
    generalize A.getD m 0 = y at hy ⊢
    generalize A.length = nA at *
    clear hlen hA'
    go_enter Tryz.func14, Tryz.ntmps14
    go_wp2_with (go_at_call 25; refine GG.out.mono ?_; rintro e w1 ⟨rfl, hb1⟩; have q1 : w1.cell? ⟨w.heap.size, 1, none⟩ = some (.slice (some ⟨b2, o2, none⟩) nA vc) := keep_cell hb1 (blk_cell hq.out rfl); have y1 := keep_cell hb1 hy)
    go_ret
    exact ⟨rfl, bl_step hal.out hb1⟩

end Go.Proofs.YtjelgphhlcecoaaGreatDoor
namespace Go.Proofs.YtjelgphhlcecoaaGreatDoor

/-- where a state leads by a byte; nowhere is the number behind all -/
def nxA (N : List (List Int)) (i b : Nat) : Nat := if N.length ≤ i then N.length else if (N.getD i []).getD b 0 < 0 then N.length else ((N.getD i []).getD b 0).toNat
def acA (N : List (List Int)) (A : List Int) (i : Nat) : Int := if N.length ≤ i then -1 else A.getD i 0
def goA (N : List (List Int)) : Nat → Txt → Nat
  | i, [] => i
  | i, c :: s => goA N (nxA N i c.toNat) s
/-- what a state does -/
def doA (N : List (List Int)) (A : List Int) (i : Nat) (s : Txt) : Int := acA N A (goA N i s)
def Alk (N : List (List Int)) (A : List Int) (i j : Nat) : Prop := ∀ s, doA N A i s = doA N A j s
def AlkK (N : List (List Int)) (A : List Int) (k i j : Nat) : Prop := ∀ s : Txt, s.length ≤ k → doA N A i s = doA N A j s
theorem nxA_none (N : List (List Int)) (b : Nat) : nxA N N.length b = N.length := by unfold nxA; rw [if_pos (Nat.le_refl _)]
theorem nxA_le {N : List (List Int)} (h : RgtN N) (i : Nat) {b : Nat} (hb : b < 256) : nxA N i b ≤ N.length := by
  unfold nxA
  split
  · exact Nat.le_refl _
  · split
    · exact Nat.le_refl _
    · have := (h i (by omega)).2 b hb
      omega
theorem doA_nil (N : List (List Int)) (A : List Int) (i : Nat) : doA N A i [] = acA N A i := rfl
theorem doA_cons (N : List (List Int)) (A : List Int) (i : Nat) (c : UInt8) (s : Txt) : doA N A i (c :: s) = doA N A (nxA N i c.toNat) s := rfl
theorem doA_none (N : List (List Int)) (A : List Int) : ∀ s, doA N A N.length s = -1
  | [] => by rw [doA_nil]; unfold acA; rw [if_pos (Nat.le_refl _)]
  | c :: s => by rw [doA_cons, nxA_none]; exact doA_none N A s
theorem goA_le {N : List (List Int)} (h : RgtN N) : ∀ (s : Txt) (i : Nat), i ≤ N.length → goA N i s ≤ N.length
  | [], _, hi => hi
  | c :: s, i, _ => goA_le h s _ (nxA_le h i c.toNat_lt)
theorem goA_app (N : List (List Int)) : ∀ (s t : Txt) (i : Nat), goA N i (s ++ t) = goA N (goA N i s) t
  | [], _, _ => rfl
  | c :: s, t, i => goA_app N s t (nxA N i c.toNat)
theorem Alk.refl (N : List (List Int)) (A : List Int) (i : Nat) : Alk N A i i := fun _ => rfl
theorem Alk.symm {N : List (List Int)} {A : List Int} {i j : Nat} (h : Alk N A i j) : Alk N A j i := fun s => (h s).symm
theorem Alk.trans {N : List (List Int)} {A : List Int} {i j k : Nat} (h : Alk N A i j) (h' : Alk N A j k) : Alk N A i k := fun s => (h s).trans (h' s)
theorem Alk.next {N : List (List Int)} {A : List Int} {i j : Nat} (h : Alk N A i j) {b : Nat} (hb : b < 256) : Alk N A (nxA N i b) (nxA N j b) := fun s => by
  have := h (UInt8.ofNat b :: s)
  rw [doA_cons, doA_cons, UInt8.toNat_ofNat', Nat.mod_eq_of_lt hb] at this
  exact this
theorem alkK_zero (N : List (List Int)) (A : List Int) (i j : Nat) : AlkK N A 0 i j ↔ acA N A i = acA N A j :=
  ⟨fun h => h [] (Nat.le_refl _), fun h s hs => by
    have : s = [] := List.eq_nil_of_length_eq_zero (by omega)
    subst this
    exact h⟩
theorem alkK_succ (N : List (List Int)) (A : List Int) (k i j : Nat) : AlkK N A (k + 1) i j ↔ AlkK N A k i j ∧ ∀ b, b < 256 → AlkK N A k (nxA N i b) (nxA N j b) := by
  constructor
  · intro h
    refine ⟨fun s hs => h s (by omega), fun b hb s hs => ?_⟩
    have := h (UInt8.ofNat b :: s) (by rw [List.length_cons]; omega)
    rw [doA_cons, doA_cons, UInt8.toNat_ofNat', Nat.mod_eq_of_lt hb] at this
    exact this
  · rintro ⟨h0, h1⟩ s hs
    cases s with
    | nil => exact h0 [] (Nat.zero_le _)
    | cons c s => exact h1 c.toNat c.toNat_lt s (by rw [List.length_cons] at hs; omega)
/-- if a round tells none apart, none are -/
theorem alk_stable {N : List (List Int)} {A : List Int} (hN : RgtN N) {k : Nat} (h : ∀ i j, i ≤ N.length → j ≤ N.length → AlkK N A k i j → AlkK N A (k + 1) i j) : ∀ i j, i ≤ N.length → j ≤ N.length → AlkK N A k i j → Alk N A i j := by
  have key : ∀ (s : Txt) i j, i ≤ N.length → j ≤ N.length → AlkK N A k i j → doA N A i s = doA N A j s := by
    intro s
    induction s with
    | nil => intro i j _ _ h0; exact h0 [] (Nat.zero_le _)
    | cons c s ih =>
      intro i j hi hj h0
      rw [doA_cons, doA_cons]
      exact ih _ _ (nxA_le hN i c.toNat_lt) (nxA_le hN j c.toNat_lt) (((alkK_succ N A k i j).1 (h i j hi hj h0)).2 _ c.toNat_lt)
  exact fun i j hi hj h0 s => key s i j hi hj h0

/-- keys as they are met -/
def distK {κ : Type} [DecidableEq κ] (f : Nat → κ) : Nat → List κ
  | 0 => []
  | k + 1 => if f k ∈ distK f k then distK f k else distK f k ++ [f k]
theorem distK_old {κ : Type} [DecidableEq κ] {f : Nat → κ} {k : Nat} (h : f k ∈ distK f k) : distK f (k + 1) = distK f k := by rw [distK, if_pos h]
theorem distK_new {κ : Type} [DecidableEq κ] {f : Nat → κ} {k : Nat} (h : ¬ f k ∈ distK f k) : distK f (k + 1) = distK f k ++ [f k] := by rw [distK, if_neg h]
theorem distK_mem {κ : Type} [DecidableEq κ] (f : Nat → κ) (x : κ) : ∀ k, x ∈ distK f k ↔ ∃ i, i < k ∧ f i = x
  | 0 => by simp [distK]
  | k + 1 => by
    have ih := distK_mem f x k
    by_cases h : f k ∈ distK f k
    · rw [distK_old h, ih]
      constructor
      · rintro ⟨i, hi, e⟩; exact ⟨i, by omega, e⟩
      · rintro ⟨i, hi, e⟩
        rcases Nat.lt_or_ge i k with hl | hl
        · exact ⟨i, hl, e⟩
        · obtain rfl : i = k := by omega
          rw [e, ih] at h
          exact h
    · rw [distK_new h, List.mem_append, ih, List.mem_singleton]
      constructor
      · rintro (⟨i, hi, e⟩ | e)
        · exact ⟨i, by omega, e⟩
        · exact ⟨k, by omega, e.symm⟩
      · rintro ⟨i, hi, e⟩
        rcases Nat.lt_or_ge i k with hl | hl
        · exact Or.inl ⟨i, hl, e⟩
        · obtain rfl : i = k := by omega
          exact Or.inr e.symm
theorem distK_len {κ : Type} [DecidableEq κ] (f : Nat → κ) : ∀ k, (distK f k).length ≤ k
  | 0 => by simp [distK]
  | k + 1 => by
    have ih := distK_len f k
    by_cases h : f k ∈ distK f k
    · rw [distK_old h]; omega
    · rw [distK_new h]; simp; omega
theorem distK_pre {κ : Type} [DecidableEq κ] (f : Nat → κ) (k : Nat) : ∀ d, ∃ U, distK f (k + d) = distK f k ++ U
  | 0 => ⟨[], by simp⟩
  | d + 1 => by
    obtain ⟨U, hU⟩ := distK_pre f k d
    rw [← Nat.add_assoc]
    by_cases h : f (k + d) ∈ distK f (k + d)
    · exact ⟨U, by rw [distK_old h, hU]⟩
    · exact ⟨U ++ [f (k + d)], by rw [distK_new h, hU, List.append_assoc]⟩
/-- the kinds of the first m, by their keys -/
def kndK {κ : Type} [DecidableEq κ] (f : Nat → κ) (m : Nat) : List Int := (List.range m).map fun i => ((distK f m).idxOf (f i) : Int)
theorem kndK_len {κ : Type} [DecidableEq κ] (f : Nat → κ) (m : Nat) : (kndK f m).length = m := by simp [kndK]
theorem idx_same {κ : Type} [DecidableEq κ] (f : Nat → κ) {i m : Nat} (h : i < m) : (distK f m).idxOf (f i) = (distK f (i + 1)).idxOf (f i) := by
  obtain ⟨U, hU⟩ := distK_pre f (i + 1) (m - (i + 1))
  rw [show i + 1 + (m - (i + 1)) = m by omega] at hU
  rw [hU, List.idxOf_append, if_pos ((distK_mem f _ _).2 ⟨i, by omega, rfl⟩)]
theorem kndK_succ {κ : Type} [DecidableEq κ] (f : Nat → κ) (m : Nat) : kndK f (m + 1) = kndK f m ++ [((distK f (m + 1)).idxOf (f m) : Int)] := by
  unfold kndK
  rw [List.range_succ, List.map_append]
  congr 1
  apply List.map_congr_left
  intro i hi
  have hi' : i < m := by simpa using hi
  rw [idx_same f (show i < m + 1 by omega), idx_same f hi']
theorem idx_old {κ : Type} [DecidableEq κ] {f : Nat → κ} {k : Nat} (h : f k ∈ distK f k) : (distK f (k + 1)).idxOf (f k) = (distK f k).idxOf (f k) := by rw [distK_old h]
theorem idx_new {κ : Type} [DecidableEq κ] {f : Nat → κ} {k : Nat} (h : ¬ f k ∈ distK f k) : (distK f (k + 1)).idxOf (f k) = (distK f k).length := by
  rw [distK_new h, List.idxOf_append, if_neg h]
  simp
theorem kndK_get {κ : Type} [DecidableEq κ] (f : Nat → κ) {i m : Nat} (h : i < m) : (kndK f m).getD i 0 = ((distK f m).idxOf (f i) : Int) := by
  rw [List.getD_eq_getElem?_getD, List.getElem?_eq_getElem (by rw [kndK_len]; exact h)]
  simp [kndK]
theorem kndK_lt {κ : Type} [DecidableEq κ] (f : Nat → κ) {i m : Nat} (h : i < m) : 0 ≤ (kndK f m).getD i 0 ∧ (kndK f m).getD i 0 < (m : Int) := by
  rw [kndK_get f h]
  have h1 : (distK f m).idxOf (f i) < (distK f m).length := List.idxOf_lt_length_of_mem ((distK_mem f _ _).2 ⟨i, h, rfl⟩)
  have := distK_len f m
  omega
theorem idx_inj {κ : Type} [DecidableEq κ] {l : List κ} {a b : κ} (ha : a ∈ l) (hb : b ∈ l) (h : l.idxOf a = l.idxOf b) : a = b := by
  have h1 : l.idxOf a < l.length := List.idxOf_lt_length_of_mem ha
  have h2 : l.idxOf b < l.length := List.idxOf_lt_length_of_mem hb
  have e1 := List.getElem_idxOf h1
  have e2 := List.getElem_idxOf h2
  rw [← e1, ← e2]
  congr 1
theorem kndK_iff {κ : Type} [DecidableEq κ] (f : Nat → κ) {i j m : Nat} (hi : i < m) (hj : j < m) : (kndK f m).getD i 0 = (kndK f m).getD j 0 ↔ f i = f j := by
  rw [kndK_get f hi, kndK_get f hj]
  constructor
  · intro h
    exact idx_inj ((distK_mem f _ _).2 ⟨i, hi, rfl⟩) ((distK_mem f _ _).2 ⟨j, hj, rfl⟩) (by omega)
  · intro h; rw [h]
/-- kinds by finer keys, and as many: the same kinds -/
theorem dist_more {κ μ : Type} [DecidableEq κ] [DecidableEq μ] {f : Nat → κ} {g : Nat → μ} {m : Nat} (h : ∀ i j, i < m → j < m → f i = f j → g i = g j) : ∀ k, k ≤ m → (distK g k).length ≤ (distK f k).length ∧ ((distK f k).length = (distK g k).length → ∀ i j, i < k → j < k → g i = g j → f i = f j)
  | 0, _ => ⟨by simp [distK], fun _ i j hi => absurd hi (Nat.not_lt_zero _)⟩
  | k + 1, hk => by
    obtain ⟨ih1, ih2⟩ := dist_more h k (by omega)
    by_cases hf : f k ∈ distK f k
    · obtain ⟨i0, hi0, e0⟩ := (distK_mem f _ _).1 hf
      have hg : g k ∈ distK g k := (distK_mem g _ _).2 ⟨i0, hi0, h _ _ (by omega) (by omega) e0⟩
      rw [distK_old hf, distK_old hg]
      refine ⟨ih1, fun he i j hi hj hij => ?_⟩
      have ih := ih2 he
      have hlast : ∀ i, i < k → g i = g k → f i = f k := fun i hi e => by
        rw [← e0]
        exact ih i i0 hi hi0 (e.trans (h _ _ (by omega) (by omega) e0).symm)
      rcases Nat.lt_or_ge i k with hi' | hi' <;> rcases Nat.lt_or_ge j k with hj' | hj'
      · exact ih i j hi' hj' hij
      · obtain rfl : j = k := by omega
        exact hlast i hi' hij
      · obtain rfl : i = k := by omega
        exact (hlast j hj' hij.symm).symm
      · obtain rfl : i = k := by omega
        obtain rfl : j = i := by omega
        rfl
    · rw [distK_new hf]
      by_cases hg : g k ∈ distK g k
      · rw [distK_old hg]
        refine ⟨by simp; omega, fun he => ?_⟩
        simp at he
        omega
      · rw [distK_new hg]
        refine ⟨by simpa using ih1, fun he i j hi hj hij => ?_⟩
        have ih := ih2 (by simpa using he)
        have hno : ∀ i, i < k → g i = g k → False := fun i hi e => hg ((distK_mem g _ _).2 ⟨i, hi, e⟩)
        rcases Nat.lt_or_ge i k with hi' | hi' <;> rcases Nat.lt_or_ge j k with hj' | hj'
        · exact ih i j hi' hj' hij
        · obtain rfl : j = k := by omega
          exact absurd hij (fun e => hno i hi' e)
        · obtain rfl : i = k := by omega
          exact absurd hij (fun e => hno j hj' e.symm)
        · obtain rfl : i = k := by omega
          obtain rfl : j = i := by omega
          rfl

end Go.Proofs.YtjelgphhlcecoaaGreatDoor
namespace Go.Proofs.YtjelgphhlcecoaaGreatDoor

/-- behind b bytes of a state: the states that are met by then, and its row (z is nowhere) -/
def rowM (al : Nat → Nat → Bool) (z : Nat) (to : Nat → Nat) (S : List Nat) : Nat → List Nat × List Int
  | 0 => (S, [])
  | b + 1 =>
    if al (to b) z then ((rowM al z to S b).1, (rowM al z to S b).2 ++ [-1])
    else if (rowM al z to S b).1.findIdx (al (to b)) < (rowM al z to S b).1.length then ((rowM al z to S b).1, (rowM al z to S b).2 ++ [((rowM al z to S b).1.findIdx (al (to b)) : Int)])
    else ((rowM al z to S b).1 ++ [to b], (rowM al z to S b).2 ++ [((rowM al z to S b).1.length : Int)])
theorem rowM_none {al : Nat → Nat → Bool} {z : Nat} {to : Nat → Nat} {S : List Nat} {b : Nat} (h : al (to b) z = true) : rowM al z to S (b + 1) = ((rowM al z to S b).1, (rowM al z to S b).2 ++ [-1]) := by rw [rowM, if_pos h]
theorem rowM_old {al : Nat → Nat → Bool} {z : Nat} {to : Nat → Nat} {S : List Nat} {b : Nat} (h : al (to b) z = false) (hf : (rowM al z to S b).1.findIdx (al (to b)) < (rowM al z to S b).1.length) : rowM al z to S (b + 1) = ((rowM al z to S b).1, (rowM al z to S b).2 ++ [((rowM al z to S b).1.findIdx (al (to b)) : Int)]) := by rw [rowM, if_neg (by simp [h]), if_pos hf]
theorem rowM_new {al : Nat → Nat → Bool} {z : Nat} {to : Nat → Nat} {S : List Nat} {b : Nat} (h : al (to b) z = false) (hf : ¬ (rowM al z to S b).1.findIdx (al (to b)) < (rowM al z to S b).1.length) : rowM al z to S (b + 1) = ((rowM al z to S b).1 ++ [to b], (rowM al z to S b).2 ++ [((rowM al z to S b).1.length : Int)]) := by rw [rowM, if_neg (by simp [h]), if_neg hf]
theorem rowM_cases (al : Nat → Nat → Bool) (z : Nat) (to : Nat → Nat) (S : List Nat) (b : Nat) :
    (al (to b) z = true ∧ rowM al z to S (b + 1) = ((rowM al z to S b).1, (rowM al z to S b).2 ++ [-1])) ∨
    (al (to b) z = false ∧ (rowM al z to S b).1.findIdx (al (to b)) < (rowM al z to S b).1.length ∧ rowM al z to S (b + 1) = ((rowM al z to S b).1, (rowM al z to S b).2 ++ [((rowM al z to S b).1.findIdx (al (to b)) : Int)])) ∨
    (al (to b) z = false ∧ ¬ (rowM al z to S b).1.findIdx (al (to b)) < (rowM al z to S b).1.length ∧ rowM al z to S (b + 1) = ((rowM al z to S b).1 ++ [to b], (rowM al z to S b).2 ++ [((rowM al z to S b).1.length : Int)])) := by
  cases h : al (to b) z with
  | true => exact Or.inl ⟨rfl, rowM_none h⟩
  | false =>
    by_cases hf : (rowM al z to S b).1.findIdx (al (to b)) < (rowM al z to S b).1.length
    · exact Or.inr (Or.inl ⟨rfl, hf, rowM_old h hf⟩)
    · exact Or.inr (Or.inr ⟨rfl, hf, rowM_new h hf⟩)
/-- the states that are met behind i of them, the rows, what they accept -/
def stM (al : Nat → Nat → Bool) (N : List (List Int)) : Nat → List Nat
  | 0 => [0]
  | i + 1 => (rowM al N.length (nxA N ((stM al N i).getD i 0)) (stM al N i) 256).1
def nxM (al : Nat → Nat → Bool) (N : List (List Int)) : Nat → List (List Int)
  | 0 => []
  | i + 1 => nxM al N i ++ [(rowM al N.length (nxA N ((stM al N i).getD i 0)) (stM al N i) 256).2]
def acM (al : Nat → Nat → Bool) (N : List (List Int)) (A : List Int) : Nat → List Int
  | 0 => []
  | i + 1 => acM al N A i ++ [A.getD ((stM al N i).getD i 0) 0]
theorem nxM_len (al : Nat → Nat → Bool) (N : List (List Int)) : ∀ i, (nxM al N i).length = i
  | 0 => rfl
  | i + 1 => by rw [nxM, List.length_append, nxM_len al N i]; rfl
theorem acM_len (al : Nat → Nat → Bool) (N : List (List Int)) (A : List Int) : ∀ i, (acM al N A i).length = i
  | 0 => rfl
  | i + 1 => by rw [acM, List.length_append, acM_len al N A i]; rfl
/-- what tells alike states -/
def AlB (N : List (List Int)) (A : List Int) (al : Nat → Nat → Bool) : Prop := ∀ i j, i ≤ N.length → j ≤ N.length → (al i j = true ↔ Alk N A i j)
/-- states that are met: none alike, none nowhere -/
structure MetS (N : List (List Int)) (A : List Int) (S : List Nat) : Prop where
  lt : ∀ x ∈ S, x < N.length
  apart : ∀ i j (hi : i < S.length) (hj : j < S.length), Alk N A S[i] S[j] → i = j
  alive : ∀ i (hi : i < S.length), 0 < i → ¬ Alk N A S[i] N.length
  zero : S.head? = some 0
theorem MetS.nodup {N : List (List Int)} {A : List Int} {S : List Nat} (h : MetS N A S) : S.Nodup := by
  rw [List.Nodup, List.pairwise_iff_getElem]
  intro i j hi hj hij e
  have := h.apart i j hi hj (by rw [e]; exact Alk.refl _ _ _)
  omega
theorem nodup_few : ∀ (n : Nat) (S : List Nat), S.Nodup → (∀ x ∈ S, x < n) → S.length ≤ n
  | 0, S, _, h => by
    cases S with
    | nil => simp
    | cons a l => exact absurd (h a (by simp)) (Nat.not_lt_zero _)
  | n + 1, S, hS, h => by
    have h1 := nodup_few n (S.erase n) (hS.erase n) (fun x hx => by
      have hx' := (List.Nodup.mem_erase_iff hS).1 hx
      have := h x hx'.2
      omega)
    by_cases hm : n ∈ S
    · rw [List.length_erase_of_mem hm] at h1
      omega
    · rw [List.erase_of_not_mem hm] at h1
      omega
theorem MetS.few {N : List (List Int)} {A : List Int} {S : List Nat} (h : MetS N A S) : S.length ≤ N.length := nodup_few _ _ h.nodup h.lt
theorem MetS.pos {N : List (List Int)} {A : List Int} {S : List Nat} (h : MetS N A S) : 0 < S.length := by
  cases S with
  | nil => exact absurd h.zero (by simp)
  | cons => simp
theorem MetS.start {N : List (List Int)} {A : List Int} (h : 0 < N.length) : MetS N A [0] where
  lt := fun x hx => by
    have : x = 0 := by simpa using hx
    omega
  apart := fun i j hi hj _ => by simp at hi hj; omega
  alive := fun i hi h0 => by simp at hi; omega
  zero := rfl
theorem MetS.more {N : List (List Int)} {A : List Int} {S : List Nat} (h : MetS N A S) {t : Nat} (ht : t ≤ N.length) (hd : ¬ Alk N A t N.length) (hn : ∀ j (hj : j < S.length), ¬ Alk N A t S[j]) : MetS N A (S ++ [t]) where
  lt := fun x hx => by
    rcases List.mem_append.1 hx with hx | hx
    · exact h.lt x hx
    · have : x = t := by simpa using hx
      subst this
      rcases Nat.lt_or_ge x N.length with hl | hl
      · exact hl
      · have : x = N.length := by omega
        subst this
        exact absurd (Alk.refl _ _ _) hd
  apart := fun i j hi hj e => by
    rw [List.length_append, List.length_singleton] at hi hj
    rcases Nat.lt_or_ge i S.length with hi' | hi' <;> rcases Nat.lt_or_ge j S.length with hj' | hj'
    · rw [List.getElem_append_left hi', List.getElem_append_left hj'] at e
      exact h.apart i j hi' hj' e
    · rw [List.getElem_append_left hi', List.getElem_append_right hj'] at e
      simp at e
      exact absurd e.symm (hn i hi')
    · rw [List.getElem_append_left hj', List.getElem_append_right hi'] at e
      simp at e
      exact absurd e (hn j hj')
    · omega
  alive := fun i hi h0 => by
    rw [List.length_append, List.length_singleton] at hi
    rcases Nat.lt_or_ge i S.length with hi' | hi'
    · rw [List.getElem_append_left hi']
      exact h.alive i hi' h0
    · rw [List.getElem_append_right hi']
      simpa using hd
  zero := by
    have := h.zero
    cases S with
    | nil => exact absurd this (by simp)
    | cons => simpa using this
/-- a number of a row is right -/
def NumM (N : List (List Int)) (A : List Int) (T : List Nat) (to : Nat) (x : Int) : Prop := (Alk N A to N.length ∧ x = -1) ∨ (¬ Alk N A to N.length ∧ ∃ k, ∃ h : k < T.length, x = (k : Int) ∧ Alk N A to T[k])
theorem NumM.more {N : List (List Int)} {A : List Int} {T : List Nat} {to : Nat} {x : Int} (h : NumM N A T to x) (U : List Nat) : NumM N A (T ++ U) to x := by
  rcases h with h | ⟨h, k, hk, e, ha⟩
  · exact Or.inl h
  · exact Or.inr ⟨h, k, by rw [List.length_append]; omega, e, by rw [List.getElem_append_left hk]; exact ha⟩
structure RowMIs (N : List (List Int)) (A : List Int) (to : Nat → Nat) (S : List Nat) (b : Nat) (q : List Nat × List Int) : Prop where
  pre : ∃ U, q.1 = S ++ U
  met : MetS N A q.1
  len : q.2.length = b
  row : ∀ c, c < b → NumM N A q.1 (to c) (q.2.getD c 0)
theorem getDI_left {l : List Int} {x : Int} {c : Nat} (h : c < l.length) : (l ++ [x]).getD c 0 = l.getD c 0 := by
  simp [List.getD_eq_getElem?_getD, List.getElem?_append_left h]
theorem getDI_at {l : List Int} {x : Int} {c : Nat} (h : c = l.length) : (l ++ [x]).getD c 0 = x := by
  subst h
  simp [List.getD_eq_getElem?_getD]
theorem rowM_is {N : List (List Int)} {A : List Int} {al : Nat → Nat → Bool} (hal : AlB N A al) {to : Nat → Nat} {S : List Nat} (hS : MetS N A S) : ∀ b, b ≤ 256 → (∀ c, c < b → to c ≤ N.length) → RowMIs N A to S b (rowM al N.length to S b)
  | 0, _, _ => ⟨⟨[], by simp [rowM]⟩, hS, rfl, fun c hc => by omega⟩
  | b + 1, hb, hto => by
    have ih := rowM_is hal hS b (by omega) (fun c hc => hto c (by omega))
    obtain ⟨U, hU⟩ := ih.pre
    have htb := hto b (by omega)
    have hdead := hal (to b) N.length htb (Nat.le_refl _)
    rcases rowM_cases al N.length to S b with ⟨h, e⟩ | ⟨h, hm, e⟩ | ⟨h, hm, e⟩
    · rw [e]
      refine ⟨⟨U, hU⟩, ih.met, by simp [ih.len], fun c hc => ?_⟩
      rcases Nat.lt_or_ge c b with hlt | hge
      · rw [getDI_left (by rw [ih.len]; exact hlt)]
        exact ih.row c hlt
      · obtain rfl : c = b := by omega
        rw [getDI_at ih.len.symm]
        exact Or.inl ⟨hdead.1 h, rfl⟩
    · rw [e]
      refine ⟨⟨U, hU⟩, ih.met, by simp [ih.len], fun c hc => ?_⟩
      rcases Nat.lt_or_ge c b with hlt | hge
      · rw [getDI_left (by rw [ih.len]; exact hlt)]
        exact ih.row c hlt
      · obtain rfl : c = b := by omega
        rw [getDI_at ih.len.symm]
        refine Or.inr ⟨fun hd => (by rw [hdead.2 hd] at h; cases h), _, hm, rfl, ?_⟩
        have := List.findIdx_getElem (w := hm)
        exact (hal _ _ htb (Nat.le_of_lt (ih.met.lt _ (List.getElem_mem hm)))).1 this
    · rw [e]
      refine ⟨⟨U ++ [to b], by rw [hU, List.append_assoc]⟩, ?_, by simp [ih.len], fun c hc => ?_⟩
      · refine ih.met.more htb (fun hd => (by rw [hdead.2 hd] at h; cases h)) (fun j hj hd => ?_)
        have h1 := (hal _ _ htb (Nat.le_of_lt (ih.met.lt _ (List.getElem_mem hj)))).2 hd
        exact hm (List.findIdx_lt_length_of_exists ⟨_, List.getElem_mem hj, h1⟩)
      · rcases Nat.lt_or_ge c b with hlt | hge
        · rw [getDI_left (by rw [ih.len]; exact hlt)]
          exact (ih.row c hlt).more _
        · obtain rfl : c = b := by omega
          rw [getDI_at ih.len.symm]
          exact Or.inr ⟨fun hd => (by rw [hdead.2 hd] at h; cases h), _, by simp, rfl, by simp [Alk.refl]⟩
theorem stM_met {N : List (List Int)} {A : List Int} {al : Nat → Nat → Bool} (hal : AlB N A al) (hr : RgtA N A) : ∀ i, MetS N A (stM al N i)
  | 0 => MetS.start hr.pos
  | i + 1 => (rowM_is hal (stM_met hal hr i) 256 (Nat.le_refl _) (fun _ hc => nxA_le hr.rgt _ hc)).met
theorem stM_row {N : List (List Int)} {A : List Int} {al : Nat → Nat → Bool} (hal : AlB N A al) (hr : RgtA N A) (i : Nat) : RowMIs N A (nxA N ((stM al N i).getD i 0)) (stM al N i) 256 (rowM al N.length (nxA N ((stM al N i).getD i 0)) (stM al N i) 256) :=
  rowM_is hal (stM_met hal hr i) 256 (Nat.le_refl _) (fun _ hc => nxA_le hr.rgt _ hc)
theorem stM_pre {N : List (List Int)} {A : List Int} {al : Nat → Nat → Bool} (hal : AlB N A al) (hr : RgtA N A) (i : Nat) : ∀ d, ∃ U, stM al N (i + d) = stM al N i ++ U
  | 0 => ⟨[], by simp⟩
  | d + 1 => by
    obtain ⟨U, hU⟩ := stM_pre hal hr i d
    obtain ⟨V, hV⟩ := (stM_row hal hr (i + d)).pre
    exact ⟨U ++ V, by rw [← Nat.add_assoc, stM, hV, hU, List.append_assoc]⟩
/-- it ends behind m states -/
structure MkTo (al : Nat → Nat → Bool) (N : List (List Int)) (m : Nat) : Prop where
  all : (stM al N m).length = m
  on : ∀ j, j < m → j < (stM al N j).length
theorem mkTo_uniq {al : Nat → Nat → Bool} {N : List (List Int)} {m m' : Nat} (h : MkTo al N m) (h' : MkTo al N m') : m = m' := by
  rcases Nat.lt_trichotomy m m' with hl | hl | hl
  · have := h'.on m hl; have := h.all; omega
  · exact hl
  · have := h.on m' hl; have := h'.all; omega

end Go.Proofs.YtjelgphhlcecoaaGreatDoor
