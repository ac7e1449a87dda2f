/- dfa.rightRow, Right. dfa.Go, Accepts. The reader: escaped, told. -/
import Derived.Test.YtlpbeieljjgbaaaGreatDoorJ32
import Derived.Test.YtlpbeieljjgbaaaGreatDoorJ24
namespace Go.Proofs.YtlpbeieljjgbaaaGreatDoor
open Go.RowKit

def rrB (row : List Int) (n : Nat) : Bool := decide (row.length = 256) && (List.range 256).all fun b => okB n (row.getD b 0)
theorem nums_cell {w : World} {a : Option Addr} {n c : Nat} {l : List Int} (h : Nums w (.slice a n c) l) : ∀ j, j < l.length → ∃ b o, a = some ⟨b, o, none⟩ ∧ b < w.heap.size ∧ w.cell? ⟨b, o + j, none⟩ = some (.int .i64 (l.getD j 0)) := by
  intro j hj
  obtain ⟨a', c', e, _, _, hat⟩ := h
  injection e with e1 e2 e3
  subst e1
  obtain ⟨b, o, h1, h2, h3⟩ := hat j hj
  refine ⟨b, o, h1, h2, ?_⟩
  rw [h3, List.getD_eq_getElem?_getD, List.getElem?_eq_getElem hj]
  rfl
set_option maxRecDepth 20000 in
set_option maxHeartbeats 2000000 in
theorem rightRowC (v : Value) (row : List Int) (n : Nat) (w : World) (_hn : n ≤ 1000) (hA : Nums w v row) :
    Calls Tryz.prog 22 #[v, .int .i64 (n : Int)] w fun e w' => e = .returned (.bool (rrB row n)) ∧ w' = w := by
  obtain ⟨R, hR⟩ : ∃ R, Hid (rrB row n = R) := ⟨_, hid rfl⟩
  rw [hR.out]
  obtain ⟨aa, ca, rfl⟩ : ∃ a c, v = .slice a row.length c := by obtain ⟨a, c, e, _⟩ := hA; exact ⟨a, c, e⟩
  have hA' := hid (nums_cell hA)
  clear hA
  by_cases d1 : row.length = 256
  case neg =>
    have hres : R = false := by rw [← hR.out, rrB, decide_eq_false d1]; rfl
    subst hres
    have d1z : ((row.length : Int) == 256) = false := by rw [beq_eq_false_iff_ne]; omega
    go_enter Tryz.func22, Tryz.ntmps22
    go_wp2
    go_ret
    exact ⟨rfl, rfl⟩
  have hR2 : Hid (((List.range 256).all fun b => okB n (row.getD b 0)) = R) := hid (by rw [← hR.out, rrB, decide_eq_true d1]; rfl)
  rw [d1] at hA' ⊢
  clear hR d1
  go_enter Tryz.func22, Tryz.ntmps22
  go_wp2
  go_loop [12] (fun i => ∃ k : Nat, k ≤ 256 ∧ i = .int .i64 k ∧ Hid (∀ j, j < k → okB n (row.getD j 0) = true)) (fun i => 256 - (intOf i).toNat)
  case atStart => exact ⟨0, Nat.zero_le _, rfl, hid (fun j hj => absurd hj (Nat.not_lt_zero _))⟩
  case round =>
    obtain ⟨c, hc, rfl, hin⟩ := hrel
    by_cases hcl : c < 256
    · have hcz : (c : Int) < 256 := by omega
      obtain ⟨b3, o3, rfl, hb3, h3⟩ := hA'.out c hcl
      have hf : Hid (okB n (row.getD c 0) = false → R = false) := hid (fun h => by rw [← hR2.out]; exact all_no hcl h)
      have hok : Hid (okB n (row.getD c 0) = true → ∀ b, b < c + 1 → okB n (row.getD b 0) = true) := hid (fun h b hb => by
        by_cases e : b = c
        · rw [e]; exact h
        · exact hin.out b (by omega))
      generalize row.getD c 0 = y at h3 hf hok
      by_cases e1 : -1 ≤ y
      case neg =>
        have hres : R = false := hf.out (by rw [okB, decide_eq_false e1]; rfl)
        subst hres
        have e1z : y < -1 := by omega
        go_wp2
        go_ret
        exact ⟨rfl, rfl⟩
      have e1z : ¬ y < -1 := by omega
      by_cases e2 : y < (n : Int)
      case neg =>
        have hres : R = false := hf.out (by rw [okB, decide_eq_false e2, Bool.and_false])
        subst hres
        have e2z : (n : Int) ≤ y := by omega
        go_wp2
        go_ret
        exact ⟨rfl, rfl⟩
      have e2z : ¬ (n : Int) ≤ y := by omega
      have hok' := hid (hok.out (by rw [okB, decide_eq_true e1, decide_eq_true e2]; rfl))
      go_wp2
      go_round
      case rel => exact ⟨c + 1, by omega, by go_num, hok'⟩
      case measure => simp [intOf]; omega
    · have hcz : ¬ (c : Int) < 256 := by omega
      obtain rfl : c = 256 := by omega
      have hres : R = true := by rw [← hR2.out]; exact all_yes hin.out
      subst hres
      go_wp2
      go_ret
      exact ⟨rfl, rfl⟩
theorem rowB_rr (N : List (List Int)) (A : List Int) (i : Nat) : rowB N A i = (decide (-1 ≤ A.getD i 0) && rrB (N.getD i []) N.length) := by
  unfold rowB rrB
  cases decide ((N.getD i []).length = 256) <;> cases decide (-1 ≤ A.getD i 0) <;> simp
set_option maxRecDepth 20000 in
set_option maxHeartbeats 4000000 in
theorem rightD (nv av : Value) (N : List (List Int)) (A : List Int) (w : World) (hN : Numss w nv N) (hA : Nums w av A) (hl : N.length ≤ 1000) :
    Calls Tryz.prog 10 #[.agg #[nv, av]] w fun e w' => e = .returned (.bool (rgtB N A)) ∧ Below w.heap.size w w' := by
  obtain ⟨R, hR⟩ : ∃ R, Hid (rgtB N A = R) := ⟨_, hid rfl⟩
  rw [hR.out]
  obtain ⟨na, nc, rfl⟩ : ∃ a c, nv = .slice a N.length c := by obtain ⟨a, c, e, _⟩ := hN; exact ⟨a, c, e⟩
  obtain ⟨va, vc, rfl⟩ : ∃ a c, av = .slice a A.length c := by obtain ⟨a, c, e, _⟩ := hA; exact ⟨a, c, e⟩
  have hal : Hid (Below w.heap.size w (w.alloc (.cells #[.slice na N.length nc, .slice va A.length vc] 25))) := hid (al' w _)
  have hN' := hid (fun j (hj : j < N.length) => numss_get (hN.keep hal.out) hj)
  have hA' := hid (nums_cell (hA.keep hal.out))
  clear hN hA
  by_cases c1 : 1 ≤ N.length
  case neg =>
    have hres : R = false := by rw [← hR.out, rgtB, decide_eq_false c1]; rfl
    subst hres
    have z1 : (N.length : Int) < 1 := by omega
    go_enter Tryz.func10, Tryz.ntmps10
    go_wp2
    go_ret
    exact ⟨rfl, hal.out⟩
  have z1 : ¬ (N.length : Int) < 1 := by omega
  by_cases c2 : N.length ≤ 240
  case neg =>
    have hres : R = false := by rw [← hR.out, rgtB, decide_eq_true c1, decide_eq_false c2]; rfl
    subst hres
    have z2 : (240 : Int) < (N.length : Int) := by omega
    go_enter Tryz.func10, Tryz.ntmps10
    go_wp2
    go_ret
    exact ⟨rfl, hal.out⟩
  have z2 : ¬ (240 : Int) < (N.length : Int) := by omega
  by_cases c3 : N.length = A.length
  case neg =>
    have hres : R = false := by rw [← hR.out, rgtB, decide_eq_true c1, decide_eq_true c2, decide_eq_false c3]; rfl
    subst hres
    have z3 : ((A.length : Int) == (N.length : Int)) = false := by rw [beq_eq_false_iff_ne]; omega
    go_enter Tryz.func10, Tryz.ntmps10
    go_wp2
    go_ret
    exact ⟨rfl, hal.out⟩
  have hR2 : Hid (((List.range N.length).all fun i => rowB N A i) = R) := hid (by rw [← hR.out, rgtB, decide_eq_true c1, decide_eq_true c2, decide_eq_true c3]; rfl)
  rw [← c3] at hA' hal ⊢
  rw [← c3] at hN'
  clear hR c3 c2
  go_enter Tryz.func10, Tryz.ntmps10
  go_wp2
  generalize hW : w.alloc (.cells #[.slice na N.length nc, .slice va N.length vc] 25) = W at hal hN' hA' ⊢
  have q1 : W.cell? ⟨w.heap.size, 1, none⟩ = some (.slice va N.length vc) := by rw [← hW]; exact blk_cell (heap_new w _) rfl
  clear hW
  go_loop [25] (fun i => ∃ k : Nat, k ≤ N.length ∧ i = .int .i64 k ∧ Hid (∀ j, j < k → rowB N A j = true)) (fun i => N.length - (intOf i).toNat)
  case atStart => exact ⟨0, Nat.zero_le _, rfl, hid (fun j hj => absurd hj (Nat.not_lt_zero _))⟩
  case round =>
    obtain ⟨k, hk, rfl, hdone⟩ := hrel
    by_cases hlt : k < N.length
    · have hltz : (k : Int) < (N.length : Int) := by omega
      obtain ⟨b1, o1, x, rfl, hb1, hx, hNx⟩ := hN'.out k hlt
      obtain ⟨b2, o2, rfl, hb2, hy⟩ := hA'.out k hlt
      have GR := hid (rightRowC x _ N.length W hl hNx)
      have hno : Hid (rowB N A k = false → R = false) := hid (fun h => by rw [← hR2.out]; exact all_no hlt h)
      have hyes : Hid (rowB N A k = true → ∀ j, j < k + 1 → rowB N A j = true) := hid (fun h j hj => by
        by_cases e : j = k
        · rw [e]; exact h
        · exact hdone.out j (by omega))
      rw [rowB_rr] at hno hyes
      generalize rrB (N.getD k []) N.length = rr at GR hno hyes
      generalize A.getD k 0 = y at hy hno hyes
      clear hNx
      by_cases e1 : -1 ≤ y
      case neg =>
        have hres : R = false := hno.out (by rw [decide_eq_false e1]; rfl)
        subst hres
        have e1z : y < -1 := by omega
        go_wp2
        go_ret
        exact ⟨rfl, hal.out⟩
      have e1z : ¬ y < -1 := by omega
      rw [decide_eq_true e1, Bool.true_and] at hno hyes
      cases rr with
      | false =>
        have hres : R = false := hno.out rfl
        subst hres
        go_wp2_with (go_at_call 22; refine GR.out.mono ?_; rintro e w1 ⟨rfl, hw1⟩; subst w1)
        go_ret
        exact ⟨rfl, hal.out⟩
      | true =>
        have hy' := hid (hyes.out rfl)
        go_wp2_with (go_at_call 22; refine GR.out.mono ?_; rintro e w1 ⟨rfl, hw1⟩; subst w1)
        go_round
        case rel => exact ⟨k + 1, by omega, by go_num, hy'⟩
        case measure => simp [intOf]; omega
    · have hltz : ¬ (k : Int) < (N.length : Int) := by omega
      obtain rfl : k = N.length := by omega
      have hres : R = true := by rw [← hR2.out]; exact all_yes hdone.out
      subst hres
      go_wp2
      go_ret
      exact ⟨rfl, hal.out⟩

end Go.Proofs.YtlpbeieljjgbaaaGreatDoor
namespace Go.Proofs.YtlpbeieljjgbaaaGreatDoor
open Go.RowKit

structure RgtA (N : List (List Int)) (A : List Int) : Prop where
  rgt : RgtN N
  pos : 0 < N.length
  few : N.length ≤ 240
  len : N.length = A.length
  acc : ∀ j, j < A.length → -1 ≤ A.getD j 0
theorem rgtA_of {N : List (List Int)} {A : List Int} (h : rgtB N A = true) : RgtA N A := by
  unfold rgtB at h
  rw [Bool.and_eq_true, Bool.and_eq_true, Bool.and_eq_true, decide_eq_true_iff, decide_eq_true_iff, decide_eq_true_iff, List.all_eq_true] at h
  obtain ⟨h1, h2, h3, h4⟩ := h
  have key : ∀ j, j < N.length → (N.getD j []).length = 256 ∧ -1 ≤ A.getD j 0 ∧ ∀ c, c < 256 → -1 ≤ (N.getD j []).getD c 0 ∧ (N.getD j []).getD c 0 < (N.length : Int) := by
    intro j hj
    have h5 := h4 j (by simpa using hj)
    unfold rowB at h5
    rw [Bool.and_eq_true, Bool.and_eq_true, decide_eq_true_iff, decide_eq_true_iff, List.all_eq_true] at h5
    refine ⟨h5.1, h5.2.1, fun c hc => ?_⟩
    have h6 := h5.2.2 c (by simpa using hc)
    unfold okB at h6
    rw [Bool.and_eq_true, decide_eq_true_iff, decide_eq_true_iff] at h6
    exact h6
  exact ⟨fun j hj => ⟨(key j hj).1, (key j hj).2.2⟩, h1, h2, h3, fun j hj => (key j (by omega)).2.1⟩
theorem rgtB_of {N : List (List Int)} {A : List Int} (h : RgtA N A) : rgtB N A = true := by
  unfold rgtB
  rw [Bool.and_eq_true, Bool.and_eq_true, Bool.and_eq_true, decide_eq_true_iff, decide_eq_true_iff, decide_eq_true_iff, List.all_eq_true]
  refine ⟨h.pos, h.few, h.len, fun j hj => ?_⟩
  have hj' : j < N.length := by simpa using hj
  unfold rowB
  rw [Bool.and_eq_true, Bool.and_eq_true, decide_eq_true_iff, decide_eq_true_iff, List.all_eq_true]
  refine ⟨(h.rgt j hj').1, h.acc j (by rw [← h.len]; exact hj'), fun c hc => ?_⟩
  unfold okB
  rw [Bool.and_eq_true, decide_eq_true_iff, decide_eq_true_iff]
  exact (h.rgt j hj').2 c (by simpa using hc)
def goB (N : List (List Int)) (A : List Int) (s : Txt) : Int := if rgtB N A then goK N s s.length else -1
def accB (N : List (List Int)) (A : List Int) (s : Txt) : Int := if goB N A s = -1 then -1 else A.getD (goB N A s).toNat 0
theorem goB_no {N : List (List Int)} {A : List Int} {s : Txt} (h : rgtB N A = false) : goB N A s = -1 := by unfold goB; rw [h]; rfl
theorem goB_yes {N : List (List Int)} {A : List Int} {s : Txt} (h : rgtB N A = true) : goB N A s = goK N s s.length := by unfold goB; rw [if_pos h]
theorem goB_in (N : List (List Int)) (A : List Int) (s : Txt) : goB N A s = -1 ∨ ∃ m : Nat, goB N A s = (m : Int) ∧ m < N.length ∧ N.length = A.length ∧ N.length ≤ 240 := by
  cases h : rgtB N A with
  | false => exact Or.inl (goB_no h)
  | true =>
    have H := rgtA_of h
    have := goK_in H.rgt H.pos s s.length
    rw [goB_yes h]
    by_cases e : goK N s s.length = -1
    · exact Or.inl e
    · exact Or.inr ⟨(goK N s s.length).toNat, by omega, by omega, H.len, H.few⟩
set_option maxRecDepth 20000 in
set_option maxHeartbeats 4000000 in
theorem goD (nv av : Value) (N : List (List Int)) (A : List Int) (s : Txt) (w : World) (hN : Numss w nv N) (hA : Nums w av A) (hl : N.length ≤ 1000) (hs : s.length ≤ 100000) :
    Calls Tryz.prog 11 #[.agg #[nv, av], .string (strT s)] w fun e w' => e = .returned (.int .i64 (goB N A s)) ∧ Below w.heap.size w w' := by
  have hal : Hid (Below w.heap.size w (w.alloc (.cells #[nv, av] 25))) := hid (al' w _)
  have GR := hid (rightD nv av N A _ (hN.keep hal.out) (hA.keep hal.out) hl)
  cases hr : rgtB N A with
  | false =>
    rw [hr] at GR
    rw [goB_no hr]
    obtain ⟨na, nc, rfl⟩ : ∃ a c, nv = .slice a N.length c := by obtain ⟨a, c, e, _⟩ := hN; exact ⟨a, c, e⟩
    obtain ⟨va, vc, rfl⟩ : ∃ a c, av = .slice a A.length c := by obtain ⟨a, c, e, _⟩ := hA; exact ⟨a, c, e⟩
    clear hN hA hr
    go_enter Tryz.func11, Tryz.ntmps11
    go_wp2_with (go_at_call 10; refine GR.out.mono ?_; rintro e w1 ⟨rfl, hb1⟩)
    go_ret
    exact ⟨rfl, bl_step hal.out hb1⟩
  | true =>
    rw [hr] at GR
    rw [goB_yes hr]
    have H := rgtA_of hr
    obtain ⟨R, hR⟩ : ∃ R, Hid (goK N s s.length = R) := ⟨_, hid rfl⟩
    rw [hR.out]
    have hG := hid (goK_in H.rgt H.pos s)
    have hr' := hid H.rgt
    obtain ⟨na, nc, rfl⟩ : ∃ a c, nv = .slice a N.length c := by obtain ⟨a, c, e, _⟩ := hN; exact ⟨a, c, e⟩
    have hN' := hid hN
    have hsz := strT_size s
    have hq := hid (heap_new w (.cells #[.slice na N.length nc, av] 25))
    obtain ⟨va, vc, rfl⟩ : ∃ a c, av = .slice a A.length c := by obtain ⟨a, c, e, _⟩ := hA; exact ⟨a, c, e⟩
    clear hN hA hr H
    go_enter Tryz.func11, Tryz.ntmps11
    go_wp2_with (go_at_call 10; refine GR.out.mono ?_; rintro e w1 ⟨rfl, hb1⟩)
    have hq1 := hid ((hb1.block _ (blk_lt hq.out)).trans hq.out)
    have hbw1 := hid (bl_step hal.out hb1)
    clear GR hb1 hq hal
    go_loopw [5, 6] (fun a i wr => ∃ k : Nat, k ≤ s.length ∧ i = .int .i64 k ∧ a = .int .i64 (goK N s k) ∧ Below w1.heap.size w1 wr) (fun _ i _ => s.length - (intOf i).toNat)
    case atStart => exact ⟨0, Nat.zero_le _, rfl, rfl, Below.refl _ _⟩
    case round =>
      obtain ⟨k, hk, rfl, rfl, hbl⟩ := hrel
      have hblw : Below w.heap.size w wr := bl_step hbw1.out hbl
      have hc0 : wr.cell? ⟨w.heap.size, 0, none⟩ = some (.slice na N.length nc) := keep_cell hbl (blk_cell hq1.out rfl)
      have hg := hG.out k
      by_cases hlt : k < s.length
      · have hltz : (k : Int) < (s.length : Int) := by omega
        have hltn : k < (strT s).size := by omega
        have hgs := hid (goK_succ N s k)
        have hout := hid (fun h => goK_out (N := N) (s := s) (i := k) h (s.length - k - 1))
        generalize goK N s k = at0 at hg hgs hout
        by_cases hneg : at0 = -1
        · have hres : R = -1 := by
            have := hout.out (by omega)
            rw [show k + (s.length - k - 1) + 1 = s.length by omega] at this
            rw [← hR.out, this]
          subst hres
          subst hneg
          clear hout hgs hR
          go_wp2
          go_ret
          exact ⟨rfl, hblw⟩
        · obtain ⟨m, rfl⟩ : ∃ m : Nat, at0 = (m : Int) := ⟨at0.toNat, by omega⟩
          have hm : m < N.length := by omega
          obtain ⟨b1, o1, x, rfl, hb1, hx, hNx⟩ := numss_get (hN'.out.keep hblw) hm
          have hrow := hr'.out m hm
          have hcl : (s.getD k 0).toNat < (N.getD m []).length := by rw [hrow.1]; exact (s.getD k 0).toNat_lt
          obtain ⟨b2, o2, c2, rfl, hb2, hy⟩ := nums_get hNx hcl
          have hlen := hrow.1
          rw [hlen] at hx hcl
          have hgd : s.getD k 0 = s[k]'hlt := by rw [List.getD_eq_getElem?_getD, List.getElem?_eq_getElem hlt]; rfl
          have key : (((strT s)[k]'hltn).toNat : Int) = ((s.getD k 0).toNat : Int) := by rw [hgd]; exact congrArg (fun c : UInt8 => (c.toNat : Int)) (strT_at s k hltn hlt)
          have hgs' : Hid (goK N s (k + 1) = (N.getD m []).getD (s.getD k 0).toNat 0) := hid (by rw [hgs.out, if_neg (by omega), Int.toNat_natCast])
          clear hgs hrow hgd hNx
          generalize (N.getD m []).getD (s.getD k 0).toNat 0 = y at hy hgs'
          generalize (s.getD k 0).toNat = c at *
          have hcz : (c : Int) < 256 := by omega
          have hmz : (m : Int) < (N.length : Int) := by omega
          have hmn : ((m : Int) == -1) = false := by rw [beq_eq_false_iff_ne]; omega
          clear hout hneg
          go_wp2_with fail
          go_quiet (fail)
          go_wp2
          go_roundw
          case rel => exact ⟨k + 1, by omega, by go_num, by rw [hgs'.out], by first | exact hbl | exact belowN hbl⟩
          case measure => simp [intOf]; omega
      · have hltz : ¬ (k : Int) < (s.length : Int) := by omega
        obtain rfl : k = s.length := by omega
        have hR' := hR.out
        go_wp2
        go_ret
        exact ⟨by rw [← hR']; rfl, hblw⟩
set_option maxRecDepth 20000 in
set_option maxHeartbeats 2000000 in
theorem acceptsD (nv av : Value) (N : List (List Int)) (A : List Int) (s : Txt) (w : World) (hN : Numss w nv N) (hA : Nums w av A) (hl : N.length ≤ 1000) (hs : s.length ≤ 100000) :
    Calls Tryz.prog 12 #[.agg #[nv, av], .string (strT s)] w fun e w' => e = .returned (.int .i64 (accB N A s)) ∧ Below w.heap.size w w' := by
  have hal : Hid (Below w.heap.size w (w.alloc (.cells #[nv, av] 25))) := hid (al' w _)
  have GG := hid (goD nv av N A s _ (hN.keep hal.out) (hA.keep hal.out) hl hs)
  obtain ⟨na, nc, rfl⟩ : ∃ a c, nv = .slice a N.length c := by obtain ⟨a, c, e, _⟩ := hN; exact ⟨a, c, e⟩
  obtain ⟨va, vc, rfl⟩ : ∃ a c, av = .slice a A.length c := by obtain ⟨a, c, e, _⟩ := hA; exact ⟨a, c, e⟩
  have hA' := hid (nums_cell (hA.keep hal.out))
  have hq := hid (heap_new w (.cells #[.slice na N.length nc, .slice va A.length vc] 25))
  have hin := goB_in N A s
  unfold accB
  clear hN hA
  generalize goB N A s = g at GG hin ⊢
  rcases hin with rfl | ⟨m, rfl, hm, hlen, hm2⟩
  · rw [if_pos rfl]
    go_enter Tryz.func12, Tryz.ntmps12
    go_wp2_with (go_at_call 11; refine GG.out.mono ?_; rintro e w1 ⟨rfl, hb1⟩)
    go_ret
    exact ⟨rfl, bl_step hal.out hb1⟩
  · rw [if_neg (by omega), Int.toNat_natCast]
    obtain ⟨b2, o2, rfl, hb2, hy⟩ := hA'.out m (by omega)
    have hmn : ((m : Int) == -1) = false := by rw [beq_eq_false_iff_ne]; omega
    have hmz : (m : Int) < (A.length : Int) := by omega
    generalize A.getD m 0 = y at hy ⊢
    generalize A.length = nA at *
    clear hlen hA'
    go_enter Tryz.func12, Tryz.ntmps12
    go_wp2_with (go_at_call 11; refine GG.out.mono ?_; rintro e w1 ⟨rfl, hb1⟩; have q1 : w1.cell? ⟨w.heap.size, 1, none⟩ = some (.slice (some ⟨b2, o2, none⟩) nA vc) := keep_cell hb1 (blk_cell hq.out rfl); have y1 := keep_cell hb1 hy)
    go_ret
    exact ⟨rfl, bl_step hal.out hb1⟩

end Go.Proofs.YtlpbeieljjgbaaaGreatDoor
namespace Go.Proofs.YtlpbeieljjgbaaaGreatDoor
open Go.RowKit

theorem escF_hex (r : Txt) : escF (120 :: r) = match hexP r with
    | none => none
    | some (a, r1) => match hexP r1 with
      | none => none
      | some (b, q) => some (16 * a + b, q) := by
  show (match r with
      | x :: y :: q => match hexF x, hexF y with
        | some a, some b => some (16 * a + b, q)
        | _, _ => none
      | _ => none) = _
  cases r with
  | nil => rfl
  | cons x r =>
    cases r with
    | nil => cases hx : hexF x <;> simp [hexP, hx]
    | cons y q => cases hx : hexF x <;> cases hy : hexF y <;> simp [hexP, hx, hy]
theorem hexP_lt {q r : Txt} {a : Nat} (h : hexP q = some (a, r)) : a < 16 := by
  cases q with
  | nil => cases h
  | cons c q =>
    cases hx : hexF c with
    | none => simp [hexP, hx] at h
    | some b =>
      simp [hexP, hx] at h
      have := hex_lt _ _ hx
      omega

set_option maxRecDepth 20000 in
set_option maxHeartbeats 2000000 in
theorem escapedC {w : World} {rb : Nat} {v : Value} {s q : Txt} (h : At w rb v s q) (hs : s.length ≤ 200) (p : Int) :
    Calls Tryz.prog 130 #[.pointer (some ⟨rb, 0, none⟩), .int .i64 p] w (Said p (escF q) w rb v s) := by
  cases q with
  | nil =>
    have G := hid (nextNo h hs p)
    clear h
    go_enter Tryz.func130, Tryz.ntmps130
    go_wp2_with (go_at_call 129; refine G.out.mono ?_; rintro e w1 ⟨rfl, hb1⟩)
    exact ⟨rfl, rfl, Kept.of_below hb1⟩
  | cons c r =>
    have G := hid (nextYes h hs p)
    clear h
    by_cases h1 : c = 110
    · subst h1
      rw [show escF (110 :: r) = some (10, r) from rfl]
      rw [show ((110 : UInt8).toNat : Int) = 110 from rfl] at G
      go_enter Tryz.func130, Tryz.ntmps130
      go_wp2_with (go_at_call 129; refine G.out.mono ?_; rintro e w1 ⟨rfl, hat, hk⟩; have hat := hid hat)
      go_ret
      exact ⟨⟨rfl, hat.out⟩, hk⟩
    by_cases h2 : c = 116
    · subst h2
      rw [show escF (116 :: r) = some (9, r) from rfl]
      rw [show ((116 : UInt8).toNat : Int) = 116 from rfl] at G
      go_enter Tryz.func130, Tryz.ntmps130
      go_wp2_with (go_at_call 129; refine G.out.mono ?_; rintro e w1 ⟨rfl, hat, hk⟩; have hat := hid hat)
      go_ret
      exact ⟨⟨rfl, hat.out⟩, hk⟩
    by_cases h3 : c = 114
    · subst h3
      rw [show escF (114 :: r) = some (13, r) from rfl]
      rw [show ((114 : UInt8).toNat : Int) = 114 from rfl] at G
      go_enter Tryz.func130, Tryz.ntmps130
      go_wp2_with (go_at_call 129; refine G.out.mono ?_; rintro e w1 ⟨rfl, hat, hk⟩; have hat := hid hat)
      go_ret
      exact ⟨⟨rfl, hat.out⟩, hk⟩
    by_cases h4 : c = 120
    · subst h4
      rw [escF_hex]
      rw [show ((120 : UInt8).toNat : Int) = 120 from rfl] at G
      have GD := hid (fun u q (hat : At u rb v s q) => digitC hat hs p)
      clear h1 h2 h3
      cases e1 : hexP r with
      | none =>
        have GD1 := hid (fun u (hat : At u rb v s r) => (show Calls _ _ _ _ (Said p none u rb v s) by have := GD.out u r hat; rwa [e1] at this))
        clear e1 GD
        go_enter Tryz.func130, Tryz.ntmps130
        go_wp2_with (first
          | (go_at_call 129; refine G.out.mono ?_; rintro e w1 ⟨rfl, hat, hk⟩; have hat := hid hat)
          | (go_at_call 137; refine (GD1.out _ hat.out).mono ?_; intro e w2 hw2; obtain ⟨he2, hk2⟩ := hw2.no; subst he2))
        exact ⟨rfl, rfl, hk.trans hk2⟩
      | some x =>
        obtain ⟨a, r1⟩ := x
        have ha := hexP_lt e1
        have GD1 := hid (fun u (hat : At u rb v s r) => (show Calls _ _ _ _ (Said p (some (a, r1)) u rb v s) by have := GD.out u r hat; rwa [e1] at this))
        show Calls _ _ _ _ (Said p (match hexP r1 with | none => none | some (b, q) => some (16 * a + b, q)) w rb v s)
        cases e2 : hexP r1 with
        | none =>
          have GD2 := hid (fun u (hat : At u rb v s r1) => (show Calls _ _ _ _ (Said p none u rb v s) by have := GD.out u r1 hat; rwa [e2] at this))
          clear e1 e2 GD
          go_enter Tryz.func130, Tryz.ntmps130
          go_wp2_with (first
            | (go_at_call 129; refine G.out.mono ?_; rintro e w1 ⟨rfl, hat, hk⟩; have hat := hid hat)
            | (go_at_call 137; refine (GD2.out _ hat2.out).mono ?_; intro e w3 hw3; obtain ⟨he3, hk3⟩ := hw3.no; subst he3)
            | (go_at_call 137; refine (GD1.out _ hat.out).mono ?_; intro e w2 hw2; obtain ⟨he2, hat2, hk2⟩ := hw2.yes; subst he2; have hat2 := hid hat2))
          exact ⟨rfl, rfl, (hk.trans hk2).trans hk3⟩
        | some y =>
          obtain ⟨b, r2⟩ := y
          have hb := hexP_lt e2
          have GD2 := hid (fun u (hat : At u rb v s r1) => (show Calls _ _ _ _ (Said p (some (b, r2)) u rb v s) by have := GD.out u r1 hat; rwa [e2] at this))
          clear e1 e2 GD
          have haz : (a : Int) ≤ 15 := by omega
          have hbz : (b : Int) ≤ 15 := by omega
          go_enter Tryz.func130, Tryz.ntmps130
          go_wp2_with (first
            | (go_at_call 129; refine G.out.mono ?_; rintro e w1 ⟨rfl, hat, hk⟩; have hat := hid hat)
            | (go_at_call 137; refine (GD2.out _ hat2.out).mono ?_; intro e w3 hw3; obtain ⟨he3, hat3, hk3⟩ := hw3.yes; subst he3; have hat3 := hid hat3)
            | (go_at_call 137; refine (GD1.out _ hat.out).mono ?_; intro e w2 hw2; obtain ⟨he2, hat2, hk2⟩ := hw2.yes; subst he2; have hat2 := hid hat2))
          go_ret
          exact ⟨⟨ret_u8 (by omega), hat3.out⟩, (hk.trans hk2).trans hk3⟩
    have e : escF (c :: r) = if escD c then some (c.toNat, r) else none := by
      simp only [escF]
      rw [if_neg h1, if_neg h2, if_neg h3, if_neg h4]
    rw [e]
    have hn := c.toNat_lt
    have n1 : ¬ c.toNat = 110 := fun h => h1 (UInt8.toNat_inj.1 h)
    have n2 : ¬ c.toNat = 116 := fun h => h2 (UInt8.toNat_inj.1 h)
    have n3 : ¬ c.toNat = 114 := fun h => h3 (UInt8.toNat_inj.1 h)
    have n4 : ¬ c.toNat = 120 := fun h => h4 (UInt8.toNat_inj.1 h)
    have GI := hid (fun u => idxC bothS (c.toNat : Int) u)
    rw [toU8] at GI
    have hh := tells_both c.toNat hn
    have hle := Lib.indexByte_ge bothS.data.toList (UInt8.ofNat c.toNat)
    rw [show UInt8.ofNat c.toNat = c by simp] at GI hh hle
    generalize Lib.indexByte bothS.data.toList c = z at GI hh hle
    clear e h1 h2 h3 h4
    generalize c.toNat = n at G GI n1 n2 n3 n4 hn ⊢
    have c1 : ((n : Int) == 110) = false := beq_eq_false_iff_ne.2 (by omega)
    have c2 : ((n : Int) == 116) = false := beq_eq_false_iff_ne.2 (by omega)
    have c3 : ((n : Int) == 114) = false := beq_eq_false_iff_ne.2 (by omega)
    have c4 : ((n : Int) == 120) = false := beq_eq_false_iff_ne.2 (by omega)
    cases hd : escD c with
    | true =>
      rw [hd] at hh
      have hz : ¬ z < 0 := by simpa using hh
      rw [if_pos rfl]
      clear hh hd
      go_enter Tryz.func130, Tryz.ntmps130
      go_wp2_with (first
        | (go_at_call 129; refine G.out.mono ?_; rintro e w1 ⟨rfl, hat, hk⟩; have hat := hid hat)
        | (go_at_call 47; refine (GI.out _).mono ?_; rintro e u1 ⟨rfl, hu⟩; subst u1))
      go_ret
      exact ⟨⟨rfl, hat.out⟩, hk⟩
    | false =>
      rw [hd] at hh
      have hz : z < 0 := by simpa using hh
      rw [if_neg Bool.false_ne_true]
      clear hh hd
      go_enter Tryz.func130, Tryz.ntmps130
      go_wp2_with (first
        | (go_at_call 129; refine G.out.mono ?_; rintro e w1 ⟨rfl, hat, hk⟩; have hat := hid hat)
        | (go_at_call 47; refine (GI.out _).mono ?_; rintro e u1 ⟨rfl, hu⟩; subst u1))
      exact ⟨rfl, rfl, hk⟩

/-- the place at which what is left begins -/
def plc (s q : Txt) : Int := (s.length : Int) - q.length
theorem At.place {w : World} {rb : Nat} {v : Value} {s q : Txt} (h : At w rb v s q) : w.cell? ⟨rb, 1, none⟩ = some (.int .i64 (plc s q)) := by
  obtain ⟨pre, hp, hb⟩ := h
  obtain ⟨c0, c1, c2, c3, c4⟩ := rd3 hb
  rw [c1]
  unfold plc
  rw [hp]
  simp

set_option maxRecDepth 20000 in
set_option maxHeartbeats 2000000 in
theorem toldC {w : World} {rb : Nat} {v : Value} {s q : Txt} (h : At w rb v s q) (hs : s.length ≤ 200) (S : ByteArray) (left : UInt8 → Bool) (hT : Tells S fun c => left c || c == 92) :
    Calls Tryz.prog 117 #[.pointer (some ⟨rb, 0, none⟩), .string S] w (Said (plc s q) (signF left q) w rb v s) := by
  have hpl := h.place
  generalize plc s q = p at hpl ⊢
  cases q with
  | nil =>
    have G := hid (nextNo h hs p)
    clear h
    go_enter Tryz.func117, Tryz.ntmps117
    go_wp2_with (go_at_call 129; refine G.out.mono ?_; rintro e w1 ⟨rfl, hb1⟩)
    exact ⟨rfl, rfl, Kept.of_below hb1⟩
  | cons c r =>
    have G := hid (nextYes h hs p)
    clear h
    by_cases h1 : c = 92
    · subst h1
      rw [show signF left (92 :: r) = escF r from rfl]
      rw [show ((92 : UInt8).toNat : Int) = 92 from rfl] at G
      have GE := hid (fun u (hat : At u rb v s r) => escapedC hat hs p)
      cases e1 : escF r with
      | none =>
        rw [e1] at GE
        clear e1
        go_enter Tryz.func117, Tryz.ntmps117
        go_wp2_with (first
          | (go_at_call 129; refine G.out.mono ?_; rintro e w1 ⟨rfl, hat, hk⟩; have hat := hid hat)
          | (go_at_call 130; refine (GE.out _ hat.out).mono ?_; intro e w2 hw2; obtain ⟨he2, hk2⟩ := hw2.no; subst he2))
        exact ⟨rfl, rfl, hk.trans hk2⟩
      | some x =>
        obtain ⟨b, r1⟩ := x
        rw [e1] at GE
        clear e1
        go_enter Tryz.func117, Tryz.ntmps117
        go_wp2_with (first
          | (go_at_call 129; refine G.out.mono ?_; rintro e w1 ⟨rfl, hat, hk⟩; have hat := hid hat)
          | (go_at_call 130; refine (GE.out _ hat.out).mono ?_; intro e w2 hw2; obtain ⟨he2, hat2, hk2⟩ := hw2.yes; subst he2; have hat2 := hid hat2))
        go_ret
        exact ⟨⟨rfl, hat2.out⟩, hk.trans hk2⟩
    · have hn := c.toNat_lt
      have n1 : ¬ c.toNat = 92 := fun h => h1 (UInt8.toNat_inj.1 h)
      have GP := hid (fun u => plainC c.toNat S _ u hn hT)
      have e : signF left (c :: r) = if plainB c.toNat (fun c => left c || c == 92) then some (c.toNat, r) else none := by
        have hpb : plainB c.toNat (fun c => left c || c == 92) = (decide (32 ≤ c.toNat ∧ c.toNat ≤ 126) && !left c) := by
          show (decide (32 ≤ c.toNat ∧ c.toNat ≤ 126) && !(left (UInt8.ofNat c.toNat) || UInt8.ofNat c.toNat == 92)) = _
          rw [show UInt8.ofNat c.toNat = c by simp, show (c == 92) = false from beq_eq_false_iff_ne.2 h1, Bool.or_false]
        rw [hpb]
        simp only [signF]
        rw [if_neg h1]
        have hlt : (c < 32 ∨ 126 < c) ↔ ¬ (32 ≤ c.toNat ∧ c.toNat ≤ 126) := by
          rw [UInt8.lt_iff_toNat_lt, UInt8.lt_iff_toNat_lt]
          simp
          omega
        by_cases hv : 32 ≤ c.toNat ∧ c.toNat ≤ 126
        · rw [if_neg (fun h => (hlt.1 h) hv), decide_eq_true hv]
          cases left c <;> rfl
        · rw [if_pos (hlt.2 hv), decide_eq_false hv]
          rfl
      rw [e]
      clear e h1 hT
      generalize plainB c.toNat (fun c => left c || c == 92) = pb at GP ⊢
      generalize c.toNat = n at G GP n1 hn ⊢
      have c1 : ((n : Int) == 92) = false := beq_eq_false_iff_ne.2 (by omega)
      cases pb with
      | true =>
        rw [if_pos rfl]
        go_enter Tryz.func117, Tryz.ntmps117
        go_wp2_with (first
          | (go_at_call 129; refine G.out.mono ?_; rintro e w1 ⟨rfl, hat, hk⟩; have hat := hid hat)
          | (go_at_call 131; refine (GP.out _).mono ?_; rintro e u1 ⟨rfl, hu⟩; subst u1))
        go_ret
        exact ⟨⟨rfl, hat.out⟩, hk⟩
      | false =>
        rw [if_neg Bool.false_ne_true]
        go_enter Tryz.func117, Tryz.ntmps117
        go_wp2_with (first
          | (go_at_call 129; refine G.out.mono ?_; rintro e w1 ⟨rfl, hat, hk⟩; have hat := hid hat)
          | (go_at_call 131; refine (GP.out _).mono ?_; rintro e u1 ⟨rfl, hu⟩; subst u1))
        exact ⟨rfl, rfl, hk⟩

end Go.Proofs.YtlpbeieljjgbaaaGreatDoor
