/- dfa.Go, Accepts. The reader: what it is; ahead, take, next. The reader: ahead, take, next, rowEnds; which signs are plain. -/
import Derived.Test.YtjelgphhlcecoaaGreatDoorJ25
import Derived.Test.YtjelgphhlcecoaaGreatDoorJ8
import Derived.WalkLawsBesides
import Derived.Laws.StandIn
import Derived.Lib.Bytealg
import Derived.Deep.RegionHeld3
namespace Go.Proofs.YtjelgphhlcecoaaGreatDoor
open Go.RowKit

structure RgtA (N : List (List Int)) (A : List Int) : Prop where
  rgt : RgtN N
  pos : 0 < N.length
  few : N.length ≤ 240
  len : N.length = A.length
  acc : ∀ j, j < A.length → -1 ≤ A.getD j 0
theorem rgtA_of {N : List (List Int)} {A : List Int} (h : rgtB N A = true) : RgtA N A := by
  unfold rgtB at h
  rw [Bool.and_eq_true, Bool.and_eq_true, Bool.and_eq_true, decide_eq_true_iff, decide_eq_true_iff, decide_eq_true_iff, List.all_eq_true] at h
  obtain ⟨h1, h2, h3, h4⟩ := h
  have key : ∀ j, j < N.length → (N.getD j []).length = 256 ∧ -1 ≤ A.getD j 0 ∧ ∀ c, c < 256 → -1 ≤ (N.getD j []).getD c 0 ∧ (N.getD j []).getD c 0 < (N.length : Int) := by
    intro j hj
    have h5 := h4 j (by simpa using hj)
    unfold rowB at h5
    rw [Bool.and_eq_true, Bool.and_eq_true, decide_eq_true_iff, decide_eq_true_iff, List.all_eq_true] at h5
    refine ⟨h5.1, h5.2.1, fun c hc => ?_⟩
    have h6 := h5.2.2 c (by simpa using hc)
    unfold okB at h6
    rw [Bool.and_eq_true, decide_eq_true_iff, decide_eq_true_iff] at h6
    exact h6
  exact ⟨fun j hj => ⟨(key j hj).1, (key j hj).2.2⟩, h1, h2, h3, fun j hj => (key j (by omega)).2.1⟩
theorem rgtB_of {N : List (List Int)} {A : List Int} (h : RgtA N A) : rgtB N A = true := by
  unfold rgtB
  rw [Bool.and_eq_true, Bool.and_eq_true, Bool.and_eq_true, decide_eq_true_iff, decide_eq_true_iff, decide_eq_true_iff, List.all_eq_true]
  refine ⟨h.pos, h.few, h.len, fun j hj => ?_⟩
  have hj' : j < N.length := by simpa using hj
  unfold rowB
  rw [Bool.and_eq_true, Bool.and_eq_true, decide_eq_true_iff, decide_eq_true_iff, List.all_eq_true]
  refine ⟨(h.rgt j hj').1, h.acc j (by rw [← h.len]; exact hj'), fun c hc => ?_⟩
  unfold okB
  rw [Bool.and_eq_true, decide_eq_true_iff, decide_eq_true_iff]
  exact (h.rgt j hj').2 c (by simpa using hc)
def goB (N : List (List Int)) (A : List Int) (s : Txt) : Int := if rgtB N A then goK N s s.length else -1
def accB (N : List (List Int)) (A : List Int) (s : Txt) : Int := if goB N A s = -1 then -1 else A.getD (goB N A s).toNat 0
theorem goB_no {N : List (List Int)} {A : List Int} {s : Txt} (h : rgtB N A = false) : goB N A s = -1 := by unfold goB; rw [h]; rfl
theorem goB_yes {N : List (List Int)} {A : List Int} {s : Txt} (h : rgtB N A = true) : goB N A s = goK N s s.length := by unfold goB; rw [if_pos h]
theorem goB_in (N : List (List Int)) (A : List Int) (s : Txt) : goB N A s = -1 ∨ ∃ m : Nat, goB N A s = (m : Int) ∧ m < N.length ∧ N.length = A.length ∧ N.length ≤ 240 := by
  cases h : rgtB N A with
  | false => exact Or.inl (goB_no h)
  | true =>
    have H := rgtA_of h
    have := goK_in H.rgt H.pos s s.length
    rw [goB_yes h]
    by_cases e : goK N s s.length = -1
    · exact Or.inl e
    · exact Or.inr ⟨(goK N s s.length).toNat, by omega, by omega, H.len, H.few⟩
set_option maxRecDepth 20000 in
set_option maxHeartbeats 4000000 in
theorem goD (nv av : Value) (N : List (List Int)) (A : List Int) (s : Txt) (w : World) (hN : Numss w nv N) (hA : Nums w av A) (hl : N.length ≤ 1000) (hs : s.length ≤ 100000) :
    Calls Tryz.prog 25 #[.agg #[nv, av], .string (strT s)] w fun e w' => e = .returned (.int .i64 (goB N A s)) ∧ Below w.heap.size w w' := by
  have hal : Hid (Below w.heap.size w (w.alloc (.cells #[nv, av] 25))) := hid (al' w _)
  have GR := hid (rightD nv av N A _ (hN.keep hal.out) (hA.keep hal.out) hl)
  cases hr : rgtB N A with
  | false =>
    rw [hr] at GR
    rw [goB_no hr]
    obtain ⟨na, nc, rfl⟩ : ∃ a c, nv = .slice a N.length c := by obtain ⟨a, c, e, _⟩ := hN; exact ⟨a, c, e⟩
    obtain ⟨va, vc, rfl⟩ : ∃ a c, av = .slice a A.length c := by obtain ⟨a, c, e, _⟩ := hA; exact ⟨a, c, e⟩
    clear hN hA hr
    go_enter Tryz.func25, Tryz.ntmps25
    go_wp2_with (go_at_call 20; refine GR.out.mono ?_; rintro e w1 ⟨rfl, hb1⟩)
    go_ret
    exact ⟨rfl, bl_step hal.out hb1⟩
  | true =>
    rw [hr] at GR
    rw [goB_yes hr]
    have H := rgtA_of hr
    obtain ⟨R, hR⟩ : ∃ R, Hid (goK N s s.length = R) := ⟨_, hid rfl⟩
    rw [hR.out]
    have hG := hid (goK_in H.rgt H.pos s)
    have hr' := hid H.rgt
    obtain ⟨na, nc, rfl⟩ : ∃ a c, nv = .slice a N.length c := by obtain ⟨a, c, e, _⟩ := hN; exact ⟨a, c, e⟩
    have hN' := hid hN
    have hsz := strT_size s
    have hq := hid (heap_new w (.cells #[.slice na N.length nc, av] 25))
    obtain ⟨va, vc, rfl⟩ : ∃ a c, av = .slice a A.length c := by obtain ⟨a, c, e, _⟩ := hA; exact ⟨a, c, e⟩
    clear hN hA hr H
    go_enter Tryz.func25, Tryz.ntmps25
    go_wp2_with (go_at_call 20; refine GR.out.mono ?_; rintro e w1 ⟨rfl, hb1⟩)
    have hq1 := hid ((hb1.block _ (blk_lt hq.out)).trans hq.out)
    have hbw1 := hid (bl_step hal.out hb1)
    clear GR hb1 hq hal
    go_loopw [5, 6] (fun a i wr => ∃ k : Nat, k ≤ s.length ∧ i = .int .i64 k ∧ a = .int .i64 (goK N s k) ∧ Below w1.heap.size w1 wr) (fun _ i _ => s.length - (intOf i).toNat)
    case atStart => exact ⟨0, Nat.zero_le _, rfl, rfl, Below.refl _ _⟩
    case round =>
      obtain ⟨k, hk, rfl, rfl, hbl⟩ := hrel
      have hblw : Below w.heap.size w wr := bl_step hbw1.out hbl
      have hc0 : wr.cell? ⟨w.heap.size, 0, none⟩ = some (.slice na N.length nc) := keep_cell hbl (blk_cell hq1.out rfl)
      have hg := hG.out k
      by_cases hlt : k < s.length
      · have hltz : (k : Int) < (s.length : Int) := by omega
        have hltn : k < (strT s).size := by omega
        have hgs := hid (goK_succ N s k)
        have hout := hid (fun h => goK_out (N := N) (s := s) (i := k) h (s.length - k - 1))
        generalize goK N s k = at0 at hg hgs hout
        by_cases hneg : at0 = -1
        · have hres : R = -1 := by
            have := hout.out (by omega)
            rw [show k + (s.length - k - 1) + 1 = s.length by omega] at this
            rw [← hR.out, this]
          subst hres
          subst hneg
          clear hout hgs hR
          go_wp2
          go_ret
          exact ⟨rfl, hblw⟩
        · obtain ⟨m, rfl⟩ : ∃ m : Nat, at0 = (m : Int) := ⟨at0.toNat, by omega⟩
          have hm : m < N.length := by omega
          obtain ⟨b1, o1, x, rfl, hb1, hx, hNx⟩ := numss_get (hN'.out.keep hblw) hm
          have hrow := hr'.out m hm
          have hcl : (s.getD k 0).toNat < (N.getD m []).length := by rw [hrow.1]; exact (s.getD k 0).toNat_lt
          obtain ⟨b2, o2, c2, rfl, hb2, hy⟩ := nums_get hNx hcl
          have hlen := hrow.1
          rw [hlen] at hx hcl
          have hgd : s.getD k 0 = s[k]'hlt := by rw [List.getD_eq_getElem?_getD, List.getElem?_eq_getElem hlt]; rfl
          have key : (((strT s)[k]'hltn).toNat : Int) = ((s.getD k 0).toNat : Int) := by rw [hgd]; exact congrArg (fun c : UInt8 => (c.toNat : Int)) (strT_at s k hltn hlt)
          have hgs' : Hid (goK N s (k + 1) = (N.getD m []).getD (s.getD k 0).toNat 0) := hid (by rw [hgs.out, if_neg (by omega), Int.toNat_natCast])
          clear hgs hrow hgd hNx
          generalize (N.getD m []).getD (s.getD k 0).toNat 0 = y at hy hgs'
          generalize (s.getD k 0).toNat = c at *
          have hcz : (c : Int) < 256 := by omega
          have hmz : (m : Int) < (N.length : Int) := by omega
          have hmn : ((m : Int) == -1) = false := by rw [beq_eq_false_iff_ne]; omega
          clear hout hneg
          go_wp2_with fail
          go_quiet (fail)
          go_wp2
          go_roundw
          case rel => exact ⟨k + 1, by omega, by go_num, by rw [hgs'.out], by first | exact hbl | exact belowN hbl⟩
          case measure => simp [intOf]; omega
      · have hltz : ¬ (k : Int) < (s.length : Int) := by omega
        obtain rfl : k = s.length := by omega
        have hR' := hR.out
        go_wp2
        go_ret
        exact ⟨by rw [← hR']; rfl, hblw⟩
set_option maxRecDepth 20000 in
set_option maxHeartbeats 2000000 in
theorem acceptsD (nv av : Value) (N : List (List Int)) (A : List Int) (s : Txt) (w : World) (hN : Numss w nv N) (hA : Nums w av A) (hl : N.length ≤ 1000) (hs : s.length ≤ 100000) :
    Calls Tryz.prog 14 #[.agg #[nv, av], .string (strT s)] w fun e w' => e = .returned (.int .i64 (accB N A s)) ∧ Below w.heap.size w w' := by
  have hal : Hid (Below w.heap.size w (w.alloc (.cells #[nv, av] 25))) := hid (al' w _)
  have GG := hid (goD nv av N A s _ (hN.keep hal.out) (hA.keep hal.out) hl hs)
  obtain ⟨na, nc, rfl⟩ : ∃ a c, nv = .slice a N.length c := by obtain ⟨a, c, e, _⟩ := hN; exact ⟨a, c, e⟩
  obtain ⟨va, vc, rfl⟩ : ∃ a c, av = .slice a A.length c := by obtain ⟨a, c, e, _⟩ := hA; exact ⟨a, c, e⟩
  have hA' := hid (nums_cell (hA.keep hal.out))
  have hq := hid (heap_new w (.cells #[.slice na N.length nc, .slice va A.length vc] 25))
  have hin := goB_in N A s
  unfold accB
  clear hN hA
  generalize goB N A s = g at GG hin ⊢
  rcases hin with rfl | ⟨m, rfl, hm, hlen, hm2⟩
  · rw [if_pos rfl]
    go_enter Tryz.func14, Tryz.ntmps14
    go_wp2_with (go_at_call 25; refine GG.out.mono ?_; rintro e w1 ⟨rfl, hb1⟩)
    go_ret
    exact ⟨rfl, bl_step hal.out hb1⟩
  · rw [if_neg (by omega), Int.toNat_natCast]
    obtain ⟨b2, o2, rfl, hb2, hy⟩ := hA'.out m (by omega)
    have hmn : ((m : Int) == -1) = false := by rw [beq_eq_false_iff_ne]; omega
    have hmz : (m : Int) < (A.length : Int) := by omega
    generalize A.getD m 0 = y at hy ⊢
    generalize A.length = nA at *
    clear hlen hA'
    go_enter Tryz.func14, Tryz.ntmps14
    go_wp2_with (go_at_call 25; refine GG.out.mono ?_; rintro e w1 ⟨rfl, hb1⟩; have q1 : w1.cell? ⟨w.heap.size, 1, none⟩ = some (.slice (some ⟨b2, o2, none⟩) nA vc) := keep_cell hb1 (blk_cell hq.out rfl); have y1 := keep_cell hb1 hy)
    go_ret
    exact ⟨rfl, bl_step hal.out hb1⟩

end Go.Proofs.YtjelgphhlcecoaaGreatDoor
namespace Go.Proofs.YtjelgphhlcecoaaGreatDoor
open Go.RowKit

/-- the reader: its text, what is still to be read, its cells -/
def At (w : World) (rb : Nat) (v : Value) (s q : Txt) : Prop := ∃ pre : Txt, s = pre ++ q ∧ w.heap[rb]? = some (.cells #[.string (strT s), .int .i64 (pre.length : Int), v] 89 (0, 0))
theorem At.keep {w w' : World} {rb : Nat} {v : Value} {s q : Txt} (h : At w rb v s q) (hb : Below w.heap.size w w') : At w' rb v s q := by
  obtain ⟨pre, h1, h2⟩ := h
  exact ⟨pre, h1, (hb.block rb (blk_lt h2)).trans h2⟩
theorem rd3 {w : World} {b : Nat} {x0 x1 x2 : Value} {T : TypeId} (h : w.heap[b]? = some (.cells #[x0, x1, x2] T (0, 0))) :
    w.cell? ⟨b, 0, none⟩ = some x0 ∧ w.cell? ⟨b, 1, none⟩ = some x1 ∧ w.cell? ⟨b, 2, none⟩ = some x2 ∧ w.frozen? ⟨b, 1, none⟩ = false ∧ w.frozen? ⟨b, 2, none⟩ = false := ⟨blk_cell h rfl, blk_cell h rfl, blk_cell h rfl, blk_frozen h 1, blk_frozen h 2⟩

set_option maxRecDepth 20000 in
set_option maxHeartbeats 1000000 in
theorem aheadNo (w : World) (rb k : Nat) (v : Value) (S : ByteArray) (z : Int) (_hs : S.size ≤ 1000) (hk : k = S.size) (h : w.heap[rb]? = some (.cells #[.string S, .int .i64 (k : Int), v] 89 (0, 0))) :
    Calls Tryz.prog 77 #[.pointer (some ⟨rb, 0, none⟩), .int .u8 z] w fun e w' => e = .returned (.bool false) ∧ Below w.heap.size w w' := by
  obtain ⟨c0, c1, c2, c3, c4⟩ := rd3 h
  have hlt : ¬ (k : Int) < (S.size : Int) := by omega
  have hd : decide ((k : Int) < (S.size : Int)) = false := decide_eq_false hlt
  clear h
  go_enter Tryz.func77, Tryz.ntmps77
  go_wp2_with fail
  go_quiet (fail)
  go_wp2
  go_ret
  exact ⟨rfl, ⟨rfl, rfl, rfl, Nat.le_refl _, fun _ _ => rfl⟩⟩

set_option maxRecDepth 20000 in
set_option maxHeartbeats 1000000 in
theorem aheadSome (w : World) (rb k : Nat) (v : Value) (S : ByteArray) (z : Int) (_hs : S.size ≤ 1000) (hk : k < S.size) (h : w.heap[rb]? = some (.cells #[.string S, .int .i64 (k : Int), v] 89 (0, 0))) :
    Calls Tryz.prog 77 #[.pointer (some ⟨rb, 0, none⟩), .int .u8 z] w fun e w' => e = .returned (.bool ((S[k].toNat : Int) == z)) ∧ Below w.heap.size w w' := by
  obtain ⟨c0, c1, c2, c3, c4⟩ := rd3 h
  have hlt : (k : Int) < (S.size : Int) := by omega
  clear h
  go_enter Tryz.func77, Tryz.ntmps77
  go_wp2_with fail
  go_quiet (fail)
  go_wp2
  go_ret
  exact ⟨rfl, ⟨rfl, rfl, rfl, Nat.le_refl _, fun _ _ => rfl⟩⟩

end Go.Proofs.YtjelgphhlcecoaaGreatDoor
namespace Go.Proofs.YtjelgphhlcecoaaGreatDoor
open Go.RowKit

theorem at_byte {pre r : Txt} {d : UInt8} (h : pre.length < (strT (pre ++ d :: r)).size) : (strT (pre ++ d :: r))[pre.length] = d := by
  exact (strT_at _ _ h (by simp)).trans (by simp)
theorem byte_eq (d c : UInt8) : (((d.toNat : Int)) == (c.toNat : Int)) = (d == c) := by
  rw [Bool.eq_iff_iff, beq_iff_eq, beq_iff_eq]
  constructor
  · intro h; exact UInt8.toNat_inj.1 (by omega)
  · intro h; rw [h]
set_option maxRecDepth 20000 in
theorem aheadC {w : World} {rb : Nat} {v : Value} {s q : Txt} (h : At w rb v s q) (hs : s.length ≤ 200) (c : UInt8) :
    Calls Tryz.prog 77 #[.pointer (some ⟨rb, 0, none⟩), .int .u8 (c.toNat : Int)] w fun e w' => e = .returned (.bool (q.head? == some c)) ∧ Below w.heap.size w w' := by
  obtain ⟨pre, hp, hb⟩ := h
  have hsz := strT_size s
  cases q with
  | nil => exact aheadNo w rb pre.length v (strT s) _ (by omega) (by rw [hsz, hp]; simp) hb
  | cons d r =>
    have hk : pre.length < (strT s).size := by rw [hsz, hp]; simp
    have := aheadSome w rb pre.length v (strT s) (c.toNat : Int) (by omega) hk hb
    have e : (strT s)[pre.length] = d := by subst hp; exact at_byte hk
    rw [e, byte_eq] at this
    exact this

/-- on by one -/
theorem At.next {w : World} {rb : Nat} {v : Value} {s r : Txt} {d : UInt8} (h : At w rb v s (d :: r)) : ∃ k : Nat, w.cell? ⟨rb, 1, none⟩ = some (.int .i64 (k : Int)) ∧ w.frozen? ⟨rb, 1, none⟩ = false ∧ k < s.length ∧ At (w.setCell ⟨rb, 1, none⟩ (.int .i64 ((k : Int) + 1))) rb v s r := by
  obtain ⟨pre, hp, hb⟩ := h
  obtain ⟨c0, c1, c2, c3, c4⟩ := rd3 hb
  refine ⟨pre.length, c1, c3, by rw [hp]; simp, pre ++ [d], by rw [hp]; simp, ?_⟩
  have := heap_setCell (o := 1) (v := .int .i64 ((pre.length : Int) + 1)) hb
  rw [this]
  simp
theorem set_kept {w : World} {rb o : Nat} {v : Value} : Kept (oneBlk rb) w (w.setCell ⟨rb, o, none⟩ v) := (Kept.refl _ w).setCell (a := ⟨rb, o, none⟩) fun _ => rfl

set_option maxRecDepth 20000 in
theorem takeNo {w : World} {rb : Nat} {v : Value} {s q : Txt} (h : At w rb v s q) (hs : s.length ≤ 200) (c : UInt8) (hc : (q.head? == some c) = false) :
    Calls Tryz.prog 59 #[.pointer (some ⟨rb, 0, none⟩), .int .u8 (c.toNat : Int)] w fun e w' => e = .returned (.bool false) ∧ Below w.heap.size w w' := by
  have GA := hid (aheadC h hs c)
  rw [hc] at GA
  generalize (c.toNat : Int) = z at GA ⊢
  clear h hc
  go_enter Tryz.func59, Tryz.ntmps59
  go_wp2_with (go_at_call 77; refine GA.out.mono ?_; rintro e w1 ⟨rfl, hb1⟩)
  go_ret
  exact ⟨rfl, hb1⟩
set_option maxRecDepth 20000 in
theorem takeYes {w : World} {rb : Nat} {v : Value} {s r : Txt} {c : UInt8} (h : At w rb v s (c :: r)) (hs : s.length ≤ 200) :
    Calls Tryz.prog 59 #[.pointer (some ⟨rb, 0, none⟩), .int .u8 (c.toNat : Int)] w fun e w' => e = .returned (.bool true) ∧ At w' rb v s r ∧ Kept (oneBlk rb) w w' := by
  have GA := hid (aheadC h hs c)
  rw [show ((c :: r).head? == some c) = true by simp] at GA
  generalize (c.toNat : Int) = z at GA ⊢
  have H := hid (fun u (hb : Below w.heap.size w u) => (h.keep hb).next)
  clear h
  go_enter Tryz.func59, Tryz.ntmps59
  go_wp2_with (go_at_call 77; refine GA.out.mono ?_; rintro e w1 ⟨rfl, hb1⟩; obtain ⟨k, c1, c3, hk, hat⟩ := H.out w1 hb1; have hat := hid hat)
  go_ret
  exact ⟨rfl, hat.out, (Kept.of_below hb1).trans set_kept⟩

set_option maxRecDepth 20000 in
theorem nextNo {w : World} {rb : Nat} {v : Value} {s : Txt} (h : At w rb v s []) (_hs : s.length ≤ 200) (p : Int) :
    Calls Tryz.prog 115 #[.pointer (some ⟨rb, 0, none⟩), .int .i64 p] w fun e w' => e = .panicked [{ v := .iface 87 (.int .i64 p), recovered := false }] ∧ Below w.heap.size w w' := by
  obtain ⟨pre, hp, hb⟩ := h
  obtain ⟨c0, c1, c2, c3, c4⟩ := rd3 hb
  have hsz := strT_size s
  have hk : (strT s).size = pre.length := by rw [hsz, hp]; simp
  have hkk : (((pre.length : Int)) == ((strT s).size : Int)) = true := by rw [hk]; simp
  generalize strT s = S at hk c0 hsz hkk
  generalize pre.length = k at hk c1 hkk
  clear hb hp
  go_enter Tryz.func115, Tryz.ntmps115
  go_wp2_with fail
  go_quiet (fail)
  go_wp2
  exact ⟨rfl, rfl, ⟨rfl, rfl, rfl, Nat.le_refl _, fun _ _ => rfl⟩⟩
set_option maxRecDepth 20000 in
theorem nextYes {w : World} {rb : Nat} {v : Value} {s r : Txt} {c : UInt8} (h : At w rb v s (c :: r)) (hs : s.length ≤ 200) (p : Int) :
    Calls Tryz.prog 115 #[.pointer (some ⟨rb, 0, none⟩), .int .i64 p] w fun e w' => e = .returned (.int .u8 (c.toNat : Int)) ∧ At w' rb v s r ∧ Kept (oneBlk rb) w w' := by
  obtain ⟨pre, hp, hb⟩ := h
  have H : Hid (∀ u, Below w.heap.size w u → At (u.setCell ⟨rb, 1, none⟩ (.int .i64 ((pre.length : Int) + 1))) rb v s r) := hid (fun u hu => by
    refine ⟨pre ++ [c], by rw [hp]; simp, ?_⟩
    rw [heap_setCell (o := 1) (v := .int .i64 ((pre.length : Int) + 1)) ((hu.block rb (blk_lt hb)).trans hb)]
    simp)
  obtain ⟨c0, c1, c2, c3, c4⟩ := rd3 hb
  have hsz := strT_size s
  have hk : pre.length < (strT s).size := by rw [hsz, hp]; simp
  have hch : (strT s)[pre.length].toNat = c.toNat := by subst hp; rw [at_byte hk]
  have hkk : (((pre.length : Int)) == ((strT s).size : Int)) = false := beq_eq_false_iff_ne.2 (by omega)
  generalize (c.toNat) = z at hch ⊢
  generalize strT s = S at hk c0 hsz hkk hch
  generalize pre.length = k at hk c1 hkk hch H
  clear hb hp
  go_enter Tryz.func115, Tryz.ntmps115
  go_wp2_with fail
  go_quiet (fail)
  go_wp2_with fail
  go_quiet (fail)
  go_wp2
  go_ret
  have hd : ∀ n, Below w.heap.size w (w.drewN n) := fun n => ⟨rfl, rfl, rfl, Nat.le_refl _, fun _ _ => rfl⟩
  exact ⟨rfl, H.out _ (hd _), (Kept.of_below (hd _)).trans set_kept⟩

set_option maxRecDepth 20000 in
theorem rowEndsNil {w : World} {rb : Nat} {v : Value} {s : Txt} (h : At w rb v s []) (hs : s.length ≤ 200) :
    Calls Tryz.prog 76 #[.pointer (some ⟨rb, 0, none⟩)] w fun e w' => e = .returned (.bool true) ∧ Below w.heap.size w w' := by
  obtain ⟨pre, hp, hb⟩ := h
  obtain ⟨c0, c1, c2, c3, c4⟩ := rd3 hb
  have hsz := strT_size s
  have hk : (strT s).size = pre.length := by rw [hsz, hp]; simp
  have hle : (strT s).size ≤ 200 := by omega
  generalize strT s = S at hk c0 hsz hle
  rw [← hk] at c1
  clear hb hp hsz hk
  go_enter Tryz.func76, Tryz.ntmps76
  go_wp2_with fail
  go_quiet (fail)
  go_wp2
  go_ret
  exact ⟨rfl, ⟨rfl, rfl, rfl, Nat.le_refl _, fun _ _ => rfl⟩⟩

set_option maxRecDepth 20000 in
set_option maxHeartbeats 1000000 in
theorem rowEndsSome {w : World} {rb : Nat} {v : Value} {s r : Txt} {c : UInt8} (h : At w rb v s (c :: r)) (hs : s.length ≤ 200) :
    Calls Tryz.prog 76 #[.pointer (some ⟨rb, 0, none⟩)] w fun e w' => e = .returned (.bool (rowEnd (c :: r))) ∧ Below w.heap.size w w' := by
  have G1 := hid (fun u (hb : Below w.heap.size w u) => aheadC (h.keep hb) hs 124)
  have G2 := hid (fun u (hb : Below w.heap.size w u) => aheadC (h.keep hb) hs 41)
  have hdr : Below w.heap.size w w.drew := (Below.refl _ w).drew
  rw [show rowEnd (c :: r) = (((c :: r).head? == some 124) || ((c :: r).head? == some 41)) from rfl]
  obtain ⟨pre, hp, hb⟩ := h
  obtain ⟨c0, c1, c2, c3, c4⟩ := rd3 hb
  have hsz := strT_size s
  have hlt : pre.length < (strT s).size := by rw [hsz, hp]; simp
  have hle : (strT s).size ≤ 200 := by omega
  have hkk : (((pre.length : Int)) == ((strT s).size : Int)) = false := beq_eq_false_iff_ne.2 (by omega)
  generalize strT s = S at c0 hsz hle hlt hkk
  generalize pre.length = k at c1 hlt hkk
  generalize ((c :: r).head? == some 124) = b1 at G1 ⊢
  generalize ((c :: r).head? == some 41) = b2 at G2 ⊢
  clear hb hp hsz
  cases b1
  · go_enter Tryz.func76, Tryz.ntmps76
    go_wp2_with fail
    go_region_held3 (fun w' => w'.cell? ⟨rb, 0, none⟩ = some (.string S) ∧ w'.cell? ⟨rb, 1, none⟩ = some (.int .i64 (k : Int))) (go_keep) ((first
      | (go_at_call_of 77 (Value.int .u8 124); refine (G1.out _ hdr).mono ?_; rintro e w1 ⟨rfl, hb1'⟩; have hb1 := bl_step hdr hb1'; have := keep_cell hb1 c0; have := keep_cell hb1 c1)
      | (go_at_call_of 77 (Value.int .u8 41); refine (G2.out _ hb1).mono ?_; rintro e w2 ⟨rfl, hb2'⟩; have hb2 := bl_step hb1 hb2'; have := keep_cell hb2 c0; have := keep_cell hb2 c1)))
    all_goals
      go_wp2
      go_ret
      exact ⟨by cases b2 <;> rfl, hb2⟩
  · go_enter Tryz.func76, Tryz.ntmps76
    go_wp2_with fail
    first | (go_region_with (first
      | (go_at_call 77; refine (G1.out _ hdr).mono ?_; rintro e w1 ⟨rfl, hb1'⟩; have hb1 := bl_step hdr hb1'; have := keep_cell hb1 c0; have := keep_cell hb1 c1)
      | fail)) | fail
    all_goals
      go_wp2
      go_ret
      exact ⟨rfl, hb1⟩

set_option maxRecDepth 20000 in
theorem rowEndsC {w : World} {rb : Nat} {v : Value} {s q : Txt} (h : At w rb v s q) (hs : s.length ≤ 200) :
    Calls Tryz.prog 76 #[.pointer (some ⟨rb, 0, none⟩)] w fun e w' => e = .returned (.bool (rowEnd q)) ∧ Below w.heap.size w w' := by
  cases q with
  | nil => exact rowEndsNil h hs
  | cons c r => exact rowEndsSome h hs

end Go.Proofs.YtjelgphhlcecoaaGreatDoor
