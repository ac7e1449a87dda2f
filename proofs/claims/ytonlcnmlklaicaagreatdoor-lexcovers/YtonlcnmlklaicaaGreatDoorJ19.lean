/- The reference of layer 8: Go. The reference of layer 8: Right. dfa.rightRow, Right. dfa.Go, Accepts. -/
import Derived.Test.YtonlcnmlklaicaaGreatDoorJ18
import Derived.Deep.QuietTactic
namespace Go.Proofs.YtonlcnmlklaicaaGreatDoor
open Go.RowKit

/-- rows that are right -/
def RgtN (N : List (List Int)) : Prop := ∀ j, j < N.length → (N.getD j []).length = 256 ∧ ∀ c, c < 256 → -1 ≤ (N.getD j []).getD c 0 ∧ (N.getD j []).getD c 0 < (N.length : Int)
theorem goK_in {N : List (List Int)} (h : RgtN N) (h0 : 0 < N.length) (s : Txt) : ∀ i, -1 ≤ goK N s i ∧ goK N s i < (N.length : Int)
  | 0 => by rw [goK]; omega
  | i + 1 => by
    have ih := goK_in h h0 s i
    rw [goK]
    split
    · omega
    · exact (h _ (by omega)).2 _ (s.getD i 0).toNat_lt
theorem goK_out {N : List (List Int)} {s : Txt} {i : Nat} (h : goK N s i < 0) : ∀ d, goK N s (i + d + 1) = -1
  | 0 => by rw [Nat.add_zero, goK, if_pos h]
  | d + 1 => by
    have e : goK N s (i + (d + 1)) = -1 := goK_out h d
    rw [goK, if_pos (by rw [e]; omega)]
theorem goK_succ (N : List (List Int)) (s : Txt) (i : Nat) : goK N s (i + 1) = if goK N s i < 0 then -1 else (N.getD (goK N s i).toNat []).getD (s.getD i 0).toNat 0 := rfl
theorem numss_get {w : World} {a : Option Addr} {n c : Nat} {l : List (List Int)} (h : Numss w (.slice a n c) l) {j : Nat} (hj : j < l.length) : ∃ b o x, a = some ⟨b, o, none⟩ ∧ b < w.heap.size ∧ w.cell? ⟨b, o + j, none⟩ = some x ∧ Nums w x (l.getD j []) := by
  obtain ⟨a', c', e, _, _, h⟩ := h
  injection e with e1 e2 e3
  subst e1
  obtain ⟨b, o, x, h1, h2, h3, h4⟩ := h j hj
  refine ⟨b, o, x, h1, h2, h3, ?_⟩
  rw [List.getD_eq_getElem?_getD, List.getElem?_eq_getElem hj]
  exact h4
theorem nums_get {w : World} {x : Value} {l : List Int} (h : Nums w x l) {c : Nat} (hc : c < l.length) : ∃ b o cap, x = .slice (some ⟨b, o, none⟩) l.length cap ∧ b < w.heap.size ∧ w.cell? ⟨b, o + c, none⟩ = some (.int .i64 (l.getD c 0)) := by
  obtain ⟨a, cap, rfl, _, _, hat⟩ := h
  obtain ⟨b, o, rfl, h1, h2⟩ := hat c hc
  refine ⟨b, o, cap, rfl, h1, ?_⟩
  rw [h2, List.getD_eq_getElem?_getD, List.getElem?_eq_getElem hc]
  rfl
set_option maxRecDepth 20000 in
set_option maxHeartbeats 2000000 in
theorem refGo (nv av : Value) (N : List (List Int)) (s : Txt) (w : World) (hN : Numss w nv N) (hr : RgtN N) (h0 : 0 < N.length) (_hl : N.length ≤ 1000) (hs : s.length ≤ 100000) :
    Calls Tryz.prog 22 #[.agg #[nv, av], .int .i64 0, .string (strT s)] w fun e w' => e = .returned (.int .i64 (goK N s s.length)) ∧ Below w.heap.size w w' := by
  obtain ⟨R, hR⟩ : ∃ R, Hid (goK N s s.length = R) := ⟨_, hid rfl⟩
  rw [hR.out]
  have hG := hid (goK_in hr h0 s)
  obtain ⟨na, nc, rfl⟩ : ∃ a c, nv = .slice a N.length c := by obtain ⟨a, c, e, _⟩ := hN; exact ⟨a, c, e⟩
  have hN' := hid hN
  have hr' := hid hr
  have hsz := strT_size s
  have hal : Hid (Below w.heap.size w (w.alloc (.cells #[.slice na N.length nc, av] 25))) := hid (al' w _)
  clear hN hr
  go_enter Tryz.func22, Tryz.ntmps22
  go_wp2
  go_loopw [1, 7] (fun a i wr => ∃ k : Nat, k ≤ s.length ∧ i = .int .i64 k ∧ a = .int .i64 (goK N s k) ∧ Below (w.heap.size + 1) (w.alloc (.cells #[.slice na N.length nc, av] 25)) wr) (fun _ i _ => s.length - (intOf i).toNat)
  case atStart => exact ⟨0, Nat.zero_le _, rfl, rfl, Below.refl _ _⟩
  case round =>
    obtain ⟨k, hk, rfl, rfl, hbl⟩ := hrel
    have hsize : (w.alloc (.cells #[.slice na N.length nc, av] 25)).heap.size = w.heap.size + 1 := by simp
    have hblw : Below w.heap.size w wr := bl_step hal.out (by rw [hsize]; exact hbl)
    have hc0 : wr.cell? ⟨w.heap.size, 0, none⟩ = some (.slice na N.length nc) := keep_cell (by rw [hsize]; exact hbl) (blk_cell (heap_new w _) rfl)
    have hg := hG.out k
    by_cases hlt : k < s.length
    · have hltz : (k : Int) < (s.length : Int) := by omega
      have hltn : k < (strT s).size := by omega
      have hgs := hid (goK_succ N s k)
      have hout := hid (fun h => goK_out (N := N) (s := s) (i := k) h (s.length - k - 1))
      generalize goK N s k = at0 at hg hgs hout
      by_cases hneg : at0 < 0
      · have hres : R = -1 := by
          have := hout.out hneg
          rw [show k + (s.length - k - 1) + 1 = s.length by omega] at this
          rw [← hR.out, this]
        subst hres
        go_wp2
        go_ret
        exact ⟨rfl, hblw⟩
      · obtain ⟨m, rfl⟩ : ∃ m : Nat, at0 = (m : Int) := ⟨at0.toNat, by omega⟩
        have hm : m < N.length := by omega
        obtain ⟨b1, o1, x, rfl, hb1, hx, hNx⟩ := numss_get (hN'.out.keep hblw) hm
        have hrow := hr'.out m hm
        have hcl : (s.getD k 0).toNat < (N.getD m []).length := by rw [hrow.1]; exact (s.getD k 0).toNat_lt
        obtain ⟨b2, o2, c2, rfl, hb2, hy⟩ := nums_get hNx hcl
        have hlen := hrow.1
        rw [hlen] at hx hcl
        have hgd : s.getD k 0 = s[k]'hlt := by rw [List.getD_eq_getElem?_getD, List.getElem?_eq_getElem hlt]; rfl
        have key : IntKind.i64.wrap (((strT s)[k]'hltn).toNat : Int) = ((s.getD k 0).toNat : Int) := by
          rw [hgd]
          have hwr : IntKind.i64.wrap ((s[k]'hlt).toNat : Int) = ((s[k]'hlt).toNat : Int) := by
            rw [IntKind.wrap_i64]
            have := (s[k]'hlt).toNat_lt
            omega
          exact (congrArg (fun c : UInt8 => IntKind.i64.wrap (c.toNat : Int)) (strT_at s k hltn hlt)).trans hwr
        have hgs' : Hid (goK N s (k + 1) = (N.getD m []).getD (s.getD k 0).toNat 0) := hid (by rw [hgs.out, if_neg (by omega), Int.toNat_natCast])
        clear hgs hrow hgd hNx
        generalize (N.getD m []).getD (s.getD k 0).toNat 0 = y at hy hgs'
        generalize (s.getD k 0).toNat = c at *
        have hcz : (c : Int) < 256 := by omega
        have hmz : (m : Int) < (N.length : Int) := by omega
        clear hout
        go_wp2_with fail
        go_quiet (fail)
        go_wp2
        go_roundw
        case rel => exact ⟨k + 1, by omega, by go_num, by rw [hgs'.out], by first | exact hbl | exact belowN hbl⟩
        case measure => simp [intOf]; omega
    · have hltz : ¬ (k : Int) < (s.length : Int) := by omega
      obtain rfl : k = s.length := by omega
      have hR' := hR.out
      go_wp2
      go_ret
      exact ⟨by rw [← hR']; rfl, hblw⟩

end Go.Proofs.YtonlcnmlklaicaaGreatDoor
namespace Go.Proofs.YtonlcnmlklaicaaGreatDoor
open Go.RowKit

def okB (n : Nat) (x : Int) : Bool := decide (-1 ≤ x) && decide (x < (n : Int))
def rowB (N : List (List Int)) (A : List Int) (i : Nat) : Bool := decide ((N.getD i []).length = 256) && (decide (-1 ≤ A.getD i 0) && (List.range 256).all fun b => okB N.length ((N.getD i []).getD b 0))
def rgtB (N : List (List Int)) (A : List Int) : Bool := decide (1 ≤ N.length) && (decide (N.length ≤ 240) && (decide (N.length = A.length) && (List.range N.length).all fun i => rowB N A i))
theorem all_no {n : Nat} {f : Nat → Bool} {i : Nat} (h : i < n) (hf : f i = false) : (List.range n).all f = false := by
  rw [List.all_eq_false]
  exact ⟨i, by simpa using h, by rw [hf]; simp⟩
theorem all_yes {n : Nat} {f : Nat → Bool} (h : ∀ j, j < n → f j = true) : (List.range n).all f = true := by
  rw [List.all_eq_true]
  exact fun x hx => h x (by simpa using hx)
set_option maxRecDepth 20000 in
set_option maxHeartbeats 4000000 in
theorem refRight (nv av : Value) (N : List (List Int)) (A : List Int) (w : World) (hN : Numss w nv N) (hA : Nums w av A) (hl : N.length ≤ 1000) :
    Calls Tryz.prog 9 #[.agg #[nv, av]] w fun e w' => e = .returned (.bool (rgtB N A)) ∧ Below w.heap.size w w' := by
  obtain ⟨R, hR⟩ : ∃ R, Hid (rgtB N A = R) := ⟨_, hid rfl⟩
  rw [hR.out]
  obtain ⟨na, nc, rfl⟩ : ∃ a c, nv = .slice a N.length c := by obtain ⟨a, c, e, _⟩ := hN; exact ⟨a, c, e⟩
  obtain ⟨va, vc, rfl⟩ : ∃ a c, av = .slice a A.length c := by obtain ⟨a, c, e, _⟩ := hA; exact ⟨a, c, e⟩
  have hN' := hid hN
  have hA' := hid hA
  have hal : Hid (Below w.heap.size w (w.alloc (.cells #[.slice na N.length nc, .slice va A.length vc] 25))) := hid (al' w _)
  clear hN hA
  by_cases c1 : 1 ≤ N.length
  case neg =>
    have hres : R = false := by rw [← hR.out, rgtB, decide_eq_false c1]; rfl
    subst hres
    have z1 : (N.length : Int) < 1 := by omega
    go_enter Tryz.func9, Tryz.ntmps9
    go_wp2
    go_ret
    exact ⟨rfl, hal.out⟩
  have z1 : ¬ (N.length : Int) < 1 := by omega
  by_cases c2 : N.length ≤ 240
  case neg =>
    have hres : R = false := by rw [← hR.out, rgtB, decide_eq_true c1, decide_eq_false c2]; rfl
    subst hres
    have z2 : (240 : Int) < (N.length : Int) := by omega
    go_enter Tryz.func9, Tryz.ntmps9
    go_wp2
    go_ret
    exact ⟨rfl, hal.out⟩
  have z2 : ¬ (240 : Int) < (N.length : Int) := by omega
  by_cases c3 : N.length = A.length
  case neg =>
    have hres : R = false := by rw [← hR.out, rgtB, decide_eq_true c1, decide_eq_true c2, decide_eq_false c3]; rfl
    subst hres
    have z3 : ((N.length : Int) == (A.length : Int)) = false := by rw [beq_eq_false_iff_ne]; omega
    go_enter Tryz.func9, Tryz.ntmps9
    go_wp2
    go_ret
    exact ⟨rfl, hal.out⟩
  have hR2 : Hid (((List.range N.length).all fun i => rowB N A i) = R) := hid (by rw [← hR.out, rgtB, decide_eq_true c1, decide_eq_true c2, decide_eq_true c3]; rfl)
  have hA2 : Hid (∀ k, k < N.length → k < A.length) := hid (fun k hk => by omega)
  rw [← c3] at hal ⊢
  rw [← c3] at hA'
  clear hR c3 c2
  go_enter Tryz.func9, Tryz.ntmps9
  go_wp2
  go_loopw [3] (fun i wr => ∃ k : Nat, k ≤ N.length ∧ i = .int .i64 k ∧ Hid (∀ j, j < k → rowB N A j = true) ∧ Below (w.heap.size + 1) (w.alloc (.cells #[.slice na N.length nc, .slice va N.length vc] 25)) wr) (fun i _ => N.length - (intOf i).toNat)
  case atStart => exact ⟨0, Nat.zero_le _, rfl, hid (fun j hj => absurd hj (Nat.not_lt_zero _)), Below.refl _ _⟩
  case round =>
    obtain ⟨k, hk, rfl, hdone, hbl⟩ := hrel
    have hsize : (w.alloc (.cells #[.slice na N.length nc, .slice va N.length vc] 25)).heap.size = w.heap.size + 1 := by simp
    have hblw : Below w.heap.size w wr := bl_step hal.out (by rw [hsize]; exact hbl)
    have hc0 : wr.cell? ⟨w.heap.size, 0, none⟩ = some (.slice na N.length nc) := keep_cell (by rw [hsize]; exact hbl) (blk_cell (heap_new w _) rfl)
    have hc1 : wr.cell? ⟨w.heap.size, 1, none⟩ = some (.slice va N.length vc) := keep_cell (by rw [hsize]; exact hbl) (blk_cell (heap_new w _) rfl)
    by_cases hlt : k < N.length
    · have hltz : (k : Int) < (N.length : Int) := by omega
      obtain ⟨b1, o1, x, rfl, hb1, hx, hNx⟩ := numss_get (hN'.out.keep hblw) hlt
      obtain ⟨xa, xc, rfl⟩ : ∃ a c, x = .slice a (N.getD k []).length c := by obtain ⟨a, c, e, _⟩ := hNx; exact ⟨a, c, e⟩
      have hNx' := hid hNx
      clear hNx
      obtain ⟨ba, oa, aa, rfl, hba, hy⟩ : ∃ b o a, va = some ⟨b, o, none⟩ ∧ b < wr.heap.size ∧ a = A.getD k 0 ∧ wr.cell? ⟨b, o + k, none⟩ = some (.int .i64 a) := by
        obtain ⟨a', c', e, _, _, hat⟩ := hA'.out.keep hblw
        injection e with e1 e2 e3
        subst e1
        obtain ⟨b, o, h1, h2, h3⟩ := hat k (hA2.out k hlt)
        refine ⟨b, o, _, h1, h2, rfl, ?_⟩
        rw [h3, List.getD_eq_getElem?_getD, List.getElem?_eq_getElem (hA2.out k hlt)]
        rfl
      obtain ⟨ha, hy⟩ := hy
      have hfail : Hid (rowB N A k = false → R = false) := hid (fun h => by rw [← hR2.out]; exact all_no hlt h)
      by_cases d1 : (N.getD k []).length = 256
      case neg =>
        have hres : R = false := hfail.out (by rw [rowB, decide_eq_false d1]; rfl)
        subst hres
        have d1z : (((N.getD k []).length : Int) == 256) = false := by rw [beq_eq_false_iff_ne]; omega
        clear hfail hR2
        generalize (N.getD k []).length = nl at *
        go_wp2
        go_ret
        exact ⟨rfl, hblw⟩
      rw [d1] at hx hNx'
      by_cases d2 : -1 ≤ aa
      case neg =>
        have hres : R = false := hfail.out (by rw [rowB, decide_eq_true d1, ← ha, decide_eq_false d2]; rfl)
        subst hres
        have d2z : aa < -1 := by omega
        clear hfail hR2 ha
        go_wp2
        go_ret
        exact ⟨rfl, hblw⟩
      have d2z : ¬ aa < -1 := by omega
      have hfail2 : Hid (∀ b, b < 256 → okB N.length ((N.getD k []).getD b 0) = false → R = false) := hid (fun b hb h => hfail.out (by rw [rowB, all_no hb h]; simp))
      have hgood : Hid ((∀ b, b < 256 → okB N.length ((N.getD k []).getD b 0) = true) → rowB N A k = true) := hid (fun h => by rw [rowB, decide_eq_true d1, ← ha, decide_eq_true d2, all_yes h]; rfl)
      have hget : Hid (∀ c, c < 256 → ∃ b o, xa = some ⟨b, o, none⟩ ∧ b < wr.heap.size ∧ wr.cell? ⟨b, o + c, none⟩ = some (.int .i64 ((N.getD k []).getD c 0))) := hid (fun c hc => by
        obtain ⟨b, o, cap, e, h1, h2⟩ := nums_get hNx'.out (c := c) (by rw [d1]; exact hc)
        injection e with e1 e2 e3
        exact ⟨b, o, e1, h1, h2⟩)
      clear hfail d1 ha hNx' d2
      obtain ⟨wo, hwo⟩ : ∃ x, x = wr := ⟨_, rfl⟩
      subst hwo
      have hblA : Hid (∀ u, Below wo.heap.size wo u → Below (w.heap.size + 1) (w.alloc (.cells #[.slice (some ⟨b1, o1, none⟩) N.length nc, .slice (some ⟨ba, oa, none⟩) N.length vc] 25)) u) := hid (fun u hu => by
        have h1 := hbl
        rw [← hsize] at h1 ⊢
        exact bl_step h1 hu)
      go_wp2
      go_loopw [4] (fun i wr => ∃ c : Nat, c ≤ 256 ∧ i = .int .i64 c ∧ Hid (∀ b, b < c → okB N.length ((N.getD k []).getD b 0) = true) ∧ Below wo.heap.size wo wr) (fun i _ => 256 - (intOf i).toNat)
      case atStart => exact ⟨0, Nat.zero_le _, rfl, hid (fun j hj => absurd hj (Nat.not_lt_zero _)), Below.refl _ _⟩
      case round =>
        obtain ⟨c, hc, rfl, hin, hb2⟩ := hrel
        have g0 := keep_cell hb2 hc0
        have g2 := keep_cell hb2 hx
        have hblr : Below w.heap.size w wr := bl_step hblw hb2
        by_cases hcl : c < 256
        · have hcz : (c : Int) < 256 := by omega
          obtain ⟨b3, o3, rfl, hb3, h3⟩ := hget.out c hcl
          have g3 := keep_cell hb2 h3
          have hf := hid (hfail2.out c hcl)
          have hok : Hid (okB N.length ((N.getD k []).getD c 0) = true → ∀ b, b < c + 1 → okB N.length ((N.getD k []).getD b 0) = true) := hid (fun h b hb => by
            by_cases e : b = c
            · rw [e]; exact h
            · exact hin.out b (by omega))
          clear h3 hc0 hc1 hx hy
          generalize (N.getD k []).getD c 0 = y at g3 hf hok
          by_cases e1 : -1 ≤ y
          case neg =>
            have hres : R = false := hf.out (by rw [okB, decide_eq_false e1]; rfl)
            subst hres
            have e1z : y < -1 := by omega
            go_wp2_with fail
            go_quiet (fail)
            go_wp2
            go_ret
            exact ⟨rfl, by first | exact hblr | exact belowN hblr⟩
          have e1z : ¬ y < -1 := by omega
          by_cases e2 : y < (N.length : Int)
          case neg =>
            have hres : R = false := hf.out (by rw [okB, decide_eq_false e2, Bool.and_false])
            subst hres
            have e2z : (N.length : Int) ≤ y := by omega
            go_wp2_with fail
            go_quiet (fail)
            go_wp2
            go_ret
            exact ⟨rfl, by first | exact hblr | exact belowN hblr⟩
          have e2z : ¬ (N.length : Int) ≤ y := by omega
          have hok' := hid (hok.out (by rw [okB, decide_eq_true e1, decide_eq_true e2]; rfl))
          go_wp2_with fail
          go_quiet (fail)
          go_wp2
          go_roundw
          case rel => exact ⟨c + 1, by omega, by go_num, hok', by first | exact hb2 | exact belowN hb2⟩
          case measure => simp [intOf]; omega
        · have hcz : ¬ (c : Int) < 256 := by omega
          obtain rfl : c = 256 := by omega
          have hrow := hid (hgood.out hin.out)
          go_wp2
          go_roundw
          case rel => exact ⟨k + 1, by omega, by go_num, hid (fun j hj => by
            by_cases e : j = k
            · rw [e]; exact hrow.out
            · exact hdone.out j (by omega)), hblA.out _ hb2⟩
          case measure => simp [intOf]; omega
    · have hltz : ¬ (k : Int) < (N.length : Int) := by omega
      obtain rfl : k = N.length := by omega
      have hres : R = true := by rw [← hR2.out]; exact all_yes hdone.out
      subst hres
      go_wp2
      go_ret
      exact ⟨rfl, hblw⟩

end Go.Proofs.YtonlcnmlklaicaaGreatDoor
namespace Go.Proofs.YtonlcnmlklaicaaGreatDoor
open Go.RowKit

def rrB (row : List Int) (n : Nat) : Bool := decide (row.length = 256) && (List.range 256).all fun b => okB n (row.getD b 0)
theorem nums_cell {w : World} {a : Option Addr} {n c : Nat} {l : List Int} (h : Nums w (.slice a n c) l) : ∀ j, j < l.length → ∃ b o, a = some ⟨b, o, none⟩ ∧ b < w.heap.size ∧ w.cell? ⟨b, o + j, none⟩ = some (.int .i64 (l.getD j 0)) := by
  intro j hj
  obtain ⟨a', c', e, _, _, hat⟩ := h
  injection e with e1 e2 e3
  subst e1
  obtain ⟨b, o, h1, h2, h3⟩ := hat j hj
  refine ⟨b, o, h1, h2, ?_⟩
  rw [h3, List.getD_eq_getElem?_getD, List.getElem?_eq_getElem hj]
  rfl
set_option maxRecDepth 20000 in
set_option maxHeartbeats 2000000 in
theorem rightRowC (v : Value) (row : List Int) (n : Nat) (w : World) (_hn : n ≤ 1000) (hA : Nums w v row) :
    Calls Tryz.prog 34 #[v, .int .i64 (n : Int)] w fun e w' => e = .returned (.bool (rrB row n)) ∧ w' = w := by
  obtain ⟨R, hR⟩ : ∃ R, Hid (rrB row n = R) := ⟨_, hid rfl⟩
  rw [hR.out]
  obtain ⟨aa, ca, rfl⟩ : ∃ a c, v = .slice a row.length c := by obtain ⟨a, c, e, _⟩ := hA; exact ⟨a, c, e⟩
  have hA' := hid (nums_cell hA)
  clear hA
  by_cases d1 : row.length = 256
  case neg =>
    have hres : R = false := by rw [← hR.out, rrB, decide_eq_false d1]; rfl
    subst hres
    have d1z : ((row.length : Int) == 256) = false := by rw [beq_eq_false_iff_ne]; omega
    go_enter Tryz.func34, Tryz.ntmps34
    go_wp2
    go_ret
    exact ⟨rfl, rfl⟩
  have hR2 : Hid (((List.range 256).all fun b => okB n (row.getD b 0)) = R) := hid (by rw [← hR.out, rrB, decide_eq_true d1]; rfl)
  rw [d1] at hA' ⊢
  clear hR d1
  go_enter Tryz.func34, Tryz.ntmps34
  go_wp2
  go_loop [12] (fun i => ∃ k : Nat, k ≤ 256 ∧ i = .int .i64 k ∧ Hid (∀ j, j < k → okB n (row.getD j 0) = true)) (fun i => 256 - (intOf i).toNat)
  case atStart => exact ⟨0, Nat.zero_le _, rfl, hid (fun j hj => absurd hj (Nat.not_lt_zero _))⟩
  case round =>
    obtain ⟨c, hc, rfl, hin⟩ := hrel
    by_cases hcl : c < 256
    · have hcz : (c : Int) < 256 := by omega
      obtain ⟨b3, o3, rfl, hb3, h3⟩ := hA'.out c hcl
      have hf : Hid (okB n (row.getD c 0) = false → R = false) := hid (fun h => by rw [← hR2.out]; exact all_no hcl h)
      have hok : Hid (okB n (row.getD c 0) = true → ∀ b, b < c + 1 → okB n (row.getD b 0) = true) := hid (fun h b hb => by
        by_cases e : b = c
        · rw [e]; exact h
        · exact hin.out b (by omega))
      generalize row.getD c 0 = y at h3 hf hok
      by_cases e1 : -1 ≤ y
      case neg =>
        have hres : R = false := hf.out (by rw [okB, decide_eq_false e1]; rfl)
        subst hres
        have e1z : y < -1 := by omega
        go_wp2
        go_ret
        exact ⟨rfl, rfl⟩
      have e1z : ¬ y < -1 := by omega
      by_cases e2 : y < (n : Int)
      case neg =>
        have hres : R = false := hf.out (by rw [okB, decide_eq_false e2, Bool.and_false])
        subst hres
        have e2z : (n : Int) ≤ y := by omega
        go_wp2
        go_ret
        exact ⟨rfl, rfl⟩
      have e2z : ¬ (n : Int) ≤ y := by omega
      have hok' := hid (hok.out (by rw [okB, decide_eq_true e1, decide_eq_true e2]; rfl))
      go_wp2
      go_round
      case rel => exact ⟨c + 1, by omega, by go_num, hok'⟩
      case measure => simp [intOf]; omega
    · have hcz : ¬ (c : Int) < 256 := by omega
      obtain rfl : c = 256 := by omega
      have hres : R = true := by rw [← hR2.out]; exact all_yes hin.out
      subst hres
      go_wp2
      go_ret
      exact ⟨rfl, rfl⟩
theorem rowB_rr (N : List (List Int)) (A : List Int) (i : Nat) : rowB N A i = (decide (-1 ≤ A.getD i 0) && rrB (N.getD i []) N.length) := by
  unfold rowB rrB
  cases decide ((N.getD i []).length = 256) <;> cases decide (-1 ≤ A.getD i 0) <;> simp
set_option maxRecDepth 20000 in
set_option maxHeartbeats 4000000 in
theorem rightD (nv av : Value) (N : List (List Int)) (A : List Int) (w : World) (hN : Numss w nv N) (hA : Nums w av A) (hl : N.length ≤ 1000) :
    Calls Tryz.prog 20 #[.agg #[nv, av]] w fun e w' => e = .returned (.bool (rgtB N A)) ∧ Below w.heap.size w w' := by
  obtain ⟨R, hR⟩ : ∃ R, Hid (rgtB N A = R) := ⟨_, hid rfl⟩
  rw [hR.out]
  obtain ⟨na, nc, rfl⟩ : ∃ a c, nv = .slice a N.length c := by obtain ⟨a, c, e, _⟩ := hN; exact ⟨a, c, e⟩
  obtain ⟨va, vc, rfl⟩ : ∃ a c, av = .slice a A.length c := by obtain ⟨a, c, e, _⟩ := hA; exact ⟨a, c, e⟩
  have hal : Hid (Below w.heap.size w (w.alloc (.cells #[.slice na N.length nc, .slice va A.length vc] 25))) := hid (al' w _)
  have hN' := hid (fun j (hj : j < N.length) => numss_get (hN.keep hal.out) hj)
  have hA' := hid (nums_cell (hA.keep hal.out))
  clear hN hA
  by_cases c1 : 1 ≤ N.length
  case neg =>
    have hres : R = false := by rw [← hR.out, rgtB, decide_eq_false c1]; rfl
    subst hres
    have z1 : (N.length : Int) < 1 := by omega
    go_enter Tryz.func20, Tryz.ntmps20
    go_wp2
    go_ret
    exact ⟨rfl, hal.out⟩
  have z1 : ¬ (N.length : Int) < 1 := by omega
  by_cases c2 : N.length ≤ 240
  case neg =>
    have hres : R = false := by rw [← hR.out, rgtB, decide_eq_true c1, decide_eq_false c2]; rfl
    subst hres
    have z2 : (240 : Int) < (N.length : Int) := by omega
    go_enter Tryz.func20, Tryz.ntmps20
    go_wp2
    go_ret
    exact ⟨rfl, hal.out⟩
  have z2 : ¬ (240 : Int) < (N.length : Int) := by omega
  by_cases c3 : N.length = A.length
  case neg =>
    have hres : R = false := by rw [← hR.out, rgtB, decide_eq_true c1, decide_eq_true c2, decide_eq_false c3]; rfl
    subst hres
    have z3 : ((A.length : Int) == (N.length : Int)) = false := by rw [beq_eq_false_iff_ne]; omega
    go_enter Tryz.func20, Tryz.ntmps20
    go_wp2
    go_ret
    exact ⟨rfl, hal.out⟩
  have hR2 : Hid (((List.range N.length).all fun i => rowB N A i) = R) := hid (by rw [← hR.out, rgtB, decide_eq_true c1, decide_eq_true c2, decide_eq_true c3]; rfl)
  rw [← c3] at hA' hal ⊢
  rw [← c3] at hN'
  clear hR c3 c2
  go_enter Tryz.func20, Tryz.ntmps20
  go_wp2
  generalize hW : w.alloc (.cells #[.slice na N.length nc, .slice va N.length vc] 25) = W at hal hN' hA' ⊢
  have q1 : W.cell? ⟨w.heap.size, 1, none⟩ = some (.slice va N.length vc) := by rw [← hW]; exact blk_cell (heap_new w _) rfl
  clear hW
  go_loop [25] (fun i => ∃ k : Nat, k ≤ N.length ∧ i = .int .i64 k ∧ Hid (∀ j, j < k → rowB N A j = true)) (fun i => N.length - (intOf i).toNat)
  case atStart => exact ⟨0, Nat.zero_le _, rfl, hid (fun j hj => absurd hj (Nat.not_lt_zero _))⟩
  case round =>
    obtain ⟨k, hk, rfl, hdone⟩ := hrel
    by_cases hlt : k < N.length
    · have hltz : (k : Int) < (N.length : Int) := by omega
      obtain ⟨b1, o1, x, rfl, hb1, hx, hNx⟩ := hN'.out k hlt
      obtain ⟨b2, o2, rfl, hb2, hy⟩ := hA'.out k hlt
      have GR := hid (rightRowC x _ N.length W hl hNx)
      have hno : Hid (rowB N A k = false → R = false) := hid (fun h => by rw [← hR2.out]; exact all_no hlt h)
      have hyes : Hid (rowB N A k = true → ∀ j, j < k + 1 → rowB N A j = true) := hid (fun h j hj => by
        by_cases e : j = k
        · rw [e]; exact h
        · exact hdone.out j (by omega))
      rw [rowB_rr] at hno hyes
      generalize rrB (N.getD k []) N.length = rr at GR hno hyes
      generalize A.getD k 0 = y at hy hno hyes
      clear hNx
      by_cases e1 : -1 ≤ y
      case neg =>
        have hres : R = false := hno.out (by rw [decide_eq_false e1]; rfl)
        subst hres
        have e1z : y < -1 := by omega
        go_wp2
        go_ret
        exact ⟨rfl, hal.out⟩
      have e1z : ¬ y < -1 := by omega
      rw [decide_eq_true e1, Bool.true_and] at hno hyes
      cases rr with
      | false =>
        have hres : R = false := hno.out rfl
        subst hres
        go_wp2_with (go_at_call 34; refine GR.out.mono ?_; rintro e w1 ⟨rfl, hw1⟩; subst w1)
        go_ret
        exact ⟨rfl, hal.out⟩
      | true =>
        have hy' := hid (hyes.out rfl)
        go_wp2_with (go_at_call 34; refine GR.out.mono ?_; rintro e w1 ⟨rfl, hw1⟩; subst w1)
        go_round
        case rel => exact ⟨k + 1, by omega, by go_num, hy'⟩
        case measure => simp [intOf]; omega
    · have hltz : ¬ (k : Int) < (N.length : Int) := by omega
      obtain rfl : k = N.length := by omega
      have hres : R = true := by rw [← hR2.out]; exact all_yes hdone.out
      subst hres
      go_wp2
      go_ret
      exact ⟨rfl, hal.out⟩

end Go.Proofs.YtonlcnmlklaicaaGreatDoor
namespace Go.Proofs.YtonlcnmlklaicaaGreatDoor
open Go.RowKit

structure RgtA (N : List (List Int)) (A : List Int) : Prop where
  rgt : RgtN N
  pos : 0 < N.length
  few : N.length ≤ 240
  len : N.length = A.length
  acc : ∀ j, j < A.length → -1 ≤ A.getD j 0
theorem rgtA_of {N : List (List Int)} {A : List Int} (h : rgtB N A = true) : RgtA N A := by
  unfold rgtB at h
  rw [Bool.and_eq_true, Bool.and_eq_true, Bool.and_eq_true, decide_eq_true_iff, decide_eq_true_iff, decide_eq_true_iff, List.all_eq_true] at h
  obtain ⟨h1, h2, h3, h4⟩ := h
  have key : ∀ j, j < N.length → (N.getD j []).length = 256 ∧ -1 ≤ A.getD j 0 ∧ ∀ c, c < 256 → -1 ≤ (N.getD j []).getD c 0 ∧ (N.getD j []).getD c 0 < (N.length : Int) := by
    intro j hj
    have h5 := h4 j (by simpa using hj)
    unfold rowB at h5
    rw [Bool.and_eq_true, Bool.and_eq_true, decide_eq_true_iff, decide_eq_true_iff, List.all_eq_true] at h5
    refine ⟨h5.1, h5.2.1, fun c hc => ?_⟩
    have h6 := h5.2.2 c (by simpa using hc)
    unfold okB at h6
    rw [Bool.and_eq_true, decide_eq_true_iff, decide_eq_true_iff] at h6
    exact h6
  exact ⟨fun j hj => ⟨(key j hj).1, (key j hj).2.2⟩, h1, h2, h3, fun j hj => (key j (by omega)).2.1⟩
theorem rgtB_of {N : List (List Int)} {A : List Int} (h : RgtA N A) : rgtB N A = true := by
  unfold rgtB
  rw [Bool.and_eq_true, Bool.and_eq_true, Bool.and_eq_true, decide_eq_true_iff, decide_eq_true_iff, decide_eq_true_iff, List.all_eq_true]
  refine ⟨h.pos, h.few, h.len, fun j hj => ?_⟩
  have hj' : j < N.length := by simpa using hj
  unfold rowB
  rw [Bool.and_eq_true, Bool.and_eq_true, decide_eq_true_iff, decide_eq_true_iff, List.all_eq_true]
  refine ⟨(h.rgt j hj').1, h.acc j (by rw [← h.len]; exact hj'), fun c hc => ?_⟩
  unfold okB
  rw [Bool.and_eq_true, decide_eq_true_iff, decide_eq_true_iff]
  exact (h.rgt j hj').2 c (by simpa using hc)
def goB (N : List (List Int)) (A : List Int) (s : Txt) : Int := if rgtB N A then goK N s s.length else -1
def accB (N : List (List Int)) (A : List Int) (s : Txt) : Int := if goB N A s = -1 then -1 else A.getD (goB N A s).toNat 0
theorem goB_yes {N : List (List Int)} {A : List Int} {s : Txt} (h : rgtB N A = true) : goB N A s = goK N s s.length := by unfold goB; rw [if_pos h]
end Go.Proofs.YtonlcnmlklaicaaGreatDoor
