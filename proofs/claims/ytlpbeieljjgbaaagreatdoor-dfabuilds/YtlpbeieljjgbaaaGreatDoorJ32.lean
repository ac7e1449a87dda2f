/- The reference of layer 8: Right. Layer 8's law: rules in memory; right, heavy. dfa.placesOf. -/
import Derived.Test.YtlpbeieljjgbaaaGreatDoorJ31
import Derived.Test.YtlpbeieljjgbaaaGreatDoorJ30
import Derived.BigRegion
namespace Go.Proofs.YtlpbeieljjgbaaaGreatDoor
open Go.RowKit

def okB (n : Nat) (x : Int) : Bool := decide (-1 ≤ x) && decide (x < (n : Int))
def rowB (N : List (List Int)) (A : List Int) (i : Nat) : Bool := decide ((N.getD i []).length = 256) && (decide (-1 ≤ A.getD i 0) && (List.range 256).all fun b => okB N.length ((N.getD i []).getD b 0))
def rgtB (N : List (List Int)) (A : List Int) : Bool := decide (1 ≤ N.length) && (decide (N.length ≤ 240) && (decide (N.length = A.length) && (List.range N.length).all fun i => rowB N A i))
theorem all_no {n : Nat} {f : Nat → Bool} {i : Nat} (h : i < n) (hf : f i = false) : (List.range n).all f = false := by
  rw [List.all_eq_false]
  exact ⟨i, by simpa using h, by rw [hf]; simp⟩
theorem all_yes {n : Nat} {f : Nat → Bool} (h : ∀ j, j < n → f j = true) : (List.range n).all f = true := by
  rw [List.all_eq_true]
  exact fun x hx => h x (by simpa using hx)
set_option maxRecDepth 20000 in
set_option maxHeartbeats 4000000 in
theorem refRight (nv av : Value) (N : List (List Int)) (A : List Int) (w : World) (hN : Numss w nv N) (hA : Nums w av A) (hl : N.length ≤ 1000) :
    Calls Tryz.prog 9 #[.agg #[nv, av]] w fun e w' => e = .returned (.bool (rgtB N A)) ∧ Below w.heap.size w w' := by
  obtain ⟨R, hR⟩ : ∃ R, Hid (rgtB N A = R) := ⟨_, hid rfl⟩
  rw [hR.out]
  obtain ⟨na, nc, rfl⟩ : ∃ a c, nv = .slice a N.length c := by obtain ⟨a, c, e, _⟩ := hN; exact ⟨a, c, e⟩
  obtain ⟨va, vc, rfl⟩ : ∃ a c, av = .slice a A.length c := by obtain ⟨a, c, e, _⟩ := hA; exact ⟨a, c, e⟩
  have hN' := hid hN
  have hA' := hid hA
  have hal : Hid (Below w.heap.size w (w.alloc (.cells #[.slice na N.length nc, .slice va A.length vc] 25))) := hid (al' w _)
  clear hN hA
  by_cases c1 : 1 ≤ N.length
  case neg =>
    have hres : R = false := by rw [← hR.out, rgtB, decide_eq_false c1]; rfl
    subst hres
    have z1 : (N.length : Int) < 1 := by omega
    go_enter Tryz.func9, Tryz.ntmps9
    go_wp2
    go_ret
    exact ⟨rfl, hal.out⟩
  have z1 : ¬ (N.length : Int) < 1 := by omega
  by_cases c2 : N.length ≤ 240
  case neg =>
    have hres : R = false := by rw [← hR.out, rgtB, decide_eq_true c1, decide_eq_false c2]; rfl
    subst hres
    have z2 : (240 : Int) < (N.length : Int) := by omega
    go_enter Tryz.func9, Tryz.ntmps9
    go_wp2
    go_ret
    exact ⟨rfl, hal.out⟩
  have z2 : ¬ (240 : Int) < (N.length : Int) := by omega
  by_cases c3 : N.length = A.length
  case neg =>
    have hres : R = false := by rw [← hR.out, rgtB, decide_eq_true c1, decide_eq_true c2, decide_eq_false c3]; rfl
    subst hres
    have z3 : ((N.length : Int) == (A.length : Int)) = false := by rw [beq_eq_false_iff_ne]; omega
    go_enter Tryz.func9, Tryz.ntmps9
    go_wp2
    go_ret
    exact ⟨rfl, hal.out⟩
  have hR2 : Hid (((List.range N.length).all fun i => rowB N A i) = R) := hid (by rw [← hR.out, rgtB, decide_eq_true c1, decide_eq_true c2, decide_eq_true c3]; rfl)
  have hA2 : Hid (∀ k, k < N.length → k < A.length) := hid (fun k hk => by omega)
  rw [← c3] at hal ⊢
  rw [← c3] at hA'
  clear hR c3 c2
  go_enter Tryz.func9, Tryz.ntmps9
  go_wp2
  go_loopw [3] (fun i wr => ∃ k : Nat, k ≤ N.length ∧ i = .int .i64 k ∧ Hid (∀ j, j < k → rowB N A j = true) ∧ Below (w.heap.size + 1) (w.alloc (.cells #[.slice na N.length nc, .slice va N.length vc] 25)) wr) (fun i _ => N.length - (intOf i).toNat)
  case atStart => exact ⟨0, Nat.zero_le _, rfl, hid (fun j hj => absurd hj (Nat.not_lt_zero _)), Below.refl _ _⟩
  case round =>
    obtain ⟨k, hk, rfl, hdone, hbl⟩ := hrel
    have hsize : (w.alloc (.cells #[.slice na N.length nc, .slice va N.length vc] 25)).heap.size = w.heap.size + 1 := by simp
    have hblw : Below w.heap.size w wr := bl_step hal.out (by rw [hsize]; exact hbl)
    have hc0 : wr.cell? ⟨w.heap.size, 0, none⟩ = some (.slice na N.length nc) := keep_cell (by rw [hsize]; exact hbl) (blk_cell (heap_new w _) rfl)
    have hc1 : wr.cell? ⟨w.heap.size, 1, none⟩ = some (.slice va N.length vc) := keep_cell (by rw [hsize]; exact hbl) (blk_cell (heap_new w _) rfl)
    by_cases hlt : k < N.length
    · have hltz : (k : Int) < (N.length : Int) := by omega
      obtain ⟨b1, o1, x, rfl, hb1, hx, hNx⟩ := numss_get (hN'.out.keep hblw) hlt
      obtain ⟨xa, xc, rfl⟩ : ∃ a c, x = .slice a (N.getD k []).length c := by obtain ⟨a, c, e, _⟩ := hNx; exact ⟨a, c, e⟩
      have hNx' := hid hNx
      clear hNx
      obtain ⟨ba, oa, aa, rfl, hba, hy⟩ : ∃ b o a, va = some ⟨b, o, none⟩ ∧ b < wr.heap.size ∧ a = A.getD k 0 ∧ wr.cell? ⟨b, o + k, none⟩ = some (.int .i64 a) := by
        obtain ⟨a', c', e, _, _, hat⟩ := hA'.out.keep hblw
        injection e with e1 e2 e3
        subst e1
        obtain ⟨b, o, h1, h2, h3⟩ := hat k (hA2.out k hlt)
        refine ⟨b, o, _, h1, h2, rfl, ?_⟩
        rw [h3, List.getD_eq_getElem?_getD, List.getElem?_eq_getElem (hA2.out k hlt)]
        rfl
      obtain ⟨ha, hy⟩ := hy
      have hfail : Hid (rowB N A k = false → R = false) := hid (fun h => by rw [← hR2.out]; exact all_no hlt h)
      by_cases d1 : (N.getD k []).length = 256
      case neg =>
        have hres : R = false := hfail.out (by rw [rowB, decide_eq_false d1]; rfl)
        subst hres
        have d1z : (((N.getD k []).length : Int) == 256) = false := by rw [beq_eq_false_iff_ne]; omega
        clear hfail hR2
        generalize (N.getD k []).length = nl at *
        go_wp2
        go_ret
        exact ⟨rfl, hblw⟩
      rw [d1] at hx hNx'
      by_cases d2 : -1 ≤ aa
      case neg =>
        have hres : R = false := hfail.out (by rw [rowB, decide_eq_true d1, ← ha, decide_eq_false d2]; rfl)
        subst hres
        have d2z : aa < -1 := by omega
        clear hfail hR2 ha
        go_wp2
        go_ret
        exact ⟨rfl, hblw⟩
      have d2z : ¬ aa < -1 := by omega
      have hfail2 : Hid (∀ b, b < 256 → okB N.length ((N.getD k []).getD b 0) = false → R = false) := hid (fun b hb h => hfail.out (by rw [rowB, all_no hb h]; simp))
      have hgood : Hid ((∀ b, b < 256 → okB N.length ((N.getD k []).getD b 0) = true) → rowB N A k = true) := hid (fun h => by rw [rowB, decide_eq_true d1, ← ha, decide_eq_true d2, all_yes h]; rfl)
      have hget : Hid (∀ c, c < 256 → ∃ b o, xa = some ⟨b, o, none⟩ ∧ b < wr.heap.size ∧ wr.cell? ⟨b, o + c, none⟩ = some (.int .i64 ((N.getD k []).getD c 0))) := hid (fun c hc => by
        obtain ⟨b, o, cap, e, h1, h2⟩ := nums_get hNx'.out (c := c) (by rw [d1]; exact hc)
        injection e with e1 e2 e3
        exact ⟨b, o, e1, h1, h2⟩)
      clear hfail d1 ha hNx' d2
      obtain ⟨wo, hwo⟩ : ∃ x, x = wr := ⟨_, rfl⟩
      subst hwo
      have hblA : Hid (∀ u, Below wo.heap.size wo u → Below (w.heap.size + 1) (w.alloc (.cells #[.slice (some ⟨b1, o1, none⟩) N.length nc, .slice (some ⟨ba, oa, none⟩) N.length vc] 25)) u) := hid (fun u hu => by
        have h1 := hbl
        rw [← hsize] at h1 ⊢
        exact bl_step h1 hu)
      go_wp2
      go_loopw [4] (fun i wr => ∃ c : Nat, c ≤ 256 ∧ i = .int .i64 c ∧ Hid (∀ b, b < c → okB N.length ((N.getD k []).getD b 0) = true) ∧ Below wo.heap.size wo wr) (fun i _ => 256 - (intOf i).toNat)
      case atStart => exact ⟨0, Nat.zero_le _, rfl, hid (fun j hj => absurd hj (Nat.not_lt_zero _)), Below.refl _ _⟩
      case round =>
        obtain ⟨c, hc, rfl, hin, hb2⟩ := hrel
        have g0 := keep_cell hb2 hc0
        have g2 := keep_cell hb2 hx
        have hblr : Below w.heap.size w wr := bl_step hblw hb2
        by_cases hcl : c < 256
        · have hcz : (c : Int) < 256 := by omega
          obtain ⟨b3, o3, rfl, hb3, h3⟩ := hget.out c hcl
          have g3 := keep_cell hb2 h3
          have hf := hid (hfail2.out c hcl)
          have hok : Hid (okB N.length ((N.getD k []).getD c 0) = true → ∀ b, b < c + 1 → okB N.length ((N.getD k []).getD b 0) = true) := hid (fun h b hb => by
            by_cases e : b = c
            · rw [e]; exact h
            · exact hin.out b (by omega))
          clear h3 hc0 hc1 hx hy
          generalize (N.getD k []).getD c 0 = y at g3 hf hok
          by_cases e1 : -1 ≤ y
          case neg =>
            have hres : R = false := hf.out (by rw [okB, decide_eq_false e1]; rfl)
            subst hres
            have e1z : y < -1 := by omega
            go_wp2_with fail
            go_quiet (fail)
            go_wp2
            go_ret
            exact ⟨rfl, by first | exact hblr | exact belowN hblr⟩
          have e1z : ¬ y < -1 := by omega
          by_cases e2 : y < (N.length : Int)
          case neg =>
            have hres : R = false := hf.out (by rw [okB, decide_eq_false e2, Bool.and_false])
            subst hres
            have e2z : (N.length : Int) ≤ y := by omega
            go_wp2_with fail
            go_quiet (fail)
            go_wp2
            go_ret
            exact ⟨rfl, by first | exact hblr | exact belowN hblr⟩
          have e2z : ¬ (N.length : Int) ≤ y := by omega
          have hok' := hid (hok.out (by rw [okB, decide_eq_true e1, decide_eq_true e2]; rfl))
          go_wp2_with fail
          go_quiet (fail)
          go_wp2
          go_roundw
          case rel => exact ⟨c + 1, by omega, by go_num, hok', by first | exact hb2 | exact belowN hb2⟩
          case measure => simp [intOf]; omega
        · have hcz : ¬ (c : Int) < 256 := by omega
          obtain rfl : c = 256 := by omega
          have hrow := hid (hgood.out hin.out)
          go_wp2
          go_roundw
          case rel => exact ⟨k + 1, by omega, by go_num, hid (fun j hj => by
            by_cases e : j = k
            · rw [e]; exact hrow.out
            · exact hdone.out j (by omega)), hblA.out _ hb2⟩
          case measure => simp [intOf]; omega
    · have hltz : ¬ (k : Int) < (N.length : Int) := by omega
      obtain rfl : k = N.length := by omega
      have hres : R = true := by rw [← hR2.out]; exact all_yes hdone.out
      subst hres
      go_wp2
      go_ret
      exact ⟨rfl, hblw⟩

end Go.Proofs.YtlpbeieljjgbaaaGreatDoor
namespace Go.Proofs.YtlpbeieljjgbaaaGreatDoor
open Go.RowKit

/-- a slice of rules -/
def Celss (w : World) (v : Value) (L : List (List Cel)) : Prop := ∃ a cap, v = .slice a L.length cap ∧ L.length ≤ cap ∧ (a = none → cap = 0) ∧ ∀ j (h : j < L.length), ∃ b o x, a = some ⟨b, o, none⟩ ∧ b < w.heap.size ∧ w.cell? ⟨b, o + j, none⟩ = some x ∧ Cels w x L[j]
theorem Celss.keep {w w' : World} {v : Value} {L : List (List Cel)} (h : Celss w v L) (hb : Below w.heap.size w w') : Celss w' v L := by
  obtain ⟨a, cap, hv, hc, hn, hat⟩ := h
  refine ⟨a, cap, hv, hc, hn, fun j hj => ?_⟩
  obtain ⟨b, o, x, ha, hlt, h1, h2⟩ := hat j hj
  exact ⟨b, o, x, ha, Nat.lt_of_lt_of_le hlt hb.size, keep_cell hb h1, h2.keep hb⟩
set_option maxRecDepth 20000 in
set_option maxHeartbeats 1000000 in
theorem rightsC (v : Value) (L : List (List Cel)) (w : World) (_hl : L.length ≤ 1000000) (hA : Celss w v L) :
    Calls Tryz.prog 19 #[v] w fun e w' => e = .returned (.bool (L.all rightB && decide (L.length ≤ 16))) ∧ w' = w := by
  obtain ⟨R, hR⟩ : ∃ R, Hid ((L.all rightB && decide (L.length ≤ 16)) = R) := ⟨_, hid rfl⟩
  rw [hR.out]
  obtain ⟨aa, ca, rfl, _, _, hA⟩ := hA
  have hA' := hid hA
  clear hA
  go_enter Tryz.func19, Tryz.ntmps19
  go_wp2
  go_loop [6] (fun i => ∃ k : Nat, k ≤ L.length ∧ i = .int .i64 k ∧ Hid (∀ j (h : j < L.length), j < k → rightB L[j] = true)) (fun i => L.length - (intOf i).toNat)
  case atStart => exact ⟨0, Nat.zero_le _, rfl, hid (fun j _ hj => absurd hj (Nat.not_lt_zero _))⟩
  case round =>
    obtain ⟨k, hk, rfl, hin⟩ := hrel
    by_cases hlt : k < L.length
    · have hltz : (k : Int) < (L.length : Int) := by omega
      obtain ⟨b1, o1, x, rfl, hb1, hx, hC⟩ := hA'.out k hlt
      have G := hid (rightC x L[k] w hC)
      clear hC
      have hno : Hid (rightB L[k] = false → R = false) := hid (fun h => by
        rw [← hR.out, List.all_eq_false.2 ⟨L[k], List.getElem_mem hlt, by rw [h]; simp⟩]
        rfl)
      have hyes : Hid (rightB L[k] = true → ∀ j (h : j < L.length), j < k + 1 → rightB L[j] = true) := hid (fun h j hj hjk => by
        by_cases e : j = k
        · subst e; exact h
        · exact hin.out j hj (by omega))
      generalize rightB L[k] = r at G hno hyes
      cases r with
      | false =>
        have hres : R = false := hno.out rfl
        subst hres
        go_wp2_with (go_at_call 29; refine G.out.mono ?_; rintro e w1 ⟨rfl, hw1⟩; subst w1)
        go_ret
        exact ⟨rfl, rfl⟩
      | true =>
        have hy := hid (hyes.out rfl)
        go_wp2_with (go_at_call 29; refine G.out.mono ?_; rintro e w1 ⟨rfl, hw1⟩; subst w1)
        go_round
        case rel => exact ⟨k + 1, by omega, by go_num, hy⟩
        case measure => simp [intOf]; omega
    · have hltz : ¬ (k : Int) < (L.length : Int) := by omega
      have hall : L.all rightB = true := by
        rw [List.all_eq_true]
        intro x hx
        obtain ⟨j, hj, rfl⟩ := List.getElem_of_mem hx
        exact hin.out j hj (by omega)
      have hres := hR.out
      rw [hall, Bool.true_and] at hres
      by_cases h16 : L.length ≤ 16
      · have hz : (L.length : Int) ≤ 16 := by omega
        have hRt : R = true := by rw [← hres]; exact decide_eq_true h16
        clear hres hall
        subst hRt
        go_wp2
        go_ret
        exact ⟨rfl, rfl⟩
      · have hz : ¬ (L.length : Int) ≤ 16 := by omega
        have hRt : R = false := by rw [← hres]; exact decide_eq_false h16
        clear hres hall
        subst hRt
        go_wp2
        go_ret
        exact ⟨rfl, rfl⟩

/-- the cells of the first k rules, each counted up to 100 -/
def hvS (L : List (List Cel)) : Nat → Nat
  | 0 => 0
  | k + 1 => hvS L k + min (L.getD k []).length 100
theorem hvS_mono (L : List (List Cel)) (k : Nat) : ∀ d, hvS L k ≤ hvS L (k + d)
  | 0 => Nat.le_refl _
  | d + 1 => Nat.le_trans (hvS_mono L k d) (Nat.le_add_right _ _)
def heavyB (L : List (List Cel)) : Bool := decide (40 < hvS L L.length) || decide (20 < L.length)
set_option maxRecDepth 20000 in
set_option maxHeartbeats 1000000 in
theorem heavyC (v : Value) (L : List (List Cel)) (w : World) (_hl : (L.length : Int) < 9223372036854775807) (hA : Celss w v L) :
    Calls Tryz.prog 14 #[v] w fun e w' => e = .returned (.bool (heavyB L)) ∧ w' = w := by
  obtain ⟨R, hR⟩ : ∃ R, Hid (heavyB L = R) := ⟨_, hid rfl⟩
  rw [hR.out]
  obtain ⟨aa, ca, rfl, _, _, hA⟩ := hA
  have hA' := hid hA
  clear hA
  go_enter Tryz.func14, Tryz.ntmps14
  go_wp2
  go_loop [3, 7] (fun n i => ∃ k m : Nat, k ≤ L.length ∧ i = .int .i64 k ∧ n = .int .i64 m ∧ m ≤ 40 ∧ Hid (hvS L k = m)) (fun _ i => L.length - (intOf i).toNat)
  case atStart => exact ⟨0, 0, Nat.zero_le _, rfl, rfl, by omega, hid rfl⟩
  case round =>
    obtain ⟨k, m, hk, rfl, rfl, hm, hin⟩ := hrel
    by_cases hlt : k < L.length
    · have hltz : (k : Int) < (L.length : Int) := by omega
      obtain ⟨b1, o1, x, rfl, hb1, hx, hC⟩ := hA'.out k hlt
      obtain ⟨xa, xc, rfl⟩ : ∃ a c, x = .slice a L[k].length c := by obtain ⟨a, c, e, _⟩ := hC; exact ⟨a, c, e⟩
      clear hC
      have hnext : Hid (hvS L (k + 1) = m + min L[k].length 100) := hid (by
        rw [hvS, hin.out, List.getD_eq_getElem?_getD, List.getElem?_eq_getElem hlt]
        rfl)
      have hbig : Hid (40 < hvS L (k + 1) → R = true) := hid (fun h => by
        have := hvS_mono L (k + 1) (L.length - (k + 1))
        rw [show k + 1 + (L.length - (k + 1)) = L.length by omega] at this
        rw [← hR.out, heavyB, decide_eq_true (show 40 < hvS L L.length by omega)]
        rfl)
      rw [hnext.out] at hbig
      generalize L[k].length = n at hx hnext hbig
      obtain ⟨q, hq⟩ : ∃ q : Nat, q = min n 100 := ⟨_, rfl⟩
      rw [← hq] at hnext hbig
      have hmn : ∀ (u : World) ts ty, (Builtin.min_ ts ty #[.int .i64 (n : Int), .int .i64 100]).run Tryz.prog u = .ok (.int .i64 (q : Int)) u := by
        intro u ts ty
        rw [run_min_int2]
        congr 2
        split <;> omega
      have hq1 : (q : Int) ≤ 100 := by omega
      clear hq
      have hmz : (m : Int) ≤ 40 := by omega
      by_cases h40 : 40 < m + q
      · have hz : (40 : Int) < (m : Int) + (q : Int) := by omega
        have hres : R = true := hbig.out h40
        subst hres
        clear hbig
        go_wp2
        go_ret
        exact ⟨rfl, rfl⟩
      · have hz : ¬ (40 : Int) < (m : Int) + (q : Int) := by omega
        clear hbig
        go_wp2
        go_round
        case rel => exact ⟨k + 1, m + q, by omega, by go_num, by go_num, by omega, hnext⟩
        case measure => simp [intOf]; omega
    · have hltz : ¬ (k : Int) < (L.length : Int) := by omega
      obtain rfl : k = L.length := by omega
      have hres : R = decide (20 < L.length) := by rw [← hR.out, heavyB, hin.out, decide_eq_false (show ¬ 40 < m by omega)]; rfl
      by_cases h20 : 20 < L.length
      · have hz : (20 : Int) < (L.length : Int) := by omega
        rw [decide_eq_true h20] at hres
        subst hres
        go_wp2
        go_ret
        exact ⟨rfl, rfl⟩
      · have hz : ¬ (20 : Int) < (L.length : Int) := by omega
        rw [decide_eq_false h20] at hres
        subst hres
        go_wp2
        go_ret
        exact ⟨rfl, rfl⟩

end Go.Proofs.YtlpbeieljjgbaaaGreatDoor
namespace Go.Proofs.YtlpbeieljjgbaaaGreatDoor
open Go.RowKit

set_option maxRecDepth 20000 in
theorem makeSets (n : Nat) (hn : n ≤ 1000) (w : World) : (Instr.makeSlice 47 (.int .i64 (n : Int)) (.int .i64 (n : Int))).run Tryz.prog w = .ok (.slice (some ⟨w.heap.size, 0, none⟩) n n) (w.alloc (.cells (madeCells #[.int .u64 0, .int .u64 0, .int .u64 0, .int .u64 0] (n * 4)) 80)) := by
  obtain ⟨i0, hi, hz0, hz1, hz2⟩ := info_parts Tryz.infoS4
  have := run_make (P := Tryz.prog) w 47 80 i0 _ Tryz.underlying47 hi hz0 .i64 .i64 (n : Int) (n : Int) (by omega) (Int.le_refl _) (by rw [hz2]; omega) (by omega)
  rw [hz1, Int.toNat_natCast] at this
  exact this
set_option maxRecDepth 20000 in
theorem makeNs (n : Nat) (hn : n ≤ 1000) (w : World) : (Instr.makeSlice 22 (.int .i64 (n : Int)) (.int .i64 (n : Int))).run Tryz.prog w = .ok (.slice (some ⟨w.heap.size, 0, none⟩) n n) (w.alloc (.cells (madeCells #[.slice none 0 0] n) 23)) :=
  run_make_row' (P := Tryz.prog) 22 23 (.slice none 0 0) 24 Tryz.underlying22 Tryz.infoNs rfl .i64 .i64 n (by omega) (by omega) w
theorem flatS_none (n : Nat) : flatS (List.replicate n noneB) = List.replicate (n * 4) (.int .u64 0) := by
  induction n with
  | zero => rfl
  | succ n ih =>
    rw [List.replicate_succ]
    unfold flatS at ih ⊢
    rw [List.flatMap_cons, ih, show (n + 1) * 4 = 4 + n * 4 by omega, ← List.replicate_append_replicate]
    rfl
theorem made4 (n : Nat) : (madeCells #[.int .u64 0, .int .u64 0, .int .u64 0, .int .u64 0] (n * 4)).toList = List.replicate (n * 4) (.int .u64 0) := by
  apply List.ext_getElem?
  intro j
  by_cases hj : j < n * 4
  · have h4 : j % 4 = 0 ∨ j % 4 = 1 ∨ j % 4 = 2 ∨ j % 4 = 3 := by omega
    rcases h4 with h | h | h | h <;> simp [madeCells, hj, h]
  · simp [madeCells, hj]
/-- the places ahead of the first rule -/
theorem PlO.start {W : World} {B pb b1 b2 R : Nat} (hR : R ≤ 1000) (hpb : W.heap[pb]? = some (.cells #[.int .i64 (R : Int), .slice (some ⟨b1, 0, none⟩) R R, .slice (some ⟨b2, 0, none⟩) R R, .slice none 0 0] 49 (0, 0)))
    (h1 : W.heap[b1]? = some (.cells (madeCells #[.int .u64 0, .int .u64 0, .int .u64 0, .int .u64 0] (R * 4)) 80 (0, 0))) (h2 : W.heap[b2]? = some (.cells (madeCells #[.slice none 0 0] R) 23 (0, 0)))
    (e1 : b1 ≠ pb) (e2 : b2 ≠ pb) (e3 : b1 ≠ b2) (g0 : B ≤ pb) (g1 : B ≤ b1) (g2 : B ≤ b2) :
    PlO B pb R (fun k => k < B ∨ k = pb ∨ k = b1 ∨ k = b2) W (.slice (some ⟨b1, 0, none⟩) R R) (.slice (some ⟨b2, 0, none⟩) R R) (.slice none 0 0) (List.replicate R noneB) (List.replicate R nilV) (List.replicate R []) [] where
  blk := hpb
  sets := by
    unfold OwnS
    rw [flatS_none, List.length_replicate]
    refine ⟨by simp, Or.inr ⟨b1, R, _, rfl, g1, h1, Nat.le_refl _, by unfold maxLen; omega, by simp [madeCells], ?_⟩⟩
    rw [made4, List.take_of_length_le (by simp)]
  sF := fun k e => by
    have e' : b1 = k := by injection e
    subst e'
    exact ⟨Or.inr (Or.inr (Or.inl rfl)), e1, fun h => e3 (by injection h with h; exact h.symm), fun h => by cases h⟩
  beh := by
    rw [List.length_replicate]
    refine ⟨by simp, Or.inr ⟨b2, R, _, rfl, g2, h2, Nat.le_refl _, by unfold maxLen; omega, by simp [madeCells], ?_⟩⟩
    rw [toList_madeCells_one, List.take_of_length_le (by simp)]
  bF := fun k e => by
    have e' : b2 = k := by injection e
    subst e'
    exact ⟨Or.inr (Or.inr (Or.inr rfl)), e2, fun h => by cases h⟩
  fir := World.ownsRow_nil _ _ _ _
  fF := fun k e => by cases e
  nums := ⟨by simp, fun j => by
    have a1 : (List.replicate R nilV).getD j nilV = nilV := by
      rw [List.getD_eq_getElem?_getD, List.getElem?_replicate]
      split <;> rfl
    have a2 : (List.replicate R ([] : List Int)).getD j [] = [] := by
      rw [List.getD_eq_getElem?_getD, List.getElem?_replicate]
      split <;> rfl
    rw [a1, a2]
    exact ⟨Nums.nil W, Off.nil _⟩⟩
  inF := Or.inr (Or.inl rfl)
  lt := fun k e => by
    rcases e with e | rfl | rfl | rfl
    · have := blk_lt hpb; omega
    · exact blk_lt hpb
    · exact blk_lt h1
    · exact blk_lt h2
  base := g0
  low := fun k hk => Or.inl hk
theorem heap3 (w : World) (r x y z : Obj) : ((((w.alloc r).alloc x).alloc y).alloc z).drew.heap[w.heap.size + 1]? = some x ∧ ((((w.alloc r).alloc x).alloc y).alloc z).drew.heap[w.heap.size + 1 + 1]? = some y ∧ ((((w.alloc r).alloc x).alloc y).alloc z).drew.heap[w.heap.size + 1 + 1 + 1]? = some z ∧ ((((w.alloc r).alloc x).alloc y).alloc z).drew.heap[w.heap.size]? = some r ∧ Below w.heap.size w ((((w.alloc r).alloc x).alloc y).alloc z).drew := by
  have hs : ∀ (u : World) (o : Obj), (u.alloc o).heap.size = u.heap.size + 1 := fun u o => by simp
  have h1 := heap_new (w.alloc r) x
  have h2 := heap_new ((w.alloc r).alloc x) y
  have h3 := heap_new (((w.alloc r).alloc x).alloc y) z
  have h0 := heap_new w r
  rw [hs] at h1
  rw [hs, hs] at h2
  rw [hs, hs, hs] at h3
  have k1 := (al' (((w.alloc r).alloc x).alloc y) z).drew
  have k2 := bl_step (al' ((w.alloc r).alloc x) y) k1
  have k3 := bl_step (al' (w.alloc r) x) k2
  exact ⟨hs_keep h1 k2, hs_keep h2 k1, h3, hs_keep h0 k3, bl_step (al' w r) k3⟩
/-- what placesOf answers: the places of the rules -/
def PlR (ts : List Rx) (w : World) (sv bv fv : Value) : Prop := ∃ all, SpAll ts all ∧ Sets w sv (setsP all all.length) ∧ Numss w bv (behP all all.length) ∧ Nums w fv (firP all all.length)
theorem setsP_fit {ts : List Rx} {all : List Sp} {L : List (List Cel)} (h : SpAll ts all) (hf : ∀ t ∈ ts, ∀ S ∈ setsL t, Fit4 S) : ∀ m, m ≤ all.length → ∀ S ∈ setsP all m, Fit4 S
  | 0, _, S, hS => by
    rw [setsP] at hS
    rw [List.eq_of_mem_replicate hS]
    exact noneB_fit
  | m + 1, hm, S, hS => by
    rw [setsP, List.mem_append] at hS
    rcases hS with hS | hS
    · exact setsP_fit (L := L) h hf m (by omega) S hS
    · have hm' : m < ts.length := by rw [← h.len]; omega
      obtain ⟨fl, e, _⟩ := h.is m hm'
      rw [e] at hS
      exact hf _ (List.getElem_mem hm') S (by simpa [spOf, setsS] using hS)

end Go.Proofs.YtlpbeieljjgbaaaGreatDoor
