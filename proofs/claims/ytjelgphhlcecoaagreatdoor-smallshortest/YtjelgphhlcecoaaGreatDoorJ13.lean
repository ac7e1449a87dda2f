/- The reference of layer 8: spots one behind the other in memory; first. The reference of layer 8: by. The reference of layer 8: Go. The reference of layer 8: Right. -/
import Derived.Test.YtjelgphhlcecoaaGreatDoorJ12
import Derived.Deep.QuietTactic
namespace Go.Proofs.YtjelgphhlcecoaaGreatDoor
open Go.RowKit

/-- spots lie at a place -/
def AtS (w : World) (b o : Nat) (p : Sp) : Prop := ∃ sv fv lv gv, w.cell? ⟨b, o, none⟩ = some sv ∧ w.cell? ⟨b, o + 1, none⟩ = some (.bool p.null) ∧ w.cell? ⟨b, o + 2, none⟩ = some fv ∧ w.cell? ⟨b, o + 3, none⟩ = some lv ∧ w.cell? ⟨b, o + 4, none⟩ = some gv ∧ SpV w sv fv lv gv p
theorem AtS.keep {w w' : World} {b o : Nat} {p : Sp} (h : AtS w b o p) (hb : Below w.heap.size w w') : AtS w' b o p := by
  obtain ⟨sv, fv, lv, gv, h0, h1, h2, h3, h4, h5⟩ := h
  exact ⟨sv, fv, lv, gv, keep_cell hb h0, keep_cell hb h1, keep_cell hb h2, keep_cell hb h3, keep_cell hb h4, h5.keep hb⟩
/-- a slice of spots -/
def Spss (w : World) (v : Value) (l : List Sp) : Prop := ∃ a cap, v = .slice a l.length cap ∧ l.length ≤ cap ∧ (a = none → cap = 0) ∧ ∀ j (h : j < l.length), ∃ b o, a = some ⟨b, o, none⟩ ∧ b < w.heap.size ∧ AtS w b (o + j * 5) l[j]
theorem Spss.keep {w w' : World} {v : Value} {l : List Sp} (h : Spss w v l) (hb : Below w.heap.size w w') : Spss w' v l := by
  obtain ⟨a, cap, hv, hc, hn, hat⟩ := h
  refine ⟨a, cap, hv, hc, hn, fun j hj => ?_⟩
  obtain ⟨b, o, ha, hlt, h1⟩ := hat j hj
  exact ⟨b, o, ha, Nat.lt_of_lt_of_le hlt hb.size, h1.keep hb⟩
/-- spots of a size that the walks can bear -/
structure SmlS (p : Sp) : Prop where
  sets : p.sets.length ≤ 60
  first : p.first.length ≤ 60
  firstIn : ∀ x ∈ p.first, 0 ≤ x ∧ x < 60
  last : p.last.length ≤ 60
  flen : p.follow.length = p.sets.length
  follow : ∀ l ∈ p.follow, l.length ≤ 60 ∧ ∀ x ∈ l, 0 ≤ x ∧ x < 60
theorem getD_at {all : List Sp} {k : Nat} (h : k < all.length) : all.getD k noSp = all[k] := by
  rw [List.getD_eq_getElem?_getD, List.getElem?_eq_getElem h]
  rfl
theorem oneS_len {r : Nat} {p : Sp} (h : SmlS p) : (oneS r p).length ≤ 61 := by
  have := h.first
  unfold oneS
  rw [List.length_append, wideL_len]
  split <;> simp <;> omega
theorem firstS_len {all : List Sp} (h : ∀ p ∈ all, SmlS p) : ∀ m, m ≤ all.length → (firstS all m).length ≤ m * 61
  | 0, _ => by simp [firstS]
  | m + 1, hm => by
    have ih := firstS_len h m (by omega)
    have h1 := oneS_len (r := m) (h all[m] (List.getElem_mem (by omega)))
    rw [firstS, List.length_append, getD_at (by omega)]
    omega
end Go.Proofs.YtjelgphhlcecoaaGreatDoor
namespace Go.Proofs.YtjelgphhlcecoaaGreatDoor
open Go.RowKit

theorem byOne_eq (all : List Sp) (b r j : Nat) (h : j < 999) : byOne all b (enc r j) = if hasB ((all.getD r noSp).sets.getD j noneB) b then wideL r ((all.getD r noSp).follow.getD j []) ++ (if (all.getD r noSp).last.contains (j : Int) then [(r : Int) * 1000 + 999] else []) else [] := by
  have e1 : (enc r j / 1000).toNat = r := enc_div (by omega)
  have e2 : enc r j % 1000 = (j : Int) := enc_mod (by omega)
  have e3 : enc r j / 1000 * 1000 + 999 = (r : Int) * 1000 + 999 := by unfold enc; omega
  unfold byOne
  rw [e1, e2, e3, Int.toNat_natCast]
  by_cases hb : hasB ((all.getD r noSp).sets.getD j noneB) b = true
  · rw [if_neg (by rw [hb]; simp; omega), if_pos hb]
  · rw [if_pos (Or.inr (by simpa using hb)), if_neg hb]
theorem SmlS.fol {p : Sp} (h : SmlS p) (j : Nat) : (p.follow.getD j []).length ≤ 60 ∧ ∀ x ∈ p.follow.getD j [], 0 ≤ x ∧ x < 60 := by
  rw [List.getD_eq_getElem?_getD]
  rcases Nat.lt_or_ge j p.follow.length with hl | hl
  · rw [List.getElem?_eq_getElem hl]
    exact h.follow _ (List.getElem_mem hl)
  · rw [List.getElem?_eq_none hl]
    simp
end Go.Proofs.YtjelgphhlcecoaaGreatDoor
namespace Go.Proofs.YtjelgphhlcecoaaGreatDoor
open Go.RowKit

/-- rows that are right -/
def RgtN (N : List (List Int)) : Prop := ∀ j, j < N.length → (N.getD j []).length = 256 ∧ ∀ c, c < 256 → -1 ≤ (N.getD j []).getD c 0 ∧ (N.getD j []).getD c 0 < (N.length : Int)
theorem goK_in {N : List (List Int)} (h : RgtN N) (h0 : 0 < N.length) (s : Txt) : ∀ i, -1 ≤ goK N s i ∧ goK N s i < (N.length : Int)
  | 0 => by rw [goK]; omega
  | i + 1 => by
    have ih := goK_in h h0 s i
    rw [goK]
    split
    · omega
    · exact (h _ (by omega)).2 _ (s.getD i 0).toNat_lt
theorem goK_out {N : List (List Int)} {s : Txt} {i : Nat} (h : goK N s i < 0) : ∀ d, goK N s (i + d + 1) = -1
  | 0 => by rw [Nat.add_zero, goK, if_pos h]
  | d + 1 => by
    have e : goK N s (i + (d + 1)) = -1 := goK_out h d
    rw [goK, if_pos (by rw [e]; omega)]
theorem goK_succ (N : List (List Int)) (s : Txt) (i : Nat) : goK N s (i + 1) = if goK N s i < 0 then -1 else (N.getD (goK N s i).toNat []).getD (s.getD i 0).toNat 0 := rfl
theorem numss_get {w : World} {a : Option Addr} {n c : Nat} {l : List (List Int)} (h : Numss w (.slice a n c) l) {j : Nat} (hj : j < l.length) : ∃ b o x, a = some ⟨b, o, none⟩ ∧ b < w.heap.size ∧ w.cell? ⟨b, o + j, none⟩ = some x ∧ Nums w x (l.getD j []) := by
  obtain ⟨a', c', e, _, _, h⟩ := h
  injection e with e1 e2 e3
  subst e1
  obtain ⟨b, o, x, h1, h2, h3, h4⟩ := h j hj
  refine ⟨b, o, x, h1, h2, h3, ?_⟩
  rw [List.getD_eq_getElem?_getD, List.getElem?_eq_getElem hj]
  exact h4
theorem nums_get {w : World} {x : Value} {l : List Int} (h : Nums w x l) {c : Nat} (hc : c < l.length) : ∃ b o cap, x = .slice (some ⟨b, o, none⟩) l.length cap ∧ b < w.heap.size ∧ w.cell? ⟨b, o + c, none⟩ = some (.int .i64 (l.getD c 0)) := by
  obtain ⟨a, cap, rfl, _, _, hat⟩ := h
  obtain ⟨b, o, rfl, h1, h2⟩ := hat c hc
  refine ⟨b, o, cap, rfl, h1, ?_⟩
  rw [h2, List.getD_eq_getElem?_getD, List.getElem?_eq_getElem hc]
  rfl
end Go.Proofs.YtjelgphhlcecoaaGreatDoor
namespace Go.Proofs.YtjelgphhlcecoaaGreatDoor
open Go.RowKit

def okB (n : Nat) (x : Int) : Bool := decide (-1 ≤ x) && decide (x < (n : Int))
def rowB (N : List (List Int)) (A : List Int) (i : Nat) : Bool := decide ((N.getD i []).length = 256) && (decide (-1 ≤ A.getD i 0) && (List.range 256).all fun b => okB N.length ((N.getD i []).getD b 0))
def rgtB (N : List (List Int)) (A : List Int) : Bool := decide (1 ≤ N.length) && (decide (N.length ≤ 240) && (decide (N.length = A.length) && (List.range N.length).all fun i => rowB N A i))
theorem all_no {n : Nat} {f : Nat → Bool} {i : Nat} (h : i < n) (hf : f i = false) : (List.range n).all f = false := by
  rw [List.all_eq_false]
  exact ⟨i, by simpa using h, by rw [hf]; simp⟩
theorem all_yes {n : Nat} {f : Nat → Bool} (h : ∀ j, j < n → f j = true) : (List.range n).all f = true := by
  rw [List.all_eq_true]
  exact fun x hx => h x (by simpa using hx)
set_option maxRecDepth 20000 in
set_option maxHeartbeats 4000000 in
theorem refRight (nv av : Value) (N : List (List Int)) (A : List Int) (w : World) (hN : Numss w nv N) (hA : Nums w av A) (hl : N.length ≤ 1000) :
    Calls Tryz.prog 13 #[.agg #[nv, av]] w fun e w' => e = .returned (.bool (rgtB N A)) ∧ Below w.heap.size w w' := by
  obtain ⟨R, hR⟩ : ∃ R, Hid (rgtB N A = R) := ⟨_, hid rfl⟩
  rw [hR.out]
  obtain ⟨na, nc, rfl⟩ : ∃ a c, nv = .slice a N.length c := by obtain ⟨a, c, e, _⟩ := hN; exact ⟨a, c, e⟩
  obtain ⟨va, vc, rfl⟩ : ∃ a c, av = .slice a A.length c := by obtain ⟨a, c, e, _⟩ := hA; exact ⟨a, c, e⟩
  have hN' := hid hN
  have hA' := hid hA
  have hal : Hid (Below w.heap.size w (w.alloc (.cells #[.slice na N.length nc, .slice va A.length vc] 25))) := hid (al' w _)
  clear hN hA
  by_cases c1 : 1 ≤ N.length
  case neg =>
    have hres : R = false := by rw [← hR.out, rgtB, decide_eq_false c1]; rfl
    subst hres
    have z1 : (N.length : Int) < 1 := by omega
    go_enter Tryz.func13, Tryz.ntmps13
    go_wp2
    go_ret
    exact ⟨rfl, hal.out⟩
  have z1 : ¬ (N.length : Int) < 1 := by omega
  by_cases c2 : N.length ≤ 240
  case neg =>
    have hres : R = false := by rw [← hR.out, rgtB, decide_eq_true c1, decide_eq_false c2]; rfl
    subst hres
    have z2 : (240 : Int) < (N.length : Int) := by omega
    go_enter Tryz.func13, Tryz.ntmps13
    go_wp2
    go_ret
    exact ⟨rfl, hal.out⟩
  have z2 : ¬ (240 : Int) < (N.length : Int) := by omega
  by_cases c3 : N.length = A.length
  case neg =>
    have hres : R = false := by rw [← hR.out, rgtB, decide_eq_true c1, decide_eq_true c2, decide_eq_false c3]; rfl
    subst hres
    have z3 : ((N.length : Int) == (A.length : Int)) = false := by rw [beq_eq_false_iff_ne]; omega
    go_enter Tryz.func13, Tryz.ntmps13
    go_wp2
    go_ret
    exact ⟨rfl, hal.out⟩
  have hR2 : Hid (((List.range N.length).all fun i => rowB N A i) = R) := hid (by rw [← hR.out, rgtB, decide_eq_true c1, decide_eq_true c2, decide_eq_true c3]; rfl)
  have hA2 : Hid (∀ k, k < N.length → k < A.length) := hid (fun k hk => by omega)
  rw [← c3] at hal ⊢
  rw [← c3] at hA'
  clear hR c3 c2
  go_enter Tryz.func13, Tryz.ntmps13
  go_wp2
  go_loopw [3] (fun i wr => ∃ k : Nat, k ≤ N.length ∧ i = .int .i64 k ∧ Hid (∀ j, j < k → rowB N A j = true) ∧ Below (w.heap.size + 1) (w.alloc (.cells #[.slice na N.length nc, .slice va N.length vc] 25)) wr) (fun i _ => N.length - (intOf i).toNat)
  case atStart => exact ⟨0, Nat.zero_le _, rfl, hid (fun j hj => absurd hj (Nat.not_lt_zero _)), Below.refl _ _⟩
  case round =>
    obtain ⟨k, hk, rfl, hdone, hbl⟩ := hrel
    have hsize : (w.alloc (.cells #[.slice na N.length nc, .slice va N.length vc] 25)).heap.size = w.heap.size + 1 := by simp
    have hblw : Below w.heap.size w wr := bl_step hal.out (by rw [hsize]; exact hbl)
    have hc0 : wr.cell? ⟨w.heap.size, 0, none⟩ = some (.slice na N.length nc) := keep_cell (by rw [hsize]; exact hbl) (blk_cell (heap_new w _) rfl)
    have hc1 : wr.cell? ⟨w.heap.size, 1, none⟩ = some (.slice va N.length vc) := keep_cell (by rw [hsize]; exact hbl) (blk_cell (heap_new w _) rfl)
    by_cases hlt : k < N.length
    · have hltz : (k : Int) < (N.length : Int) := by omega
      obtain ⟨b1, o1, x, rfl, hb1, hx, hNx⟩ := numss_get (hN'.out.keep hblw) hlt
      obtain ⟨xa, xc, rfl⟩ : ∃ a c, x = .slice a (N.getD k []).length c := by obtain ⟨a, c, e, _⟩ := hNx; exact ⟨a, c, e⟩
      have hNx' := hid hNx
      clear hNx
      obtain ⟨ba, oa, aa, rfl, hba, hy⟩ : ∃ b o a, va = some ⟨b, o, none⟩ ∧ b < wr.heap.size ∧ a = A.getD k 0 ∧ wr.cell? ⟨b, o + k, none⟩ = some (.int .i64 a) := by
        obtain ⟨a', c', e, _, _, hat⟩ := hA'.out.keep hblw
        injection e with e1 e2 e3
        subst e1
        obtain ⟨b, o, h1, h2, h3⟩ := hat k (hA2.out k hlt)
        refine ⟨b, o, _, h1, h2, rfl, ?_⟩
        rw [h3, List.getD_eq_getElem?_getD, List.getElem?_eq_getElem (hA2.out k hlt)]
        rfl
      obtain ⟨ha, hy⟩ := hy
      have hfail : Hid (rowB N A k = false → R = false) := hid (fun h => by rw [← hR2.out]; exact all_no hlt h)
      by_cases d1 : (N.getD k []).length = 256
      case neg =>
        have hres : R = false := hfail.out (by rw [rowB, decide_eq_false d1]; rfl)
        subst hres
        have d1z : (((N.getD k []).length : Int) == 256) = false := by rw [beq_eq_false_iff_ne]; omega
        clear hfail hR2
        generalize (N.getD k []).length = nl at *
        go_wp2
        go_ret
        exact ⟨rfl, hblw⟩
      rw [d1] at hx hNx'
      by_cases d2 : -1 ≤ aa
      case neg =>
        have hres : R = false := hfail.out (by rw [rowB, decide_eq_true d1, ← ha, decide_eq_false d2]; rfl)
        subst hres
        have d2z : aa < -1 := by omega
        clear hfail hR2 ha
        go_wp2
        go_ret
        exact ⟨rfl, hblw⟩
      have d2z : ¬ aa < -1 := by omega
      have hfail2 : Hid (∀ b, b < 256 → okB N.length ((N.getD k []).getD b 0) = false → R = false) := hid (fun b hb h => hfail.out (by rw [rowB, all_no hb h]; simp))
      have hgood : Hid ((∀ b, b < 256 → okB N.length ((N.getD k []).getD b 0) = true) → rowB N A k = true) := hid (fun h => by rw [rowB, decide_eq_true d1, ← ha, decide_eq_true d2, all_yes h]; rfl)
      have hget : Hid (∀ c, c < 256 → ∃ b o, xa = some ⟨b, o, none⟩ ∧ b < wr.heap.size ∧ wr.cell? ⟨b, o + c, none⟩ = some (.int .i64 ((N.getD k []).getD c 0))) := hid (fun c hc => by
        obtain ⟨b, o, cap, e, h1, h2⟩ := nums_get hNx'.out (c := c) (by rw [d1]; exact hc)
        injection e with e1 e2 e3
        exact ⟨b, o, e1, h1, h2⟩)
      clear hfail d1 ha hNx' d2
      obtain ⟨wo, hwo⟩ : ∃ x, x = wr := ⟨_, rfl⟩
      subst hwo
      have hblA : Hid (∀ u, Below wo.heap.size wo u → Below (w.heap.size + 1) (w.alloc (.cells #[.slice (some ⟨b1, o1, none⟩) N.length nc, .slice (some ⟨ba, oa, none⟩) N.length vc] 25)) u) := hid (fun u hu => by
        have h1 := hbl
        rw [← hsize] at h1 ⊢
        exact bl_step h1 hu)
      go_wp2
      go_loopw [4] (fun i wr => ∃ c : Nat, c ≤ 256 ∧ i = .int .i64 c ∧ Hid (∀ b, b < c → okB N.length ((N.getD k []).getD b 0) = true) ∧ Below wo.heap.size wo wr) (fun i _ => 256 - (intOf i).toNat)
      case atStart => exact ⟨0, Nat.zero_le _, rfl, hid (fun j hj => absurd hj (Nat.not_lt_zero _)), Below.refl _ _⟩
      case round =>
        obtain ⟨c, hc, rfl, hin, hb2⟩ := hrel
        have g0 := keep_cell hb2 hc0
        have g2 := keep_cell hb2 hx
        have hblr : Below w.heap.size w wr := bl_step hblw hb2
        by_cases hcl : c < 256
        · have hcz : (c : Int) < 256 := by omega
          obtain ⟨b3, o3, rfl, hb3, h3⟩ := hget.out c hcl
          have g3 := keep_cell hb2 h3
          have hf := hid (hfail2.out c hcl)
          have hok : Hid (okB N.length ((N.getD k []).getD c 0) = true → ∀ b, b < c + 1 → okB N.length ((N.getD k []).getD b 0) = true) := hid (fun h b hb => by
            by_cases e : b = c
            · rw [e]; exact h
            · exact hin.out b (by omega))
          clear h3 hc0 hc1 hx hy
          generalize (N.getD k []).getD c 0 = y at g3 hf hok
          by_cases e1 : -1 ≤ y
          case neg =>
            have hres : R = false := hf.out (by rw [okB, decide_eq_false e1]; rfl)
            subst hres
            have e1z : y < -1 := by omega
            go_wp2_with fail
            go_quiet (fail)
            go_wp2
            go_ret
            exact ⟨rfl, by first | exact hblr | exact belowN hblr⟩
          have e1z : ¬ y < -1 := by omega
          by_cases e2 : y < (N.length : Int)
          case neg =>
            have hres : R = false := hf.out (by rw [okB, decide_eq_false e2, Bool.and_false])
            subst hres
            have e2z : (N.length : Int) ≤ y := by omega
            go_wp2_with fail
            go_quiet (fail)
            go_wp2
            go_ret
            exact ⟨rfl, by first | exact hblr | exact belowN hblr⟩
          have e2z : ¬ (N.length : Int) ≤ y := by omega
          have hok' := hid (hok.out (by rw [okB, decide_eq_true e1, decide_eq_true e2]; rfl))
          go_wp2_with fail
          go_quiet (fail)
          go_wp2
          go_roundw
          case rel => exact ⟨c + 1, by omega, by go_num, hok', by first | exact hb2 | exact belowN hb2⟩
          case measure => simp [intOf]; omega
        · have hcz : ¬ (c : Int) < 256 := by omega
          obtain rfl : c = 256 := by omega
          have hrow := hid (hgood.out hin.out)
          go_wp2
          go_roundw
          case rel => exact ⟨k + 1, by omega, by go_num, hid (fun j hj => by
            by_cases e : j = k
            · rw [e]; exact hrow.out
            · exact hdone.out j (by omega)), hblA.out _ hb2⟩
          case measure => simp [intOf]; omega
    · have hltz : ¬ (k : Int) < (N.length : Int) := by omega
      obtain rfl : k = N.length := by omega
      have hres : R = true := by rw [← hR2.out]; exact all_yes hdone.out
      subst hres
      go_wp2
      go_ret
      exact ⟨rfl, hblw⟩

end Go.Proofs.YtjelgphhlcecoaaGreatDoor
