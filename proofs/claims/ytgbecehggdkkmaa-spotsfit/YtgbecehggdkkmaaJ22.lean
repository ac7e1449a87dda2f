/- The reference: Fits of spots. The reference: Fits of spots whose numbers are spots'. -/
import Derived.Test.YtgbecehggdkkmaaJ21
namespace Go.Proofs.Ytgbecehggdkkmaa
open Go.RowKit

/-- may a way come to spot k with byte i -/
def mayK (p : Sp) (i : Nat) (on : List Bool) (k m : Nat) : Bool := (decide (i = 0) && p.first.contains (k : Int)) || (List.range m).any fun j => decide (0 < i) && (on.getD j false && (p.follow.getD j []).contains (k : Int))
def nextF (p : Sp) (s : Txt) (i : Nat) (on : List Bool) (k : Nat) : Bool := mayK p i on k p.sets.length && hasB (p.sets.getD k noneB) (s.getD i 0).toNat
/-- the spots that a way may have come to behind i bytes -/
def onK (p : Sp) (s : Txt) : Nat → List Bool
  | 0 => List.replicate p.sets.length false
  | i + 1 => tabK p.sets.length p.sets.length (nextF p s i (onK p s i))
def goodB (p : Sp) : Bool := decide (p.follow.length = p.sets.length) && insB p.first p.sets.length && insB p.last p.sets.length && p.follow.all fun l => insB l p.sets.length
def lastK (p : Sp) (s : Txt) (m : Nat) : Bool := (List.range m).any fun k => (onK p s s.length).getD k false && p.last.contains (k : Int)
def fitB (p : Sp) (s : Txt) : Bool := goodB p && (if s.length = 0 then p.null else lastK p s p.sets.length)
theorem onK_len (p : Sp) (s : Txt) : ∀ i, (onK p s i).length = p.sets.length
  | 0 => by simp [onK]
  | i + 1 => by simp [onK, tabK_len]
theorem lastK_succ (p : Sp) (s : Txt) (m : Nat) : lastK p s (m + 1) = (lastK p s m || ((onK p s s.length).getD m false && p.last.contains (m : Int))) := by
  unfold lastK
  rw [List.range_succ, List.any_append]
  simp
theorem mayK_succ (p : Sp) (i : Nat) (on : List Bool) (k m : Nat) : mayK p i on k (m + 1) = (mayK p i on k m || (decide (0 < i) && (on.getD m false && (p.follow.getD m []).contains (k : Int)))) := by
  unfold mayK
  rw [List.range_succ, List.any_append, Bool.or_assoc]
  simp
theorem lastK_yes {p : Sp} {s : Txt} {m n : Nat} (h : lastK p s m = true) (hm : m ≤ n) : lastK p s n = true := by
  unfold lastK at h ⊢
  rw [List.any_eq_true] at h ⊢
  obtain ⟨x, hx, h⟩ := h
  exact ⟨x, by simp at hx ⊢; omega, h⟩
def allK (p : Sp) (k : Nat) : Bool := (p.follow.take k).all fun l => insB l p.sets.length
theorem allK_succ (p : Sp) (k : Nat) (h : k < p.follow.length) : allK p (k + 1) = (allK p k && insB p.follow[k] p.sets.length) := by
  unfold allK
  rw [List.take_succ_eq_append_getElem h, List.all_append]
  simp
theorem allK_no (p : Sp) (k : Nat) (h : k < p.follow.length) (hn : insB p.follow[k] p.sets.length = false) : (p.follow.all fun l => insB l p.sets.length) = false := by
  rw [List.all_eq_false]
  exact ⟨_, List.getElem_mem h, by rw [hn]; simp⟩

/-- the struct's own block -/
def spObj (sv fv lv gv : Value) (nl : Bool) : Obj := .cells #[sv, .bool nl, fv, lv, gv] 27

set_option maxRecDepth 20000 in
set_option maxHeartbeats 8000000 in
theorem rfitsBad (sv fv lv gv : Value) (p : Sp) (s : Txt) (w : World) (h : SpV w sv fv lv gv p) (h1 : p.sets.length ≤ 60) (h2 : p.follow.length ≤ 60) (h3 : p.first.length ≤ 100) (h4 : p.last.length ≤ 100) (hb : (decide (p.follow.length = p.sets.length) && insB p.first p.sets.length && insB p.last p.sets.length) = false) :
    Calls Try.prog 14 #[.agg #[sv, .bool p.null, fv, lv, gv], .string (strT s)] w fun e w' => e = .returned (.bool false) ∧ Below w.heap.size w w' := by
  have hal := hid (al' w (.cells #[sv, .bool p.null, fv, lv, gv] 27))
  have G1 := hid (insideC fv p.first p.sets.length _ (by omega) (h.first.keep hal.out))
  have G2 := hid (insideC lv p.last p.sets.length _ (by omega) (h.last.keep hal.out))
  obtain ⟨sets, nl, fi, la, fo⟩ := p
  obtain ⟨hS, hF, hL, hG⟩ := h
  simp only at hS hF hL hG h1 h2 h3 h4 hb G1 G2 hal ⊢
  obtain ⟨sa, sc, rfl, hS⟩ := hS
  obtain ⟨fa, fc, rfl, hF⟩ := hF
  obtain ⟨la', lc, rfl, hL⟩ := hL
  obtain ⟨ga, gc, rfl, hG⟩ := hG
  clear hS hF hL hG
  generalize insB fi sets.length = b1 at G1 hb
  generalize insB la sets.length = b2 at G2 hb
  generalize sets.length = N at *
  generalize fo.length = M at *
  have hb := hid hb
  by_cases hne : M = N
  · subst hne
    cases b1 with
    | false =>
      go_enter Try.func14, Try.ntmps14
      go_wp2_with (go_at_call_of 37 (Value.slice fa fi.length fc); refine G1.out.mono ?_; rintro e u1 ⟨rfl, hu⟩; subst u1)
      go_ret
      exact ⟨rfl, hal.out⟩
    | true =>
      have e2 : b2 = false := by simpa using hb.out
      subst e2
      go_enter Try.func14, Try.ntmps14
      go_wp2_with (first
        | (go_at_call_of 37 (Value.slice fa fi.length fc); refine G1.out.mono ?_; rintro e u1 ⟨rfl, hu⟩; subst u1)
        | (go_at_call_of 37 (Value.slice la' la.length lc); refine G2.out.mono ?_; rintro e u1 ⟨rfl, hu⟩; subst u1))
      go_ret
      exact ⟨rfl, hal.out⟩
  · have hnz : ((M : Int) == (N : Int)) = false := by simp; omega
    go_enter Try.func14, Try.ntmps14
    go_wp2
    go_ret
    exact ⟨rfl, hal.out⟩

end Go.Proofs.Ytgbecehggdkkmaa
namespace Go.Proofs.Ytgbecehggdkkmaa
open Go.RowKit

theorem mayK_zero (p : Sp) (on : List Bool) (k m : Nat) : mayK p 0 on k m = p.first.contains (k : Int) := by
  unfold mayK
  simp
theorem mayK_first (p : Sp) (i : Nat) (on : List Bool) (k : Nat) (hi : 0 < i) : mayK p i on k 0 = false := by
  unfold mayK
  have : ¬ i = 0 := by omega
  simp [this]
theorem numss_at {w : World} {a : Option Addr} {n c : Nat} {l : List (List Int)} (h : Numss w (.slice a n c) l) {j : Nat} (hj : j < l.length) : ∃ b o x, a = some ⟨b, o, none⟩ ∧ b < w.heap.size ∧ w.cell? ⟨b, o + j, none⟩ = some x ∧ Nums w x (l.getD j []) := by
  obtain ⟨a', c', e, _, _, h⟩ := h
  injection e with e1 e2 e3
  subst e1
  rw [List.getD_eq_getElem?_getD, List.getElem?_eq_getElem hj]
  exact h j hj
theorem sets_at {w : World} {a : Option Addr} {n c : Nat} {l : List W4} (h : Sets w (.slice a n c) l) {j : Nat} (hj : j < l.length) : ∃ b o, a = some ⟨b, o, none⟩ ∧ b < w.heap.size ∧ At4 w b (o + j * 4) (l.getD j noneB) ∧ Fit4 (l.getD j noneB) := by
  obtain ⟨a', c', e, _, _, hf, h⟩ := h
  injection e with e1 e2 e3
  subst e1
  rw [List.getD_eq_getElem?_getD, List.getElem?_eq_getElem hj]
  obtain ⟨b, o, h1, h2, h3⟩ := h j hj
  exact ⟨b, o, h1, h2, h3, hf _ (List.getElem_mem hj)⟩

theorem sp_cells {w u : World} {sv fv lv gv nl : Value} (hb : Below (w.alloc (.cells #[sv, nl, fv, lv, gv] 27)).heap.size (w.alloc (.cells #[sv, nl, fv, lv, gv] 27)) u) : u.cell? ⟨w.heap.size, 0, none⟩ = some sv ∧ u.cell? ⟨w.heap.size, 2, none⟩ = some fv ∧ u.cell? ⟨w.heap.size, 3, none⟩ = some lv ∧ u.cell? ⟨w.heap.size, 4, none⟩ = some gv :=
  ⟨keep_cell hb (by simp), keep_cell hb (by simp), keep_cell hb (by simp), keep_cell hb (by simp)⟩

set_option maxRecDepth 20000 in
set_option maxHeartbeats 4000000 in
theorem rfitsGood (sv fv lv gv : Value) (p : Sp) (s : Txt) (w : World) (h : SpV w sv fv lv gv p) (h1 : p.sets.length ≤ 60) (hg : p.follow.length = p.sets.length) (h3 : p.first.length ≤ 100) (h4 : p.last.length ≤ 100) (h5 : ∀ l ∈ p.follow, l.length ≤ 100) (hs : s.length ≤ 1000) (hb1 : insB p.first p.sets.length = true) (hb2 : insB p.last p.sets.length = true) :
    Calls Try.prog 14 #[.agg #[sv, .bool p.null, fv, lv, gv], .string (strT s)] w fun e w' => e = .returned (.bool (fitB p s)) ∧ Below w.heap.size w w' := by
  have hal := hid (al' w (.cells #[sv, .bool p.null, fv, lv, gv] 27))
  have hq : Hid (w.heap.size < (w.alloc (.cells #[sv, .bool p.null, fv, lv, gv] 27)).heap.size) := hid (by simp)
  have hV := h.keep hal.out
  have G1 := hid (insideC fv p.first p.sets.length _ (by omega) hV.first)
  have G2 := hid (insideC lv p.last p.sets.length _ (by omega) hV.last)
  rw [hb1] at G1
  rw [hb2] at G2
  have GI := hid (fun x (l : List Int) u (hl : l.length ≤ 100) hN => insideC x l p.sets.length u (by omega) hN)
  have GH := hid (fun x (l : List Int) (n : Int) u (hl : l.length ≤ 100) hN => numHas x l n u (by omega) hN)
  have hC := hid (fun u (hu : Below (w.alloc (.cells #[sv, .bool p.null, fv, lv, gv] 27)).heap.size (w.alloc (.cells #[sv, .bool p.null, fv, lv, gv] 27)) u) => sp_cells hu)
  have hV := hid hV
  have hall := hid (allK_succ p)
  have hano := hid (allK_no p)
  have hfl : Hid (∀ k, k < p.follow.length → (p.follow.getD k []).length ≤ 100) := hid (fun k hk => by
    rw [List.getD_eq_getElem?_getD, List.getElem?_eq_getElem hk]
    exact h5 _ (List.getElem_mem hk))
  have hfit : Hid (fitB p s = ((p.follow.all fun l => insB l p.sets.length) && (if s.length = 0 then p.null else lastK p s p.sets.length))) := hid (by simp [fitB, goodB, hg, hb1, hb2])
  have hend : Hid (allK p p.follow.length = p.follow.all fun l => insB l p.sets.length) := hid (by unfold allK; rw [List.take_length])
  obtain ⟨sa, sc, rfl⟩ : ∃ a c, sv = .slice a p.sets.length c := by obtain ⟨a, c, e, _⟩ := h.sets; exact ⟨a, c, e⟩
  obtain ⟨fa, fc, rfl⟩ : ∃ a c, fv = .slice a p.first.length c := by obtain ⟨a, c, e, _⟩ := h.first; exact ⟨a, c, e⟩
  obtain ⟨la, lc, rfl⟩ : ∃ a c, lv = .slice a p.last.length c := by obtain ⟨a, c, e, _⟩ := h.last; exact ⟨a, c, e⟩
  obtain ⟨ga, gc, rfl⟩ : ∃ a c, gv = .slice a p.follow.length c := by obtain ⟨a, c, e, _⟩ := h.follow; exact ⟨a, c, e⟩
  obtain ⟨N, hN⟩ : ∃ N, Hid (N = p.sets.length) := ⟨_, hid rfl⟩
  have hNN := hN.out
  have hsz := strT_size s
  clear h hb1 hb2 h5
  have hg' := hid hg
  rw [hg]
  rw [hg] at hV G1 G2 hal hq hC
  rw [← hNN] at h1 G1 G2 hal hq hV hC ⊢
  clear hNN hg
  go_enter Try.func14, Try.ntmps14
  go_wp2_with (first
    | (go_at_call_of 37 (Value.slice fa p.first.length fc); refine G1.out.mono ?_; rintro e u1 ⟨rfl, hu⟩; subst u1)
    | (go_at_call_of 37 (Value.slice la p.last.length lc); refine G2.out.mono ?_; rintro e u1 ⟨rfl, hu⟩; subst u1))
  go_loopw [6] (fun i wr => ∃ k : Nat, k ≤ N ∧ i = .int .i64 k ∧ Hid (allK p k = true) ∧ Hid (wr = w.alloc (.cells #[.slice sa N sc, .bool p.null, .slice fa p.first.length fc, .slice la p.last.length lc, .slice ga N gc] 27))) (fun i _ => N - (intOf i).toNat)
  case atStart => exact ⟨0, Nat.zero_le _, rfl, hid (by simp [allK]), hid rfl⟩
  case round =>
    obtain ⟨k, hk, rfl, hak, hwr⟩ := hrel
    have hwr' := hwr.out
    subst hwr'
    by_cases hlt : k < N
    · have hltz : (k : Int) < (N : Int) := by omega
      have hkf : k < p.follow.length := by rw [hg'.out, ← hN.out]; exact hlt
      obtain ⟨b, o, x, rfl, hb, c0, hNx⟩ := numss_at hV.out.follow hkf
      have GI0 := hid (GI.out x _ _ (hfl.out k hkf) hNx)
      have e1 := hid (hall.out k hkf)
      have e2 := hid (hano.out k hkf)
      have e3 : p.follow[k] = p.follow.getD k [] := by rw [List.getD_eq_getElem?_getD, List.getElem?_eq_getElem hkf]; rfl
      rw [e3, ← hN.out] at e1 e2
      rw [← hN.out] at GI0
      generalize insB (p.follow.getD k []) N = r at GI0 e1 e2
      cases r with
      | false =>
        have hres := hid (hfit.out)
        rw [← hN.out, e2.out rfl, Bool.false_and] at hres
        go_wp2_with (go_at_call 37; refine GI0.out.mono ?_; rintro e u1 ⟨rfl, hu⟩; subst u1)
        go_ret
        exact ⟨by rw [hres.out]; rfl, hal.out⟩
      | true =>
        go_wp2_with (go_at_call 37; refine GI0.out.mono ?_; rintro e u1 ⟨rfl, hu⟩; subst u1)
        go_roundw
        case rel => exact ⟨k + 1, by omega, by go_num, hid (by rw [e1.out, hak.out]; rfl), by first | exact hid rfl | exact hid trivial⟩
        case measure => simp [intOf]; omega
    · have hltz : ¬ (k : Int) < (N : Int) := by omega
      obtain rfl : N = k := by omega
      have hfit1 : Hid (fitB p s = if s.length = 0 then p.null else lastK p s N) := hid (by
        rw [hfit.out, ← hend.out, hg'.out, ← hN.out, hak.out, Bool.true_and])
      clear hfit hend hak hall hano G1 G2 GI
      by_cases hs0 : s.length = 0
      · have hsz0 : ((strT s).size : Int) = 0 := by omega
        rw [if_pos hs0] at hfit1
        go_wp2
        go_ret
        exact ⟨by rw [hfit1.out]; rfl, hal.out⟩
      · have hsz0 : ((s.length : Int) == 0) = false := by rw [beq_eq_false_iff_ne]; omega
        rw [if_neg hs0] at hfit1
        have hmk := run_make_row' (P := Try.prog) 63 4 (.bool false) 1 Try.underlying63 Try.info4 rfl .i64 .i64 N (by omega) (by omega)
        generalize hW : w.alloc (.cells #[.slice sa N sc, .bool p.null, .slice fa p.first.length fc, .slice la p.last.length lc, .slice ga N gc] 27) = W0 at hal hq hV hC ⊢
        obtain ⟨q0, q2, q3, q4⟩ := hC.out W0 (Below.refl _ _)
        have hO0 := own_made0 W0 N (fun _ => false) (by omega)
        rw [tabK_zero] at hO0
        have hB0 : Hid (Bls (W0.alloc (.cells (madeCells #[.bool false] N) 4)) (.slice (some ⟨W0.heap.size, 0, none⟩) N N) (onK p s 0)) := hid (by
          have h1 := bls_n hO0 (by simp)
          rw [onK, ← hN.out]
          exact h1)
        have hal1 := hid (al' W0 (.cells (madeCells #[.bool false] N) 4))
        have hW := hid hW
        clear hO0
        go_wp2
        go_loopw [7, 8] (fun on i wr => ∃ (k : Nat) (a : Option Addr) (c : Nat), k ≤ s.length ∧ i = .int .i64 k ∧ on = .slice a N c ∧ Hid (Bls wr on (onK p s k)) ∧ Below W0.heap.size W0 wr) (fun _ i _ => s.length - (intOf i).toNat)
        case atStart => exact ⟨0, _, _, Nat.zero_le _, rfl, rfl, hB0, hal1.out⟩
        case round =>
          obtain ⟨k, oa, oc, hk, rfl, rfl, hB, hbl⟩ := hrel
          obtain ⟨r0, r2, r3, r4⟩ := hC.out wr hbl
          by_cases hlt : k < s.length
          · have hltz : (k : Int) < (s.length : Int) := by omega
            obtain ⟨wo, hwo⟩ : ∃ x, x = wr := ⟨_, rfl⟩
            subst hwo
            obtain ⟨F, hF⟩ : ∃ F, Hid (F = nextF p s k (onK p s k)) := ⟨_, hid rfl⟩
            have hO1 := hid (own_made0 wo N F (by omega))
            have hal2 := hid (al' wo (.cells (madeCells #[.bool false] N) 4))
            have hqw : Hid (w.heap.size < wo.heap.size) := hid (Nat.lt_of_lt_of_le hq.out hbl.size)
            have hsk : Hid (s.getD k 0 = s[k]'hlt) := hid (by rw [List.getD_eq_getElem?_getD, List.getElem?_eq_getElem hlt]; rfl)
            have hltn : k < (strT s).size := by rw [hsz]; exact hlt
            have hcs : (s[k]'hlt).toNat < 256 := by
              have := UInt8.toNat_lt (s[k]'hlt)
              omega
            go_wp2
            clear hmk
            go_loopw [10] (fun kk wr2 => ∃ q : Nat, q ≤ N ∧ kk = .int .i64 q ∧ Hid (OwnT wr2 wo.heap.size (.slice (some ⟨wo.heap.size, 0, none⟩) N N) (tabK N q F)) ∧ Below wo.heap.size wo wr2) (fun kk _ => N - (intOf kk).toNat)
            case atStart => exact ⟨0, Nat.zero_le _, rfl, hO1, hal2.out⟩
            case round =>
              obtain ⟨wr2, hwr2⟩ : ∃ x, x = wr := ⟨_, rfl⟩
              subst hwr2
              obtain ⟨q, hqN, rfl, hO, hbl2⟩ := hrel
              by_cases hql : q < N
              · have hqz : (q : Int) < (N : Int) := by omega
                have hblW := bl_step hbl hbl2
                obtain ⟨t0, t2, t3, t4⟩ := hC.out wr2 hblW
                have hqs : q < p.sets.length := by rw [← hN.out]; exact hql
                have hVs := hid ((hV.out.keep hblW).sets)
                obtain ⟨zbk, zo, rfl, hzb, ⟨z0, z1, z2, z3⟩, hzf⟩ := sets_at ((hV.out.sets).keep hblW) hqs
                have hzlt : zbk < wo.heap.size := by
                  obtain ⟨b', o', e, hlt', _⟩ := sets_at ((hV.out.sets).keep hbl) hqs
                  injection e with e
                  injection e with e1 e2
                  omega
                have hnz : zbk ≠ wo.heap.size := by omega
                have hn0 : w.heap.size ≠ wo.heap.size := by have := hqw.out; omega
                have n0 := OwnT.at hO.out (j := q) (x := (tabK N q F)[q]'(by rw [tabK_len]; omega)) (List.getElem?_eq_getElem _)
                have n1 := OwnT.free hO.out (by rw [tabK_len]) q
                generalize (tabK N q F)[q]'_ = ox at n0
                have hBk := hid (hB.out.keep hbl2)
                have hFq : Hid (F q = (mayK p k (onK p s k) q N && hasB (p.sets.getD q noneB) (s[k]'hlt).toNat)) := hid (by rw [hF.out, nextF, hsk.out, ← hN.out])
                have hfz := hid hzf
                generalize p.sets.getD q noneB = Z at z0 z1 z2 z3 hfz hFq
                clear hzf hVs
                obtain ⟨za, zb, zc, zd⟩ := Z
                simp only at z0 z1 z2 z3
                have GS : Hid (∀ u, Calls Try.prog 39 #[.agg #[.int .u64 (za : Int), .int .u64 (zb : Int), .int .u64 (zc : Int), .int .u64 (zd : Int)], .int .i64 (IntKind.i64.wrap (((strT s)[k]'hltn).toNat : Int))] u fun e w' => e = .returned (.bool (hasB ⟨za, zb, zc, zd⟩ (s[k]'hlt).toNat)) ∧ Below u.heap.size u w') := hid (fun u => by
                  have hwr : IntKind.i64.wrap ((s[k]'hlt).toNat : Int) = ((s[k]'hlt).toNat : Int) := by rw [IntKind.wrap_i64]; omega
                  have key : IntKind.i64.wrap (((strT s)[k]'hltn).toNat : Int) = ((s[k]'hlt).toNat : Int) := (congrArg (fun c : UInt8 => IntKind.i64.wrap (c.toNat : Int)) (strT_at s k hltn hlt)).trans hwr
                  rw [key]
                  exact refHas za zb zc zd _ u hfz.out hcs)
                have GF := hid (GH.out _ _ (q : Int) wr2 h3 (hV.out.first.keep hblW))
                rcases Nat.eq_zero_or_pos k with hk0 | hk0
                · have hkz : ((k : Int) == 0) = true := by rw [beq_iff_eq]; omega
                  have hkp : ¬ (0 : Int) < (k : Int) := by omega
                  have hm0 := hid (fun m => mayK_zero p (onK p s k) q m)
                  have hX : Hid (∀ m, mayK p k (onK p s k) q m = p.first.contains (q : Int)) := hid (fun m => by have := hm0.out m; rw [hk0] at this ⊢; exact this)
                  clear hm0 hk0
                  rw [hX.out N] at hFq
                  generalize p.first.contains (q : Int) = xx at hFq hX GF
                  clear hX
                  have hN0 : (0 : Int) < (N : Int) := by omega
                  go_wp2_with (go_at_call 38; refine GF.out.mono ?_; rintro e u1 ⟨rfl, hu⟩; subst u1)
                  go_loopw [11, 12] (fun may j wr' => j = .int .i64 0 ∧ may = .bool xx ∧ Hid (wr' = wr2)) (fun _ _ _ => 0)
                  case atStart => exact ⟨rfl, rfl, hid rfl⟩
                  case round =>
                    obtain ⟨rfl, rfl, hwr⟩ := hrel
                    obtain rfl : wr2 = wr := hwr.out.symm
                    have hbd : Below wr2.heap.size wr2 wr2.drew := (Below.refl _ _).drew
                    have hput : Hid (∀ x, F q = x → ∀ u, Below wr2.heap.size wr2 u → OwnT (u.setCell ⟨wo.heap.size, q, none⟩ (.bool x)) wo.heap.size (.slice (some ⟨wo.heap.size, 0, none⟩) N N) (tabK N (q + 1) F)) := hid (fun x hx u hu => by
                      have h1 := OwnT.put_n (k := q) x (own_below hO.out hu) (tabK_len N q F).symm
                      rw [← hx, tabK_step] at h1
                      rw [← hx]
                      exact h1)
                    cases xx with
                    | false =>
                      rw [Bool.false_and] at hFq
                      clear GS
                      go_wp2_with fail
                      go_region
                      all_goals
                        go_wp2
                        go_roundw
                        case rel => exact ⟨q + 1, by omega, by go_num, hid (hput.out _ hFq.out _ (by first | exact hbd | exact Below.refl _ _)), by first | exact bl_set (bl_step hbl2 hbd) _ _ _ (Nat.le_refl _) | exact bl_set hbl2 _ _ _ (Nat.le_refl _)⟩
                        case measure => simp [intOf]; omega
                    | true =>
                      rw [Bool.true_and] at hFq
                      generalize hasB ⟨za, zb, zc, zd⟩ (s[k]'hlt).toNat = r at GS hFq
                      go_wp2_with fail
                      go_region_held3 (fun w' => w'.cell? ⟨w.heap.size, 0, none⟩ = some (.slice (some ⟨zbk, zo, none⟩) N sc) ∧ w'.cell? ⟨zbk, zo + q * 4, none⟩ = some (.int .u64 (za : Int)) ∧ w'.cell? ⟨zbk, zo + q * 4 + 1, none⟩ = some (.int .u64 (zb : Int)) ∧ w'.cell? ⟨zbk, zo + q * 4 + 2, none⟩ = some (.int .u64 (zc : Int)) ∧ w'.cell? ⟨zbk, zo + q * 4 + 3, none⟩ = some (.int .u64 (zd : Int)))
                        (go_keep)
                        ((go_at_call 39; refine (GS.out _).mono ?_; rintro e w1 ⟨rfl, hb1⟩; have g0 := keep_cell hb1 (show World.cell? wr2.drew _ = _ from t0); have g1 := keep_cell hb1 (show World.cell? wr2.drew _ = _ from z0); have g2 := keep_cell hb1 (show World.cell? wr2.drew _ = _ from z1); have g3 := keep_cell hb1 (show World.cell? wr2.drew _ = _ from z2); have g4 := keep_cell hb1 (show World.cell? wr2.drew _ = _ from z3); have o2 := keep_cell hb1 (show World.cell? wr2.drew _ = _ from n0); have o3 := keep_free hb1 n0 n1; have p0 := set_keep (v := .bool r) q g0 hn0; have p1 := set_keep (v := .bool r) q g1 hnz; have p2 := set_keep (v := .bool r) q g2 hnz; have p3 := set_keep (v := .bool r) q g3 hnz; have p4 := set_keep (v := .bool r) q g4 hnz))
                      all_goals
                        go_wp2
                        go_roundw
                        case rel => exact ⟨q + 1, by omega, by go_num, hid (hput.out _ hFq.out _ (bl_step hbd hb1)), bl_set (bl_step (bl_step hbl2 hbd) hb1) _ _ _ (Nat.le_refl _)⟩
                        case measure => simp [intOf]; omega
                · have hkz : ((k : Int) == 0) = false := by rw [beq_eq_false_iff_ne]; omega
                  have hkp : (0 : Int) < (k : Int) := by omega
                  have hX0 := hid (mayK_first p k (onK p s k) q hk0)
                  have hXs : Hid (∀ m, mayK p k (onK p s k) q (m + 1) = (mayK p k (onK p s k) q m || ((onK p s k).getD m false && (p.follow.getD m []).contains (q : Int)))) := hid (fun m => by rw [mayK_succ]; simp [hk0])
                  generalize mayK p k (onK p s k) q = X at hX0 hXs hFq
                  clear GF hk0
                  go_wp2
                  go_loopw [11, 12] (fun may j wr' => ∃ m : Nat, m ≤ N ∧ j = .int .i64 m ∧ may = .bool (X m) ∧ Hid (wr' = wr2)) (fun _ j _ => N - (intOf j).toNat)
                  case atStart => exact ⟨0, Nat.zero_le _, rfl, by rw [hX0.out], hid rfl⟩
                  case round =>
                    obtain ⟨m, hm, rfl, rfl, hwr⟩ := hrel
                    obtain rfl : wr2 = wr := hwr.out.symm
                    by_cases hmN : m < N
                    · have hmz : (m : Int) < (N : Int) := by omega
                      obtain ⟨ob, oo, rfl, hob, o0⟩ := bls_atn hBk.out (j := m) (by rw [onK_len, ← hN.out]; exact hmN)
                      rw [nx_get _ m (by rw [onK_len, ← hN.out]; exact hmN)] at o0
                      have hmf : m < p.follow.length := by rw [hg'.out, ← hN.out]; exact hmN
                      obtain ⟨gb, go, gx, rfl, hgb, gc0, hgx⟩ := numss_at ((hV.out.follow).keep hblW) hmf
                      have GL := hid (GH.out gx _ (q : Int) wr2 (hfl.out m hmf) hgx)
                      have hs1 := hid (hXs.out m)
                      clear hgx
                      generalize (onK p s k).getD m false = x at o0 hs1
                      generalize (p.follow.getD m []).contains (q : Int) = y at GL hs1
                      generalize X m = x0 at hs1
                      cases x0 with
                      | true =>
                        go_wp2
                        go_roundw
                        case rel => exact ⟨m + 1, by omega, by go_num, by rw [hs1.out]; rfl, by first | exact hid rfl | exact hid trivial⟩
                        case measure => simp [intOf]; omega
                      | false =>
                        cases x with
                        | false =>
                          go_wp2
                          go_roundw
                          case rel => exact ⟨m + 1, by omega, by go_num, by rw [hs1.out]; rfl, by first | exact hid rfl | exact hid trivial⟩
                          case measure => simp [intOf]; omega
                        | true =>
                          go_wp2_with (go_at_call 38; refine GL.out.mono ?_; rintro e u1 ⟨rfl, hu⟩; subst u1)
                          go_roundw
                          case rel => exact ⟨m + 1, by omega, by go_num, by rw [hs1.out]; rfl, by first | exact hid rfl | exact hid trivial⟩
                          case measure => simp [intOf]; omega
                    · have hmz : ¬ (m : Int) < (N : Int) := by omega
                      obtain rfl : N = m := by omega
                      generalize X N = xx at hFq
                      clear hXs hX0
                      have hbd : Below wr2.heap.size wr2 wr2.drew := (Below.refl _ _).drew
                      have hput : Hid (∀ x, F q = x → ∀ u, Below wr2.heap.size wr2 u → OwnT (u.setCell ⟨wo.heap.size, q, none⟩ (.bool x)) wo.heap.size (.slice (some ⟨wo.heap.size, 0, none⟩) N N) (tabK N (q + 1) F)) := hid (fun x hx u hu => by
                        have h1 := OwnT.put_n (k := q) x (own_below hO.out hu) (tabK_len N q F).symm
                        rw [← hx, tabK_step] at h1
                        rw [← hx]
                        exact h1)
                      cases xx with
                      | false =>
                        rw [Bool.false_and] at hFq
                        clear GS
                        go_wp2_with fail
                        go_region
                        all_goals
                          go_wp2
                          go_roundw
                          case rel => exact ⟨q + 1, by omega, by go_num, hid (hput.out _ hFq.out _ (by first | exact hbd | exact Below.refl _ _)), by first | exact bl_set (bl_step hbl2 hbd) _ _ _ (Nat.le_refl _) | exact bl_set hbl2 _ _ _ (Nat.le_refl _)⟩
                          case measure => simp [intOf]; omega
                      | true =>
                        rw [Bool.true_and] at hFq
                        generalize hasB ⟨za, zb, zc, zd⟩ (s[k]'hlt).toNat = r at GS hFq
                        go_wp2_with fail
                        go_region_held3 (fun w' => w'.cell? ⟨w.heap.size, 0, none⟩ = some (.slice (some ⟨zbk, zo, none⟩) N sc) ∧ w'.cell? ⟨zbk, zo + q * 4, none⟩ = some (.int .u64 (za : Int)) ∧ w'.cell? ⟨zbk, zo + q * 4 + 1, none⟩ = some (.int .u64 (zb : Int)) ∧ w'.cell? ⟨zbk, zo + q * 4 + 2, none⟩ = some (.int .u64 (zc : Int)) ∧ w'.cell? ⟨zbk, zo + q * 4 + 3, none⟩ = some (.int .u64 (zd : Int)))
                          (go_keep)
                          ((go_at_call 39; refine (GS.out _).mono ?_; rintro e w1 ⟨rfl, hb1⟩; have g0 := keep_cell hb1 (show World.cell? wr2.drew _ = _ from t0); have g1 := keep_cell hb1 (show World.cell? wr2.drew _ = _ from z0); have g2 := keep_cell hb1 (show World.cell? wr2.drew _ = _ from z1); have g3 := keep_cell hb1 (show World.cell? wr2.drew _ = _ from z2); have g4 := keep_cell hb1 (show World.cell? wr2.drew _ = _ from z3); have o2 := keep_cell hb1 (show World.cell? wr2.drew _ = _ from n0); have o3 := keep_free hb1 n0 n1; have p0 := set_keep (v := .bool r) q g0 hn0; have p1 := set_keep (v := .bool r) q g1 hnz; have p2 := set_keep (v := .bool r) q g2 hnz; have p3 := set_keep (v := .bool r) q g3 hnz; have p4 := set_keep (v := .bool r) q g4 hnz))
                        all_goals
                          go_wp2
                          go_roundw
                          case rel => exact ⟨q + 1, by omega, by go_num, hid (hput.out _ hFq.out _ (bl_step hbd hb1)), bl_set (bl_step (bl_step hbl2 hbd) hb1) _ _ _ (Nat.le_refl _)⟩
                          case measure => simp [intOf]; omega
              · have hqz : ¬ (q : Int) < (N : Int) := by omega
                obtain rfl : N = q := by omega
                have hnext : Hid (Bls wr2 (.slice (some ⟨wo.heap.size, 0, none⟩) N N) (onK p s (k + 1))) := hid (by
                  have h1 := bls_n hO.out (tabK_len N N F).symm
                  rw [hF.out, hN.out] at h1
                  rw [onK, hN.out]
                  exact h1)
                go_wp2
                go_roundw
                case rel => exact ⟨k + 1, _, _, by omega, by go_num, rfl, hnext, bl_step hbl hbl2⟩
                case measure => simp [intOf]; omega
          · have hltz : ¬ (k : Int) < (s.length : Int) := by omega
            obtain rfl : s.length = k := by omega
            clear hmk
            go_wp2
            go_loopw [13] (fun i wr' => ∃ m : Nat, m ≤ N ∧ i = .int .i64 m ∧ Hid (lastK p s m = false) ∧ Hid (wr' = wr)) (fun i _ => N - (intOf i).toNat)
            case atStart => exact ⟨0, Nat.zero_le _, rfl, hid (by simp [lastK]), hid rfl⟩
            case round =>
              obtain ⟨m, hm, rfl, hl, hwr⟩ := hrel
              have hwr' := hwr.out
              subst hwr'
              by_cases hmN : m < N
              · have hmz : (m : Int) < (N : Int) := by omega
                obtain ⟨ob, oo, rfl, hob, o0⟩ := bls_atn hB.out (j := m) (by rw [onK_len, ← hN.out]; exact hmN)
                rw [nx_get _ m (by rw [onK_len, ← hN.out]; exact hmN)] at o0
                have hsucc := hid (lastK_succ p s m)
                have hyes := hid (fun h => @lastK_yes p s (m + 1) N h hmN)
                have GH0 := hid (GH.out _ _ (m : Int) _ h4 (hV.out.last.keep hbl))
                rw [hl.out, Bool.false_or] at hsucc
                generalize (onK p s s.length).getD m false = x at o0 hsucc
                generalize p.last.contains (m : Int) = y at hsucc GH0
                cases x with
                | false =>
                  go_wp2
                  go_roundw
                  case rel => exact ⟨m + 1, by omega, by go_num, hid hsucc.out, by first | exact hid rfl | exact hid trivial⟩
                  case measure => simp [intOf]; omega
                | true =>
                  cases y with
                  | false =>
                    go_wp2_with (go_at_call 38; refine GH0.out.mono ?_; rintro e u1 ⟨rfl, hu⟩; subst u1)
                    go_roundw
                    case rel => exact ⟨m + 1, by omega, by go_num, hid hsucc.out, by first | exact hid rfl | exact hid trivial⟩
                    case measure => simp [intOf]; omega
                  | true =>
                    have hres := hid (hfit1.out.trans (hyes.out hsucc.out))
                    go_wp2_with (go_at_call 38; refine GH0.out.mono ?_; rintro e u1 ⟨rfl, hu⟩; subst u1)
                    go_ret
                    exact ⟨by rw [hres.out]; rfl, bl_step hal.out hbl⟩
              · have hmz : ¬ (m : Int) < (N : Int) := by omega
                obtain rfl : N = m := by omega
                have hres := hid (hfit1.out.trans hl.out)
                go_wp2
                go_ret
                exact ⟨by rw [hres.out]; rfl, bl_step hal.out hbl⟩

end Go.Proofs.Ytgbecehggdkkmaa
