/- The reference: Same of spots that are alike. A rule's spots fit just what the rule fits. -/
import Derived.Test.YtgbecehggdkkmaaJ22
namespace Go.Proofs.Ytgbecehggdkkmaa
open Go.RowKit

theorem sp_cells2 {w u : World} {sv fv lv gv nl : Value} {o : Obj} (hb : Below ((w.alloc (.cells #[sv, nl, fv, lv, gv] 27)).alloc o).heap.size ((w.alloc (.cells #[sv, nl, fv, lv, gv] 27)).alloc o) u) : u.cell? ⟨w.heap.size, 0, none⟩ = some sv ∧ u.cell? ⟨w.heap.size, 2, none⟩ = some fv ∧ u.cell? ⟨w.heap.size, 3, none⟩ = some lv ∧ u.cell? ⟨w.heap.size, 4, none⟩ = some gv :=
  sp_cells ((al' _ o).trans (hb.mono (by simp)))

theorem sp_cells3 {w u : World} {o : Obj} {sv fv lv gv : Value} (h : u.cell? ⟨(w.alloc o).heap.size, 0, none⟩ = some sv ∧ u.cell? ⟨(w.alloc o).heap.size, 2, none⟩ = some fv ∧ u.cell? ⟨(w.alloc o).heap.size, 3, none⟩ = some lv ∧ u.cell? ⟨(w.alloc o).heap.size, 4, none⟩ = some gv) : u.cell? ⟨w.heap.size + 1, 0, none⟩ = some sv ∧ u.cell? ⟨w.heap.size + 1, 2, none⟩ = some fv ∧ u.cell? ⟨w.heap.size + 1, 3, none⟩ = some lv ∧ u.cell? ⟨w.heap.size + 1, 4, none⟩ = some gv := by
  have e : (w.alloc o).heap.size = w.heap.size + 1 := by simp
  rw [e] at h
  exact h

set_option maxRecDepth 20000 in
set_option maxHeartbeats 4000000 in
theorem rsameYes (sv fv lv gv sv' fv' lv' gv' : Value) (p : Sp) (w : World) (h : SpV w sv fv lv gv p) (h' : SpV w sv' fv' lv' gv' p) (h1 : p.sets.length ≤ 60) (hg : p.follow.length = p.sets.length) (h3 : p.first.length ≤ 100) (h4 : p.last.length ≤ 100) (h5 : ∀ l ∈ p.follow, l.length ≤ 100) :
    Calls Try.prog 10 #[.agg #[sv, .bool p.null, fv, lv, gv], .agg #[sv', .bool p.null, fv', lv', gv']] w fun e w' => e = .returned (.bool true) ∧ Below w.heap.size w w' := by
  have hal := hid (bl_step (al' w (.cells #[sv, .bool p.null, fv, lv, gv] 27)) (al' (w.alloc (.cells #[sv, .bool p.null, fv, lv, gv] 27)) (.cells #[sv', .bool p.null, fv', lv', gv'] 27)))
  have hCa := hid (fun u hu => @sp_cells2 w u sv fv lv gv (.bool p.null) (.cells #[sv', .bool p.null, fv', lv', gv'] 27) hu)
  have hCb := hid (fun u hu => sp_cells3 (@sp_cells (w.alloc (.cells #[sv, .bool p.null, fv, lv, gv] 27)) u sv' fv' lv' gv' (.bool p.null) hu))
  have hV := hid (h.keep hal.out)
  have hV' := hid (h'.keep hal.out)
  have GS := hid (fun va vb (l : List Int) u (hl : l.length ≤ 100) ha hb => refSame va vb l l u (by omega) (by omega) ha hb)
  have hfl : Hid (∀ k, k < p.follow.length → (p.follow.getD k []).length ≤ 100) := hid (fun k hk => by
    rw [List.getD_eq_getElem?_getD, List.getElem?_eq_getElem hk]
    exact h5 _ (List.getElem_mem hk))
  obtain ⟨sa, sc, rfl⟩ : ∃ a c, sv = .slice a p.sets.length c := by obtain ⟨a, c, e, _⟩ := h.sets; exact ⟨a, c, e⟩
  obtain ⟨fa, fc, rfl⟩ : ∃ a c, fv = .slice a p.first.length c := by obtain ⟨a, c, e, _⟩ := h.first; exact ⟨a, c, e⟩
  obtain ⟨la, lc, rfl⟩ : ∃ a c, lv = .slice a p.last.length c := by obtain ⟨a, c, e, _⟩ := h.last; exact ⟨a, c, e⟩
  obtain ⟨ga, gc, rfl⟩ : ∃ a c, gv = .slice a p.follow.length c := by obtain ⟨a, c, e, _⟩ := h.follow; exact ⟨a, c, e⟩
  obtain ⟨sa', sc', rfl⟩ : ∃ a c, sv' = .slice a p.sets.length c := by obtain ⟨a, c, e, _⟩ := h'.sets; exact ⟨a, c, e⟩
  obtain ⟨fa', fc', rfl⟩ : ∃ a c, fv' = .slice a p.first.length c := by obtain ⟨a, c, e, _⟩ := h'.first; exact ⟨a, c, e⟩
  obtain ⟨la', lc', rfl⟩ : ∃ a c, lv' = .slice a p.last.length c := by obtain ⟨a, c, e, _⟩ := h'.last; exact ⟨a, c, e⟩
  obtain ⟨ga', gc', rfl⟩ : ∃ a c, gv' = .slice a p.follow.length c := by obtain ⟨a, c, e, _⟩ := h'.follow; exact ⟨a, c, e⟩
  obtain ⟨N, hN⟩ : ∃ N, Hid (N = p.sets.length) := ⟨_, hid rfl⟩
  have hNN := hN.out
  clear h h' h5
  have hg' := hid hg
  rw [hg]
  rw [hg] at hV hV' hal hCa hCb
  rw [← hNN] at h1 hV hV' hal hCa hCb ⊢
  clear hNN hg
  have G1 := hid (GS.out _ _ p.first _ h3 hV.out.first hV'.out.first)
  go_enter Try.func10, Try.ntmps10
  go_wp2_with (first
    | (go_at_call_of 24 (Value.slice la p.last.length lc); refine (GS.out _ _ p.last w1 h4 (hV.out.last.keep hb1) (hV'.out.last.keep hb1)).mono ?_; rintro e w2 ⟨rfl, hb2⟩)
    | (go_at_call_of 24 (Value.slice fa p.first.length fc); refine G1.out.mono ?_; rintro e w1 ⟨rfl, hb1⟩; obtain ⟨r0, r2, r3, r4⟩ := hCa.out w1 hb1; obtain ⟨s0, s2, s3, s4⟩ := hCb.out w1 hb1))
  have hbl0 := hid (bl_step hb1 hb2)
  go_loopw [5] (fun i wr => ∃ k : Nat, k ≤ N ∧ i = .int .i64 k ∧ Below ((w.alloc (.cells #[.slice sa N sc, .bool p.null, .slice fa p.first.length fc, .slice la p.last.length lc, .slice ga N gc] 27)).alloc (.cells #[.slice sa' N sc', .bool p.null, .slice fa' p.first.length fc', .slice la' p.last.length lc', .slice ga' N gc'] 27)).heap.size ((w.alloc (.cells #[.slice sa N sc, .bool p.null, .slice fa p.first.length fc, .slice la p.last.length lc, .slice ga N gc] 27)).alloc (.cells #[.slice sa' N sc', .bool p.null, .slice fa' p.first.length fc', .slice la' p.last.length lc', .slice ga' N gc'] 27)) wr) (fun i _ => N - (intOf i).toNat)
  case atStart => exact ⟨0, Nat.zero_le _, rfl, hbl0.out⟩
  case round =>
    obtain ⟨k, hk, rfl, hbl⟩ := hrel
    obtain ⟨t0, t2, t3, t4⟩ := hCa.out wr hbl
    obtain ⟨u0, u2, u3, u4⟩ := hCb.out wr hbl
    clear r0 r2 r3 r4 s0 s2 s3 s4
    by_cases hlt : k < N
    · have hltz : (k : Int) < (N : Int) := by omega
      have hks : k < p.sets.length := by rw [← hN.out]; exact hlt
      have hkf : k < p.follow.length := by rw [hg'.out, ← hN.out]; exact hlt
      obtain ⟨zb, zo, rfl, hzb, ⟨z0, z1, z2, z3⟩, _⟩ := sets_at (hV.out.sets.keep hbl) hks
      obtain ⟨yb, yo, rfl, hyb, ⟨y0, y1, y2, y3⟩, _⟩ := sets_at (hV'.out.sets.keep hbl) hks
      obtain ⟨gb, go, gx, rfl, hgb, g0, hgx⟩ := numss_at (hV.out.follow.keep hbl) hkf
      obtain ⟨eb, eo, ex, rfl, heb, e0, hex⟩ := numss_at (hV'.out.follow.keep hbl) hkf
      generalize p.sets.getD k noneB = Z at z0 z1 z2 z3 y0 y1 y2 y3
      obtain ⟨za, zbb, zc, zd⟩ := Z
      simp only at z0 z1 z2 z3 y0 y1 y2 y3
      have heq : ∀ u, (Op.equalIn 10000 40 (.agg #[.int .u64 (za : Int), .int .u64 (zbb : Int), .int .u64 (zc : Int), .int .u64 (zd : Int)]) (.agg #[.int .u64 (za : Int), .int .u64 (zbb : Int), .int .u64 (zc : Int), .int .u64 (zd : Int)])).run Try.prog u = .ok true u := fun u => by
        have := equal4 9998 za zbb zc zd za zbb zc zd u
        simpa using this
      have hbd : Below wr.heap.size wr wr.drew := (Below.refl _ _).drew
      have hgt := Try.eqGuardType40
      have GG := hid (GS.out gx ex _ wr.drew (hfl.out k hkf) (hgx.keep hbd) (hex.keep hbd))
      clear hgx hex
      go_wp2_with fail
      go_region_held3 (fun w' => w'.cell? ⟨w.heap.size, 0, none⟩ = some (.slice (some ⟨zb, zo, none⟩) N sc) ∧ w'.cell? ⟨w.heap.size + 1, 0, none⟩ = some (.slice (some ⟨yb, yo, none⟩) N sc') ∧ w'.cell? ⟨zb, zo + k * 4, none⟩ = some (.int .u64 (za : Int)) ∧ w'.cell? ⟨zb, zo + k * 4 + 1, none⟩ = some (.int .u64 (zbb : Int)) ∧ w'.cell? ⟨zb, zo + k * 4 + 2, none⟩ = some (.int .u64 (zc : Int)) ∧ w'.cell? ⟨zb, zo + k * 4 + 3, none⟩ = some (.int .u64 (zd : Int)) ∧ w'.cell? ⟨yb, yo + k * 4, none⟩ = some (.int .u64 (za : Int)) ∧ w'.cell? ⟨yb, yo + k * 4 + 1, none⟩ = some (.int .u64 (zbb : Int)) ∧ w'.cell? ⟨yb, yo + k * 4 + 2, none⟩ = some (.int .u64 (zc : Int)) ∧ w'.cell? ⟨yb, yo + k * 4 + 3, none⟩ = some (.int .u64 (zd : Int)) ∧ w'.cell? ⟨w.heap.size, 4, none⟩ = some (.slice (some ⟨gb, go, none⟩) N gc) ∧ w'.cell? ⟨w.heap.size + 1, 4, none⟩ = some (.slice (some ⟨eb, eo, none⟩) N gc') ∧ w'.cell? ⟨gb, go + k, none⟩ = some gx ∧ w'.cell? ⟨eb, eo + k, none⟩ = some ex)
        (go_keep)
        ((go_at_call 24; refine GG.out.mono ?_; rintro e w3 ⟨rfl, hb3⟩; have kt0 := keep_cell hb3 (show World.cell? wr.drew _ = _ from t0); have ku0 := keep_cell hb3 (show World.cell? wr.drew _ = _ from u0); have kz0 := keep_cell hb3 (show World.cell? wr.drew _ = _ from z0); have kz1 := keep_cell hb3 (show World.cell? wr.drew _ = _ from z1); have kz2 := keep_cell hb3 (show World.cell? wr.drew _ = _ from z2); have kz3 := keep_cell hb3 (show World.cell? wr.drew _ = _ from z3); have ky0 := keep_cell hb3 (show World.cell? wr.drew _ = _ from y0); have ky1 := keep_cell hb3 (show World.cell? wr.drew _ = _ from y1); have ky2 := keep_cell hb3 (show World.cell? wr.drew _ = _ from y2); have ky3 := keep_cell hb3 (show World.cell? wr.drew _ = _ from y3); have kt4 := keep_cell hb3 (show World.cell? wr.drew _ = _ from t4); have ku4 := keep_cell hb3 (show World.cell? wr.drew _ = _ from u4); have kg0 := keep_cell hb3 (show World.cell? wr.drew _ = _ from g0); have ke0 := keep_cell hb3 (show World.cell? wr.drew _ = _ from e0)))
      all_goals
        go_wp2
        go_roundw
        case rel => exact ⟨k + 1, by omega, by go_num, bl_step (bl_step hbl hbd) hb3⟩
        case measure => simp [intOf]; omega
    · have hltz : ¬ (k : Int) < (N : Int) := by omega
      go_wp2
      go_ret
      exact ⟨rfl, bl_step hal.out hbl⟩

end Go.Proofs.Ytgbecehggdkkmaa
namespace Go.Proofs.Ytgbecehggdkkmaa
open Go.RowKit

/-- these are a rule's spots -/
structure IsSp (t : Rx) (p : Sp) : Prop where
  sets : p.sets = setsL t
  null : p.null = t.null
  first : ∀ x, x ∈ p.first ↔ ∃ k : Nat, x = (k : Int) ∧ Fst t 0 k
  last : ∀ x, x ∈ p.last ↔ ∃ k : Nat, x = (k : Int) ∧ Lst t 0 k
  len : p.follow.length = nSets t
  follow : ∀ j x, j < nSets t → (x ∈ p.follow.getD j [] ↔ ∃ k : Nat, x = (k : Int) ∧ Fol t 0 j k)
theorem IsSp.first_has {t : Rx} {p : Sp} (h : IsSp t p) (k : Nat) : p.first.contains (k : Int) = true ↔ Fst t 0 k := by
  rw [List.contains_iff_mem, h.first]
  exact ⟨fun ⟨j, e, hj⟩ => by have : k = j := by omega
                              rw [this]; exact hj, fun hk => ⟨k, rfl, hk⟩⟩
theorem IsSp.last_has {t : Rx} {p : Sp} (h : IsSp t p) (k : Nat) : p.last.contains (k : Int) = true ↔ Lst t 0 k := by
  rw [List.contains_iff_mem, h.last]
  exact ⟨fun ⟨j, e, hj⟩ => by have : k = j := by omega
                              rw [this]; exact hj, fun hk => ⟨k, rfl, hk⟩⟩
theorem IsSp.follow_has {t : Rx} {p : Sp} (h : IsSp t p) (j k : Nat) (hj : j < nSets t) : (p.follow.getD j []).contains (k : Int) = true ↔ Fol t 0 j k := by
  rw [List.contains_iff_mem, h.follow j _ hj]
  exact ⟨fun ⟨i, e, hi⟩ => by have : k = i := by omega
                              rw [this]; exact hi, fun hk => ⟨k, rfl, hk⟩⟩
theorem IsSp.n {t : Rx} {p : Sp} (h : IsSp t p) : p.sets.length = nSets t := by rw [h.sets, setsL_len]
theorem ins_of {l : List Int} {n : Nat} (h : ∀ x ∈ l, 0 ≤ x ∧ x < (n : Int)) : insB l n = true := by
  unfold insB
  rw [List.all_eq_true]
  intro x hx
  have := h x hx
  simp [this.1, this.2]
theorem IsSp.good {t : Rx} {p : Sp} (h : IsSp t p) : goodB p = true := by
  unfold goodB
  rw [h.n, h.len]
  simp only [decide_true, Bool.true_and, Bool.and_eq_true, List.all_eq_true]
  refine ⟨⟨ins_of fun x hx => ?_, ins_of fun x hx => ?_⟩, fun l hl => ins_of fun x hx => ?_⟩
  · obtain ⟨k, rfl, hk⟩ := (h.first x).1 hx
    have := fst_in t 0 k hk
    omega
  · obtain ⟨k, rfl, hk⟩ := (h.last x).1 hx
    have := lst_in t 0 k hk
    omega
  · obtain ⟨j, hj, rfl⟩ := List.getElem_of_mem hl
    have hj' : j < nSets t := by rw [← h.len]; exact hj
    have e : p.follow[j] = p.follow.getD j [] := by rw [List.getD_eq_getElem?_getD, List.getElem?_eq_getElem hj]; rfl
    rw [e] at hx
    obtain ⟨k, rfl, hk⟩ := (h.follow j x hj').1 hx
    have := fol_in t 0 j k hk
    omega
def gOf (t : Rx) (k : Nat) : W4 := (setsL t).getD k noneB
theorem gOf_told (t : Rx) : TldG (gOf t) t 0 := fun i h => by
  unfold gOf
  rw [Nat.zero_add, List.getD_eq_getElem?_getD, List.getElem?_eq_getElem h]
  rfl
theorem onK_get {t : Rx} {p : Sp} (h : IsSp t p) (s : Txt) (i k : Nat) : (onK p s (i + 1)).getD k false = true ↔ k < nSets t ∧ mayK p i (onK p s i) k (nSets t) = true ∧ hasB (gOf t k) (s.getD i 0).toNat = true := by
  rw [onK, List.getD_eq_getElem?_getD]
  by_cases hk : k < nSets t
  · rw [tabK_at (Nat.le_refl _) (by rw [h.n]; exact hk)]
    simp only [Option.getD_some, nextF, Bool.and_eq_true, h.n, hk, true_and, gOf]
    rw [h.sets]
  · rw [List.getElem?_eq_none (by rw [tabK_len, h.n]; omega)]
    simp [hk]
/-- the spots come to are the ends of ways -/
def Ends (t : Rx) (s : Txt) (k : Nat) : Prop := ∃ x u, Fst t 0 x ∧ Chn (Fol t 0) (x :: u) ∧ lastD x u = k ∧ RdS (gOf t) (x :: u) s
theorem take_one (s : Txt) (h : 0 < s.length) : s.take 1 = [s.getD 0 0] := by
  cases s with
  | nil => simp at h
  | cons c s => simp
theorem take_more (s : Txt) (i : Nat) (h : i < s.length) : s.take (i + 1) = s.take i ++ [s.getD i 0] := by
  rw [List.take_succ_eq_append_getElem h, List.getD_eq_getElem?_getD, List.getElem?_eq_getElem h]
  rfl
theorem snoc_of : ∀ (u : List Nat), u ≠ [] → ∃ v y, u = v ++ [y]
  | [], h => absurd rfl h
  | u, h => ⟨u.dropLast, u.getLast h, (List.dropLast_concat_getLast h).symm⟩
theorem onK_ends {t : Rx} {p : Sp} (h : IsSp t p) (s : Txt) : ∀ i k, i < s.length → ((onK p s (i + 1)).getD k false = true ↔ Ends t (s.take (i + 1)) k)
  | 0, k, hi => by
    rw [onK_get h, mayK_zero, h.first_has, take_one s hi]
    constructor
    · rintro ⟨_, h2, h3⟩
      exact ⟨k, [], h2, trivial, rfl, h3, trivial⟩
    · rintro ⟨x, u, h1, h2, h3, h4⟩
      have hl := h4.len
      have hu : u = [] := by cases u with
        | nil => rfl
        | cons _ _ => simp at hl
      subst hu
      have hx : x = k := h3
      subst hx
      exact ⟨by have := fst_in t 0 x h1; omega, h1, h4.1⟩
  | i + 1, k, hi => by
    have ih := fun j => onK_ends h s i j (by omega)
    rw [onK_get h]
    have hmay : mayK p (i + 1) (onK p s (i + 1)) k (nSets t) = true ↔ ∃ j, j < nSets t ∧ Ends t (s.take (i + 1)) j ∧ Fol t 0 j k := by
      unfold mayK
      have e0 : decide (i + 1 = 0) = false := by simp
      have e1 : decide (0 < i + 1) = true := by simp
      rw [e0, e1, Bool.false_and, Bool.false_or, List.any_eq_true]
      simp only [List.mem_range, Bool.true_and, Bool.and_eq_true]
      constructor
      · rintro ⟨j, h1, h2, h3⟩
        exact ⟨j, h1, (ih j).1 h2, (h.follow_has j k h1).1 h3⟩
      · rintro ⟨j, h1, h2, h3⟩
        exact ⟨j, h1, (ih j).2 h2, (h.follow_has j k h1).2 h3⟩
    rw [hmay, take_more s (i + 1) hi]
    constructor
    · rintro ⟨_, ⟨j, _, ⟨x, u, h1, h2, h3, h4⟩, h5⟩, h6⟩
      refine ⟨x, u ++ [k], h1, Chn.app h2 trivial (by rw [h3]; exact h5), lastD_app x u k [], ?_⟩
      exact RdS.app h4 (show RdS (gOf t) [k] _ from ⟨h6, trivial⟩)
    · rintro ⟨x, u, h1, h2, h3, h4⟩
      have hl := h4.len
      have hne : u ≠ [] := by
        intro e
        subst e
        have hq : (s.take (i + 1)).length = i + 1 := by rw [List.length_take]; omega
        rw [List.length_append, hq] at hl
        simp only [List.length_cons, List.length_nil] at hl
        omega
      obtain ⟨v, y, rfl⟩ := snoc_of u hne
      obtain ⟨c1, c2, c3⟩ := Chn.split h2
      have hy : y = k := by rw [lastD_app] at h3; exact h3
      subst hy
      obtain ⟨s1, s2, e, r1, r2⟩ := RdS.split (u := x :: v) (v := [y]) h4
      have hl2 := r2.len
      have hs2 : s1 = s.take (i + 1) ∧ s2 = [s.getD (i + 1) 0] := by
        have := List.append_inj' e (by simpa using hl2)
        exact ⟨this.1.symm, this.2.symm⟩
      obtain ⟨rfl, rfl⟩ := hs2
      have hf := fol_in t 0 _ _ c3
      exact ⟨by omega, ⟨lastD x v, by omega, ⟨x, v, h1, c1, rfl, r1⟩, c3⟩, r2.1⟩
theorem fit_iff {t : Rx} {p : Sp} (h : IsSp t p) (s : Txt) : fitB p s = true ↔ Mat t s := by
  rw [mat_iff t s (gOf t) 0 (gOf_told t)]
  unfold fitB
  rw [h.good, Bool.true_and]
  split
  · rename_i h0
    have : s = [] := List.length_eq_zero_iff.1 h0
    subst this
    rw [h.null]
    constructor
    · exact fun h => ⟨[], h, trivial⟩
    · rintro ⟨u, h1, h2⟩
      have hl := h2.len
      have : u = [] := List.length_eq_zero_iff.1 (by simpa using hl)
      subst this
      exact h1
  · rename_i h0
    unfold lastK
    rw [List.any_eq_true]
    obtain ⟨m, hm⟩ : ∃ m, s.length = m + 1 := ⟨s.length - 1, by omega⟩
    have ht : s.take (m + 1) = s := by rw [← hm, List.take_length]
    constructor
    · rintro ⟨k, _, hk⟩
      rw [Bool.and_eq_true, hm, onK_ends h s m k (by omega), h.last_has, ht] at hk
      obtain ⟨⟨x, u, h1, h2, h3, h4⟩, h5⟩ := hk
      exact ⟨x :: u, ⟨h1, by rw [h3]; exact h5, h2⟩, h4⟩
    · rintro ⟨u, h1, h2⟩
      cases u with
      | nil =>
        have := h2.len
        simp at this
        omega
      | cons x u =>
        obtain ⟨c1, c3, c2⟩ := h1
        have := lst_in t 0 _ c3
        refine ⟨lastD x u, by rw [List.mem_range, h.n]; omega, ?_⟩
        rw [Bool.and_eq_true, hm, onK_ends h s m _ (by omega), h.last_has, ht]
        exact ⟨⟨x, u, c1, c2, rfl, h2⟩, c3⟩

end Go.Proofs.Ytgbecehggdkkmaa
