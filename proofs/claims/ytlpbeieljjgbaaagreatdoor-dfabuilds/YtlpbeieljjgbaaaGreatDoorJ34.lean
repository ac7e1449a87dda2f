/- dfa.Build: the calls that it makes, of the places of right rules. Span of package bytes. And of package bytes. -/
import Derived.Test.YtlpbeieljjgbaaaGreatDoorJ33
import Derived.Test.YtlpbeieljjgbaaaGreatDoorJ25
import Derived.Deep.RegionHeld3
namespace Go.Proofs.YtlpbeieljjgbaaaGreatDoor
open Go.RowKit

structure BldC (ts : List Rx) (w1 : World) (sv bv fv : Value) (mets : Nat → List Txt) (nxt : Nat → List (List Int)) (acc : Nat → List Int) (row : Nat → List Int) (an : Nat → Int) (T : Nat → Txt) (T0 : Txt) (S : List W4) : Prop where
  q : BldQ mets nxt acc row an T
  zero : mets 0 = [T0]
  sets : Sets w1 sv S
  few : S.length ≤ 1000
  t0 : T0.length ≤ 2000
  state : ∀ u, Below w1.heap.size w1 u → Calls Tryz.prog 25 #[.agg #[.int .i64 (ts.length : Int), sv, bv, fv], fv] u fun r w' => r = .returned (.string (strT T0)) ∧ Below u.heap.size u w'
  rowC : ∀ n F tv u B mb mm pv, n < (mets n).length → (mets n).length ≤ 240 → Below w1.heap.size w1 u → MeO B mb F u tv mm (mets n) → (∀ k, F k → w1.heap.size ≤ k) → Sets u pv (partsB S) → Off F pv → Calls Tryz.prog 27 #[.agg #[.int .i64 (ts.length : Int), sv, bv, fv], .pointer (some ⟨mb, 0, none⟩), .int .i64 (n : Int), pv] u fun z w' => ∃ rv, z = .returned rv ∧ RowRes B mb mm F u w' (mets (n + 1)) rv (row n)
  accC : ∀ n u, n < (mets n).length → Calls Tryz.prog 28 #[.agg #[.int .i64 (ts.length : Int), sv, bv, fv], .string (strT (T n))] u fun r w' => r = .returned (.int .i64 (an n)) ∧ Below u.heap.size u w'
  fin : ∃ all, SpAll ts all ∧ (∀ n, (mets n).length = (stsK all n).length) ∧ nxt = nxtK all ∧ acc = accK all
theorem idx_first {T : Txt} {R : Nat} (hR : R ≤ T.length) : (Lib.indexByte (T.take R) 1 = -1 ∧ ∀ s, s < R → T.getD s 0 ≠ 1) ∨ ∃ r : Nat, r < R ∧ Lib.indexByte (T.take R) 1 = (r : Int) ∧ T.getD r 0 = 1 ∧ ∀ s, s < r → T.getD s 0 ≠ 1 := by
  have hge := Lib.indexByte_ge (T.take R) 1
  have hget : ∀ s, s < R → (T.take R)[s]? = some (T.getD s 0) := fun s hs => by
    rw [List.getElem?_take, if_pos hs, List.getD_eq_getElem?_getD, List.getElem?_eq_getElem (show s < T.length by omega)]
    rfl
  by_cases e : Lib.indexByte (T.take R) 1 = -1
  · refine Or.inl ⟨e, fun s hs h1 => ?_⟩
    have := Lib.indexByte_none e s
    rw [hget s hs, h1] at this
    exact this rfl
  · obtain ⟨r, hr⟩ : ∃ r : Nat, Lib.indexByte (T.take R) 1 = (r : Int) := ⟨(Lib.indexByte (T.take R) 1).toNat, by omega⟩
    obtain ⟨h1, h2⟩ := Lib.indexByte_some hr
    have hrR : r < R := by
      rcases Nat.lt_or_ge r R with h | h
      · exact h
      · rw [List.getElem?_eq_none (by rw [List.length_take]; omega)] at h1
        cases h1
    refine Or.inr ⟨r, hrR, hr, ?_, fun s hs h3 => ?_⟩
    · rw [hget r hrR] at h1
      injection h1
    · have := h2 s hs
      rw [hget s (by omega), h3] at this
      exact this rfl
theorem acc_idx {ts : List Rx} {all : List Sp} (R : RuS ts all) {st : St} (hs : ∀ x ∈ st, FrmS ts x) (hu : Up st) : Lib.indexByte ((txS all st).take ts.length) 1 = accS st := by
  have hl : ts.length ≤ (txS all st).length := by
    unfold txS
    rw [markT_len, ← R.len]
    exact offP_low all all.length
  rcases idx_first hl with ⟨e, h⟩ | ⟨r, hr, e, h1, h2⟩
  · rw [e, accT_none R hs (fun s hs' => h s (by rw [← R.len]; exact hs'))]
  · rw [e, accT_some R hs hu (by rw [R.len]; exact hr) h1 h2]
theorem sts_at {all : List Sp} {n : Nat} (h : n < (stsK all n).length) : (stsK all n)[n]? = some ((stsK all n).getD n []) := by
  rw [List.getD_eq_getElem?_getD, List.getElem?_eq_getElem h]
  rfl
theorem row_len2 (all : List Sp) (st : St) (S : List St) (hS : S.Nodup) : (rowK all st S 256).2.length = 256 := (rowK_is all st S hS 256).len
theorem row_more (all : List Sp) (st : St) (S : List St) : ∀ b, (rowK all st S b).1.length ≤ S.length + b
  | 0 => Nat.le_refl _
  | b + 1 => by
    have ih := row_more all st S b
    rcases rowK_cases all st S b with ⟨_, e⟩ | ⟨_, _, e⟩ | ⟨_, _, e⟩ <;> rw [e]
    · exact Nat.le_succ_of_le ih
    · exact Nat.le_succ_of_le ih
    · simp only [List.length_append, List.length_singleton]
      omega
theorem bldQ_of {all : List Sp} : BldQ (fun n => (stsK all n).map (txS all)) (nxtK all) (accK all) (fun n => (rowK all ((stsK all n).getD n []) (stsK all n) 256).2) (fun n => accS ((stsK all n).getD n [])) (fun n => txS all ((stsK all n).getD n [])) where
  one := by simp [stsK]
  nxt0 := rfl
  acc0 := rfl
  nxtS := fun n => by rw [nxtK]
  accS := fun n => by rw [accK]
  at' := fun n hn => by
    rw [List.length_map] at hn
    obtain ⟨U, hU⟩ := stsK_mono all n 1
    rw [List.getElem?_map, hU, List.getElem?_append_left hn, sts_at hn]
    rfl
  mono := fun n => by
    obtain ⟨U, hU⟩ := stsK_mono all n 1
    rw [List.length_map, List.length_map, hU, List.length_append]
    omega
  more := fun n => by
    rw [List.length_map, List.length_map, stsK]
    exact row_more all _ _ 256
  rlen := fun n => row_len2 all _ _ (stsK_nd all n)
  nlen := nxtK_len all
  alen := accK_len all
set_option maxHeartbeats 1000000 in
theorem build_facts (ts : List Rx) (w1 : World) (sv bv fv : Value) (hok : ∀ t ∈ ts, t.ok ∧ (post t).length ≤ 60) (hn : ts.length ≤ 16) (hT : Tab w1) (hPl : PlR ts w1 sv bv fv) : ∃ mets nxt acc row an T T0 S, BldC ts w1 sv bv fv mets nxt acc row an T T0 S := by
  obtain ⟨all, hAll, hS, hG, hf⟩ := hPl
  have R := hAll.ru (fun t ht => (hok t ht).2)
  have hp := hAll.sml (fun t ht => (hok t ht).2)
  have hl : all.length ≤ 16 := by rw [hAll.len]; exact hn
  have htot := totP_max hl hp
  have hSl : (setsP all all.length).length = totP all := setsP_len all _
  have hfir : firP all all.length = (firstS all all.length).map (plOf all) := firP_is R _ (by rw [hAll.len]; exact Nat.le_refl _)
  have hfin : ∀ x ∈ firP all all.length, 0 ≤ x ∧ x < (totP all : Int) := fun x hx => by
    rw [hfir, List.mem_map] at hx
    obtain ⟨y, hy, rfl⟩ := hx
    exact plOf_in (frP_of R (first_frm R y hy))
  have hfl : (firP all all.length).length ≤ 1000000 := by
    rw [hfir, List.length_map]
    have := firstS_len hp all.length (Nat.le_refl _)
    omega
  have hst : ∀ n, ∀ x ∈ stsK all n, (∀ y ∈ x, FrmS ts y) ∧ Up x := fun n x hx => ⟨stsK_frm R n x hx, stsK_up R n x hx⟩
  obtain ⟨sa, sc, rfl, _⟩ := sets_at hS
  obtain ⟨ba, bc, rfl, _⟩ := numss_at hG
  obtain ⟨fa, fc, rfl⟩ : ∃ a c, fv = .slice a (firP all all.length).length c := by obtain ⟨a, c, e, _⟩ := hf; exact ⟨a, c, e⟩
  refine ⟨_, _, _, _, _, _, txS all (firstS all all.length), setsP all all.length, bldQ_of (all := all), by simp [stsK], hS, by omega, by unfold txS; rw [markT_len]; omega, fun u hu => ?_, fun n F tv u B mb mm pv h1 h2 hu hm hF hpar hpo => ?_, fun n u h1 => ?_, ⟨all, hAll, fun n => List.length_map _, rfl, rfl⟩⟩
  · have := stateC (ts.length : Int) sa (setsP all all.length).length sc (.slice ba (behP all all.length).length bc) (.slice fa (firP all all.length).length fc) (.slice fa (firP all all.length).length fc) (firP all all.length) u (by omega) hfl (by rw [hSl]; exact hfin) (hf.keep hu)
    rw [hSl] at this
    rw [hSl]
    unfold txS
    rw [← hfir]
    exact this
  · rw [List.length_map] at h1 h2
    have hmem : (stsK all n).getD n [] ∈ stsK all n := List.mem_of_getElem? (sts_at h1)
    have hstn := hst n _ hmem
    obtain ⟨pa, pc, rfl, hpat⟩ := sets_at hpar
    obtain ⟨pl1, pl2⟩ := partsB_at (setsP all all.length)
    have hq := rowQ_of R hstn.1 (stsK_nd all n) (rfl : rowK all ((stsK all n).getD n []) (stsK all n) 256 = _)
    rw [pl1]
    have hnext : (rowK all ((stsK all n).getD n []) (stsK all n) 256).1 = stsK all (n + 1) := rfl
    have := rowOfW hq (txS all) (txS all ((stsK all n).getD n [])) (ts.length : Int) sa ba fa pa (setsP all all.length).length sc (behP all all.length).length bc (firP all all.length).length fc pc tv B mb mm n F w1 u hu
      (fun k hk u' hu' => byRow R hp hl (ts.length : Int) _ _ _ _ hstn.1 _ (hq.least k hk).1 u' (hS.keep hu') (hG.keep hu'))
      (fun a0 a1 a2 a3 u' hfit hu' => leastC a0 a1 a2 a3 u' hfit (hT.keep hu'))
      (fun k F' tv' u' hk hne hm' => by
        have hL := prt_frm R hstn.1 (hst n) (repN (setsP all all.length) 256) k
        have := numRow R (by omega) B mb mm F' tv' _ _ u' hL (prtK_nd all _ (stsK_nd all n) _ k) (by have := prtK_len all ((stsK all n).getD n []) (stsK all n) (repN (setsP all all.length) 256) k; have := hq.m256; omega) ⟨by_frm R hstn.1 _, byS_up _ _ _⟩ hne hm'
        exact this)
      hm hF (by rw [List.getElem?_map, sts_at h1]; rfl) h2
      (fun k hk => by
        obtain ⟨b, o, e1, h3, hfit, h4⟩ := hpat k (by rw [pl1]; exact hk)
        rw [pl2 k hk] at h4
        exact ⟨b, o, e1, h3, hpo _ _ _ (by rw [e1]) (by rw [pl1]; omega), h4⟩)
    exact this
  · rw [List.length_map] at h1
    have hmem : (stsK all n).getD n [] ∈ stsK all n := List.mem_of_getElem? (sts_at h1)
    have hstn := hst n _ hmem
    have := acceptP ts.length (.slice sa (setsP all all.length).length sc) (.slice ba (behP all all.length).length bc) (.slice fa (firP all all.length).length fc) (txS all ((stsK all n).getD n [])) u (by unfold txS; rw [markT_len, ← R.len]; exact offP_low all all.length) (by unfold txS; rw [markT_len]; omega)
    rw [acc_idx R hstn.1 hstn.2] at this
    exact this

end Go.Proofs.YtlpbeieljjgbaaaGreatDoor
namespace Go.Proofs.YtlpbeieljjgbaaaGreatDoor
open Go.RowKit

/-- a set to which those for which something holds are put, up to a byte -/
def addN (S : W4) (p : Nat → Bool) : Nat → W4
  | 0 => S
  | k + 1 => if p k then putB (addN S p k) k else addN S p k
theorem addN_zero (S : W4) (p : Nat → Bool) : addN S p 0 = S := rfl
theorem addN_yes {S : W4} {p : Nat → Bool} {k : Nat} (h : p k = true) : addN S p (k + 1) = putB (addN S p k) k := by rw [addN, if_pos h]
theorem addN_no {S : W4} {p : Nat → Bool} {k : Nat} (h : p k = false) : addN S p (k + 1) = addN S p k := by rw [addN, if_neg (by rw [h]; exact Bool.false_ne_true)]
theorem addN_fit {S : W4} (h : Fit4 S) (p : Nat → Bool) : ∀ k, Fit4 (addN S p k)
  | 0 => h
  | k + 1 => by
    unfold addN
    cases p k with
    | true => simpa using putB_fit (addN_fit h p k) k
    | false => simpa using addN_fit h p k
theorem addN_has (S : W4) (p : Nat → Bool) : ∀ k, k ≤ 256 → ∀ x, x < 256 → hasB (addN S p k) x = (hasB S x || (decide (x < k) && p x))
  | 0, _, x, _ => by rw [addN]; simp
  | k + 1, hk, x, hx => by
    have ih := addN_has S p k (by omega) x hx
    unfold addN
    by_cases e : x = k
    · subst e
      cases hp : p x with
      | true => simp [putB_has _ x x hx hx]
      | false => simp [ih]
    · have h1 : decide (x < k + 1) = decide (x < k) := by rw [decide_eq_decide]; omega
      rw [h1, ← ih]
      cases p k with
      | true => simp [putB_has _ k x (by omega) hx, e]
      | false => simp
theorem addN_all {S : W4} (h : Fit4 S) (p : Nat → Bool) : addN S p 256 = mkB fun x => hasB S x || p x :=
  mkB_eq (addN_fit h p 256) fun x hx => by rw [addN_has S p 256 (Nat.le_refl _) x hx]; simp [hx]
theorem addN_none (p : Nat → Bool) : addN noneB p 256 = mkB p := by
  rw [addN_all noneB_fit]
  exact mkB_congr fun x _ => by rw [noneB_has]; rfl

theorem span_low (f k : Nat) (h : k ≤ f) (hf : f ≤ 256) : addN noneB (fun x => decide (f ≤ x)) k = noneB :=
  set_ext (addN_fit noneB_fit _ _) noneB_fit fun x hx => by
    rw [addN_has _ _ k (by omega) x hx, noneB_has]
    have : (decide (x < k) && decide (f ≤ x)) = false := by
      by_cases h1 : x < k
      · have h2 : ¬ f ≤ x := by omega
        simp [h2]
      · simp [h1]
    rw [this]; rfl
theorem span_end (f t k : Nat) (ht : t < 256) (h : k = t + 1 ∨ (t < f ∧ k = f)) (hf : f < 256) : addN noneB (fun x => decide (f ≤ x)) k = spanB f t := by
  refine mkB_eq (addN_fit noneB_fit _ _) fun x hx => ?_
  rw [addN_has _ _ k (by omega) x hx, noneB_has, Bool.false_or, Bool.eq_iff_iff]
  simp only [Bool.and_eq_true, decide_eq_true_eq]
  omega

theorem set_w (S : W4) (i v x : Nat) (hi : i < 4) (hx : x < 256) : hasB (S.set i v) x = if x / 64 = i then v.testBit (x % 64) else hasB S x := by
  unfold hasB
  by_cases e : x / 64 = i
  · rw [if_pos e, e, W4.set_same]
  · rw [if_neg e, W4.set_other _ _ _ _ hi (by omega) e]
/-- one more, by an or -/
theorem putB_or {Q : W4} (hQ : Fit4 Q) (k : Nat) (hk : k < 256) : putB Q k = Q.set (k / 64) (Q.w (k / 64) ||| 2 ^ (k % 64)) := by
  have h2 : 2 ^ (k % 64) < 18446744073709551616 := Nat.pow_lt_pow_right (a := 2) (by omega) (by omega : k % 64 < 64)
  refine set_ext (putB_fit hQ k) (hQ.set _ _ (Nat.or_lt_two_pow (n := 64) (hQ.w _) h2)) fun x hx => ?_
  rw [putB_has Q k x hk hx, set_w _ _ _ _ (by omega) hx, Nat.testBit_or, Nat.testBit_two_pow]
  by_cases e : x / 64 = k / 64
  · rw [if_pos e, ← e]
    unfold hasB
    congr 1
    rw [decide_eq_decide]
    omega
  · rw [if_neg e]
    have : ¬ x = k := fun h => e (by rw [h])
    simp [this]

set_option maxRecDepth 20000 in
set_option maxHeartbeats 4000000 in
theorem spanC (f t : Nat) (w : World) (hf : f < 256) (ht : t < 256) :
    Calls Tryz.prog 136 #[.int .u8 (f : Int), .int .u8 (t : Int)] w fun e w' => e = .returned (valB (spanB f t)) ∧ Below w.heap.size w w' := by
  obtain ⟨p, hp⟩ : ∃ p : Nat → Bool, Hid (p = fun x => decide (f ≤ x)) := ⟨_, hid rfl⟩
  obtain ⟨R, hR⟩ : ∃ R, Hid (spanB f t = R) := ⟨_, hid rfl⟩
  have hlast : Hid (∀ k, (k = t + 1 ∨ (t < f ∧ k = f)) → addN noneB p k = R) := hid (fun k hk => by rw [hp.out, ← hR.out]; exact span_end f t k ht hk hf)
  have hfirst : Hid (addN noneB p f = noneB) := hid (by rw [hp.out]; exact span_low f f (Nat.le_refl _) (by omega))
  have hyes : Hid (∀ k, f ≤ k → p k = true) := hid (fun k hk => by rw [hp.out]; exact decide_eq_true hk)
  rw [show spanB f t = R from hR.out]
  have hfit := hid (addN_fit noneB_fit p)
  obtain ⟨ra, rb, rc, rd⟩ := R
  clear hR hp
  go_enter Tryz.func136, Tryz.ntmps136
  go_wp2
  go_loopw [6] (fun i wr => ∃ k : Nat, f ≤ k ∧ (k ≤ t + 1 ∨ k = f) ∧ i = .int .i64 k ∧ Hid (Blk wr w.heap.size noneB) ∧ Hid (Blk wr (w.heap.size + 1) (addN noneB p k)) ∧ Below w.heap.size w wr) (fun i _ => 256 - (intOf i).toNat)
  case atStart => exact ⟨f, Nat.le_refl _, Or.inr rfl, by go_num, hid (two_blocks w _ _).1, by rw [hfirst.out]; exact hid (two_blocks w _ _).2, bl_step (al' w _) (al' _ _)⟩
  case round =>
    obtain ⟨k, hk, hk2, rfl, bR0, bO0, hbl⟩ := hrel
    have htw : IntKind.i64.wrap (t : Int) = (t : Int) := by rw [IntKind.wrap_i64]; omega
    by_cases hlt : k ≤ t
    · have hltz : (k : Int) ≤ (t : Int) := by omega
      have hQ := hid (hfit.out k)
      have hy := @addN_yes noneB p k (hyes.out k hk)
      generalize addN noneB p k = Q at hQ hy bO0
      rw [putB_or hQ.out k (by omega)] at hy
      have hk8 : IntKind.u8.wrap (k : Int) = (k : Int) := by rw [IntKind.wrap_u8]; omega
      have hqz : (k : Int) / 64 = ((k / 64 : Nat) : Int) := by omega
      have hql : k / 64 = 0 ∨ k / 64 = 1 ∨ k / 64 = 2 ∨ k / 64 = 3 := by omega
      have GB := hid (fun u => bitC k u (by omega))
      have hm : 2 ^ (k % 64) < 18446744073709551616 := Nat.pow_lt_pow_right (a := 2) (by omega) (by omega : k % 64 < 64)
      generalize 2 ^ (k % 64) = m at hy GB hm
      generalize k / 64 = q at hy hqz hql
      have hbd : Below wr.heap.size wr wr.drew := (Below.refl _ _).drew
      have bR1 := hid (bR0.out.keep hbd)
      have bO1 := hid (bO0.out.keep hbd)
      have hbl1 := bl_step hbl hbd
      obtain ⟨a, b, c, d⟩ := Q
      obtain ⟨o0, o1, o2, o3, o4, o5, o6, o7⟩ := bO1.out.cells
      clear hfit hyes hlast
      rcases hql with rfl | rfl | rfl | rfl
      · have hor := u64_or_nat a m hQ.out.a hm
        have hy' : Hid (addN noneB p (k + 1) = ⟨a ||| m, b, c, d⟩) := hid hy
        generalize a ||| m = n at hor hy'
        clear hy hm
        have bO2 : Hid (Blk (wr.drew.setCell ⟨w.heap.size + 1, 0, none⟩ (.int .u64 (n : Int))) (w.heap.size + 1) ⟨n, b, c, d⟩) := hid (heap_setCell bO1.out)
        have bR2 : Hid (Blk (wr.drew.setCell ⟨w.heap.size + 1, 0, none⟩ (.int .u64 (n : Int))) w.heap.size noneB) := hid ((Below.heap_setCell _ _ _ _ (by simp)).trans bR1.out)
        go_wp2_with fail
        go_region_with (first
          | (go_at_call 74; refine (GB.out _).mono ?_; rintro e u1 ⟨rfl, hu⟩; subst u1)
          | fail)
        all_goals
          go_wp2
          exact ⟨⟨k + 1, by omega, by omega, by go_num, bR2, by rw [hy'.out]; exact bO2, bl_set hbl1 _ _ _ (by omega)⟩, by simp [intOf]; omega⟩
      · have hor := u64_or_nat b m hQ.out.b hm
        have hy' : Hid (addN noneB p (k + 1) = ⟨a, b ||| m, c, d⟩) := hid hy
        generalize b ||| m = n at hor hy'
        clear hy hm
        have bO2 : Hid (Blk (wr.drew.setCell ⟨w.heap.size + 1, 1, none⟩ (.int .u64 (n : Int))) (w.heap.size + 1) ⟨a, n, c, d⟩) := hid (heap_setCell bO1.out)
        have bR2 : Hid (Blk (wr.drew.setCell ⟨w.heap.size + 1, 1, none⟩ (.int .u64 (n : Int))) w.heap.size noneB) := hid ((Below.heap_setCell _ _ _ _ (by simp)).trans bR1.out)
        go_wp2_with fail
        go_region_with (first
          | (go_at_call 74; refine (GB.out _).mono ?_; rintro e u1 ⟨rfl, hu⟩; subst u1)
          | fail)
        all_goals
          go_wp2
          exact ⟨⟨k + 1, by omega, by omega, by go_num, bR2, by rw [hy'.out]; exact bO2, bl_set hbl1 _ _ _ (by omega)⟩, by simp [intOf]; omega⟩
      · have hor := u64_or_nat c m hQ.out.c hm
        have hy' : Hid (addN noneB p (k + 1) = ⟨a, b, c ||| m, d⟩) := hid hy
        generalize c ||| m = n at hor hy'
        clear hy hm
        have bO2 : Hid (Blk (wr.drew.setCell ⟨w.heap.size + 1, 2, none⟩ (.int .u64 (n : Int))) (w.heap.size + 1) ⟨a, b, n, d⟩) := hid (heap_setCell bO1.out)
        have bR2 : Hid (Blk (wr.drew.setCell ⟨w.heap.size + 1, 2, none⟩ (.int .u64 (n : Int))) w.heap.size noneB) := hid ((Below.heap_setCell _ _ _ _ (by simp)).trans bR1.out)
        go_wp2_with fail
        go_region_with (first
          | (go_at_call 74; refine (GB.out _).mono ?_; rintro e u1 ⟨rfl, hu⟩; subst u1)
          | fail)
        all_goals
          go_wp2
          exact ⟨⟨k + 1, by omega, by omega, by go_num, bR2, by rw [hy'.out]; exact bO2, bl_set hbl1 _ _ _ (by omega)⟩, by simp [intOf]; omega⟩
      · have hor := u64_or_nat d m hQ.out.d hm
        have hy' : Hid (addN noneB p (k + 1) = ⟨a, b, c, d ||| m⟩) := hid hy
        generalize d ||| m = n at hor hy'
        clear hy hm
        have bO2 : Hid (Blk (wr.drew.setCell ⟨w.heap.size + 1, 3, none⟩ (.int .u64 (n : Int))) (w.heap.size + 1) ⟨a, b, c, n⟩) := hid (heap_setCell bO1.out)
        have bR2 : Hid (Blk (wr.drew.setCell ⟨w.heap.size + 1, 3, none⟩ (.int .u64 (n : Int))) w.heap.size noneB) := hid ((Below.heap_setCell _ _ _ _ (by simp)).trans bR1.out)
        go_wp2_with fail
        go_region_with (first
          | (go_at_call 74; refine (GB.out _).mono ?_; rintro e u1 ⟨rfl, hu⟩; subst u1)
          | fail)
        all_goals
          go_wp2
          exact ⟨⟨k + 1, by omega, by omega, by go_num, bR2, by rw [hy'.out]; exact bO2, bl_set hbl1 _ _ _ (by omega)⟩, by simp [intOf]; omega⟩
    · have hltz : ¬ (k : Int) ≤ (t : Int) := by omega
      rw [hlast.out k (by omega)] at bO0
      obtain ⟨o0, o1, o2, o3, o4, o5, o6, o7⟩ := bO0.out.cells
      obtain ⟨r0, r1, r2, r3, r4, r5, r6, r7⟩ := Blk.cells (sa := 0) (sb := 0) (sc := 0) (sd := 0) bR0.out
      clear hfit hyes
      go_wp2
      refine bodyPost_ret (v := .agg #[.int .u64 ra, .int .u64 rb, .int .u64 rc, .int .u64 rd]) (by simp [results, Tryz.results136, go_sem, r0, r1, r2, r3]) rfl ⟨rfl, bl_put hbl ⟨ra, rb, rc, rd⟩ (by omega)⟩


end Go.Proofs.YtlpbeieljjgbaaaGreatDoor
namespace Go.Proofs.YtlpbeieljjgbaaaGreatDoor
open Go.RowKit

set_option maxRecDepth 20000 in
set_option maxHeartbeats 1000000 in
theorem andC (sa sb sc sd ta tb tc td : Nat) (w : World) (hS : Fit4 ⟨sa, sb, sc, sd⟩) (hT : Fit4 ⟨ta, tb, tc, td⟩) :
    Calls Tryz.prog 70 #[valB ⟨sa, sb, sc, sd⟩, valB ⟨ta, tb, tc, td⟩] w fun e w' => e = .returned (valB (andB ⟨sa, sb, sc, sd⟩ ⟨ta, tb, tc, td⟩)) ∧ Below w.heap.size w w' := by
  rw [and_words _ _ hS]
  have k0 := u64_and_nat sa ta hS.1 hT.1
  have k1 := u64_and_nat sb tb hS.2 hT.2
  have k2 := u64_and_nat sc tc hS.3 hT.3
  have k3 := u64_and_nat sd td hS.4 hT.4
  simp only
  generalize sa &&& ta = ra at k0 ⊢
  generalize sb &&& tb = rb at k1 ⊢
  generalize sc &&& tc = rc at k2 ⊢
  generalize sd &&& td = rd at k3 ⊢
  clear hS hT
  have ix0 : ∀ u, (Instr.index 80 (.agg #[.int .u64 (ta : Int), .int .u64 (tb : Int), .int .u64 (tc : Int), .int .u64 (td : Int)]) (.int .i64 0)).run Tryz.prog u = .ok (.int .u64 (ta : Int)) u := fun u => index4 ta tb tc td 0 ta u rfl
  have ix1 : ∀ u, (Instr.index 80 (.agg #[.int .u64 (ta : Int), .int .u64 (tb : Int), .int .u64 (tc : Int), .int .u64 (td : Int)]) (.int .i64 1)).run Tryz.prog u = .ok (.int .u64 (tb : Int)) u := fun u => index4 ta tb tc td 1 tb u rfl
  have ix2 : ∀ u, (Instr.index 80 (.agg #[.int .u64 (ta : Int), .int .u64 (tb : Int), .int .u64 (tc : Int), .int .u64 (td : Int)]) (.int .i64 2)).run Tryz.prog u = .ok (.int .u64 (tc : Int)) u := fun u => index4 ta tb tc td 2 tc u rfl
  have ix3 : ∀ u, (Instr.index 80 (.agg #[.int .u64 (ta : Int), .int .u64 (tb : Int), .int .u64 (tc : Int), .int .u64 (td : Int)]) (.int .i64 3)).run Tryz.prog u = .ok (.int .u64 (td : Int)) u := fun u => index4 ta tb tc td 3 td u rfl
  go_enter Tryz.func70, Tryz.ntmps70
  go_wp2
  go_loopw [8] (fun i wr => ∃ k : Nat, k ≤ 4 ∧ i = .int .i64 k ∧ Hid (Blk wr w.heap.size (mixW ⟨ra, rb, rc, rd⟩ ⟨sa, sb, sc, sd⟩ k)) ∧ Hid (Blk wr (w.heap.size + 2) noneB) ∧ Below w.heap.size w wr) (fun i _ => 4 - (intOf i).toNat)
  case atStart => exact ⟨0, Nat.zero_le _, rfl, hid (three_blocks w _ _ _).1, hid (three_blocks w _ _ _).2.2, bl_step (bl_step (al' w _) (al' _ _)) (al' _ _)⟩
  case round =>
    obtain ⟨k, hk, rfl, bS0, bR0, hbl⟩ := hrel
    have hk5 : k = 0 ∨ k = 1 ∨ k = 2 ∨ k = 3 ∨ k = 4 := by omega
    rcases hk5 with rfl | rfl | rfl | rfl | rfl
    · have bS0' : Blk wr w.heap.size ⟨sa, sb, sc, sd⟩ := bS0.out
      obtain ⟨s0, s1, s2, s3, s4, s5, s6, s7⟩ := bS0'.cells
      have bS1 : Blk (wr.setCell ⟨w.heap.size, 0, none⟩ (.int .u64 (ra : Int))) w.heap.size ⟨ra, sb, sc, sd⟩ := heap_setCell bS0'
      have bR1 : Blk (wr.setCell ⟨w.heap.size, 0, none⟩ (.int .u64 (ra : Int))) (w.heap.size + 2) noneB := (Below.heap_setCell _ _ _ _ (by simp)).trans bR0.out
      have bS1 := hid bS1
      have bR1 := hid bR1
      clear bS0'
      go_wp2
      go_roundw
      case rel => exact ⟨1, by omega, rfl, bS1, bR1, bl_set hbl _ _ _ (Nat.le_refl _)⟩
      case measure => simp [intOf]
    · have bS0' : Blk wr w.heap.size ⟨ra, sb, sc, sd⟩ := bS0.out
      obtain ⟨s0, s1, s2, s3, s4, s5, s6, s7⟩ := bS0'.cells
      have bS1 : Blk (wr.setCell ⟨w.heap.size, 1, none⟩ (.int .u64 (rb : Int))) w.heap.size ⟨ra, rb, sc, sd⟩ := heap_setCell bS0'
      have bR1 : Blk (wr.setCell ⟨w.heap.size, 1, none⟩ (.int .u64 (rb : Int))) (w.heap.size + 2) noneB := (Below.heap_setCell _ _ _ _ (by simp)).trans bR0.out
      have bS1 := hid bS1
      have bR1 := hid bR1
      clear bS0'
      go_wp2
      go_roundw
      case rel => exact ⟨2, by omega, rfl, bS1, bR1, bl_set hbl _ _ _ (Nat.le_refl _)⟩
      case measure => simp [intOf]
    · have bS0' : Blk wr w.heap.size ⟨ra, rb, sc, sd⟩ := bS0.out
      obtain ⟨s0, s1, s2, s3, s4, s5, s6, s7⟩ := bS0'.cells
      have bS1 : Blk (wr.setCell ⟨w.heap.size, 2, none⟩ (.int .u64 (rc : Int))) w.heap.size ⟨ra, rb, rc, sd⟩ := heap_setCell bS0'
      have bR1 : Blk (wr.setCell ⟨w.heap.size, 2, none⟩ (.int .u64 (rc : Int))) (w.heap.size + 2) noneB := (Below.heap_setCell _ _ _ _ (by simp)).trans bR0.out
      have bS1 := hid bS1
      have bR1 := hid bR1
      clear bS0'
      go_wp2
      go_roundw
      case rel => exact ⟨3, by omega, rfl, bS1, bR1, bl_set hbl _ _ _ (Nat.le_refl _)⟩
      case measure => simp [intOf]
    · have bS0' : Blk wr w.heap.size ⟨ra, rb, rc, sd⟩ := bS0.out
      obtain ⟨s0, s1, s2, s3, s4, s5, s6, s7⟩ := bS0'.cells
      have bS1 : Blk (wr.setCell ⟨w.heap.size, 3, none⟩ (.int .u64 (rd : Int))) w.heap.size ⟨ra, rb, rc, rd⟩ := heap_setCell bS0'
      have bR1 : Blk (wr.setCell ⟨w.heap.size, 3, none⟩ (.int .u64 (rd : Int))) (w.heap.size + 2) noneB := (Below.heap_setCell _ _ _ _ (by simp)).trans bR0.out
      have bS1 := hid bS1
      have bR1 := hid bR1
      clear bS0'
      go_wp2
      go_roundw
      case rel => exact ⟨4, by omega, rfl, bS1, bR1, bl_set hbl _ _ _ (Nat.le_refl _)⟩
      case measure => simp [intOf]
    · obtain ⟨o0, o1, o2, o3, o4, o5, o6, o7⟩ := Blk.cells (show Blk wr w.heap.size ⟨ra, rb, rc, rd⟩ from bS0.out)
      obtain ⟨r0, r1, r2, r3, r4, r5, r6, r7⟩ := Blk.cells (sa := 0) (sb := 0) (sc := 0) (sd := 0) bR0.out
      go_wp2
      refine bodyPost_ret (v := .agg #[.int .u64 ra, .int .u64 rb, .int .u64 rc, .int .u64 rd]) (by simp [results, Tryz.results70, go_sem, r0, r1, r2, r3]) rfl ⟨rfl, bl_put hbl ⟨ra, rb, rc, rd⟩ (by omega)⟩

end Go.Proofs.YtlpbeieljjgbaaaGreatDoor
