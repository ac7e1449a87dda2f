/- dfa.Build: the calls that it makes, of the places of right rules. Span of package bytes. And of package bytes. Parts that are split by each set in turn: what they are, and that they come, sorted, to the one list. -/
import Derived.Test.YtjelgphhlcecoaaGreatDoorJ26
import Derived.Test.YtjelgphhlcecoaaGreatDoorJ21
import Derived.Test.YtjelgphhlcecoaaGreatDoorJ23
import Derived.Deep.RegionHeld3
namespace Go.Proofs.YtjelgphhlcecoaaGreatDoor
open Go.RowKit

structure BldC (ts : List Rx) (w1 : World) (sv bv fv : Value) (mets : Nat → List Txt) (nxt : Nat → List (List Int)) (acc : Nat → List Int) (row : Nat → List Int) (an : Nat → Int) (T : Nat → Txt) (T0 : Txt) (S : List W4) : Prop where
  q : BldQ mets nxt acc row an T
  zero : mets 0 = [T0]
  sets : Sets w1 sv S
  few : S.length ≤ 1000
  t0 : T0.length ≤ 2000
  state : ∀ u, Below w1.heap.size w1 u → Calls Tryz.prog 42 #[.agg #[.int .i64 (ts.length : Int), sv, bv, fv], fv] u fun r w' => r = .returned (.string (strT T0)) ∧ Below u.heap.size u w'
  rowC : ∀ n F tv u B mb mm pv, n < (mets n).length → (mets n).length ≤ 240 → Below w1.heap.size w1 u → MeO B mb F u tv mm (mets n) → (∀ k, F k → w1.heap.size ≤ k) → Sets u pv (partsB S) → Off F pv → Calls Tryz.prog 44 #[.agg #[.int .i64 (ts.length : Int), sv, bv, fv], .pointer (some ⟨mb, 0, none⟩), .int .i64 (n : Int), pv] u fun z w' => ∃ rv, z = .returned rv ∧ RowRes B mb mm F u w' (mets (n + 1)) rv (row n)
  accC : ∀ n u, n < (mets n).length → Calls Tryz.prog 45 #[.agg #[.int .i64 (ts.length : Int), sv, bv, fv], .string (strT (T n))] u fun r w' => r = .returned (.int .i64 (an n)) ∧ Below u.heap.size u w'
  fin : ∃ all, SpAll ts all ∧ (∀ n, (mets n).length = (stsK all n).length) ∧ nxt = nxtK all ∧ acc = accK all
theorem idx_first {T : Txt} {R : Nat} (hR : R ≤ T.length) : (Lib.indexByte (T.take R) 1 = -1 ∧ ∀ s, s < R → T.getD s 0 ≠ 1) ∨ ∃ r : Nat, r < R ∧ Lib.indexByte (T.take R) 1 = (r : Int) ∧ T.getD r 0 = 1 ∧ ∀ s, s < r → T.getD s 0 ≠ 1 := by
  have hge := Lib.indexByte_ge (T.take R) 1
  have hget : ∀ s, s < R → (T.take R)[s]? = some (T.getD s 0) := fun s hs => by
    rw [List.getElem?_take, if_pos hs, List.getD_eq_getElem?_getD, List.getElem?_eq_getElem (show s < T.length by omega)]
    rfl
  by_cases e : Lib.indexByte (T.take R) 1 = -1
  · refine Or.inl ⟨e, fun s hs h1 => ?_⟩
    have := Lib.indexByte_none e s
    rw [hget s hs, h1] at this
    exact this rfl
  · obtain ⟨r, hr⟩ : ∃ r : Nat, Lib.indexByte (T.take R) 1 = (r : Int) := ⟨(Lib.indexByte (T.take R) 1).toNat, by omega⟩
    obtain ⟨h1, h2⟩ := Lib.indexByte_some hr
    have hrR : r < R := by
      rcases Nat.lt_or_ge r R with h | h
      · exact h
      · rw [List.getElem?_eq_none (by rw [List.length_take]; omega)] at h1
        cases h1
    refine Or.inr ⟨r, hrR, hr, ?_, fun s hs h3 => ?_⟩
    · rw [hget r hrR] at h1
      injection h1
    · have := h2 s hs
      rw [hget s (by omega), h3] at this
      exact this rfl
theorem acc_idx {ts : List Rx} {all : List Sp} (R : RuS ts all) {st : St} (hs : ∀ x ∈ st, FrmS ts x) (hu : Up st) : Lib.indexByte ((txS all st).take ts.length) 1 = accS st := by
  have hl : ts.length ≤ (txS all st).length := by
    unfold txS
    rw [markT_len, ← R.len]
    exact offP_low all all.length
  rcases idx_first hl with ⟨e, h⟩ | ⟨r, hr, e, h1, h2⟩
  · rw [e, accT_none R hs (fun s hs' => h s (by rw [← R.len]; exact hs'))]
  · rw [e, accT_some R hs hu (by rw [R.len]; exact hr) h1 h2]
theorem sts_at {all : List Sp} {n : Nat} (h : n < (stsK all n).length) : (stsK all n)[n]? = some ((stsK all n).getD n []) := by
  rw [List.getD_eq_getElem?_getD, List.getElem?_eq_getElem h]
  rfl
theorem row_len2 (all : List Sp) (st : St) (S : List St) (hS : S.Nodup) : (rowK all st S 256).2.length = 256 := (rowK_is all st S hS 256).len
theorem row_more (all : List Sp) (st : St) (S : List St) : ∀ b, (rowK all st S b).1.length ≤ S.length + b
  | 0 => Nat.le_refl _
  | b + 1 => by
    have ih := row_more all st S b
    rcases rowK_cases all st S b with ⟨_, e⟩ | ⟨_, _, e⟩ | ⟨_, _, e⟩ <;> rw [e]
    · exact Nat.le_succ_of_le ih
    · exact Nat.le_succ_of_le ih
    · simp only [List.length_append, List.length_singleton]
      omega
theorem bldQ_of {all : List Sp} : BldQ (fun n => (stsK all n).map (txS all)) (nxtK all) (accK all) (fun n => (rowK all ((stsK all n).getD n []) (stsK all n) 256).2) (fun n => accS ((stsK all n).getD n [])) (fun n => txS all ((stsK all n).getD n [])) where
  one := by simp [stsK]
  nxt0 := rfl
  acc0 := rfl
  nxtS := fun n => by rw [nxtK]
  accS := fun n => by rw [accK]
  at' := fun n hn => by
    rw [List.length_map] at hn
    obtain ⟨U, hU⟩ := stsK_mono all n 1
    rw [List.getElem?_map, hU, List.getElem?_append_left hn, sts_at hn]
    rfl
  mono := fun n => by
    obtain ⟨U, hU⟩ := stsK_mono all n 1
    rw [List.length_map, List.length_map, hU, List.length_append]
    omega
  more := fun n => by
    rw [List.length_map, List.length_map, stsK]
    exact row_more all _ _ 256
  rlen := fun n => row_len2 all _ _ (stsK_nd all n)
  nlen := nxtK_len all
  alen := accK_len all
set_option maxHeartbeats 1000000 in
theorem build_facts (ts : List Rx) (w1 : World) (sv bv fv : Value) (hok : ∀ t ∈ ts, t.ok ∧ (post t).length ≤ 60) (hn : ts.length ≤ 16) (hT : Tab w1) (hPl : PlR ts w1 sv bv fv) : ∃ mets nxt acc row an T T0 S, BldC ts w1 sv bv fv mets nxt acc row an T T0 S := by
  obtain ⟨all, hAll, hS, hG, hf⟩ := hPl
  have R := hAll.ru (fun t ht => (hok t ht).2)
  have hp := hAll.sml (fun t ht => (hok t ht).2)
  have hl : all.length ≤ 16 := by rw [hAll.len]; exact hn
  have htot := totP_max hl hp
  have hSl : (setsP all all.length).length = totP all := setsP_len all _
  have hfir : firP all all.length = (firstS all all.length).map (plOf all) := firP_is R _ (by rw [hAll.len]; exact Nat.le_refl _)
  have hfin : ∀ x ∈ firP all all.length, 0 ≤ x ∧ x < (totP all : Int) := fun x hx => by
    rw [hfir, List.mem_map] at hx
    obtain ⟨y, hy, rfl⟩ := hx
    exact plOf_in (frP_of R (first_frm R y hy))
  have hfl : (firP all all.length).length ≤ 1000000 := by
    rw [hfir, List.length_map]
    have := firstS_len hp all.length (Nat.le_refl _)
    omega
  have hst : ∀ n, ∀ x ∈ stsK all n, (∀ y ∈ x, FrmS ts y) ∧ Up x := fun n x hx => ⟨stsK_frm R n x hx, stsK_up R n x hx⟩
  obtain ⟨sa, sc, rfl, _⟩ := sets_at hS
  obtain ⟨ba, bc, rfl, _⟩ := numss_at hG
  obtain ⟨fa, fc, rfl⟩ : ∃ a c, fv = .slice a (firP all all.length).length c := by obtain ⟨a, c, e, _⟩ := hf; exact ⟨a, c, e⟩
  refine ⟨_, _, _, _, _, _, txS all (firstS all all.length), setsP all all.length, bldQ_of (all := all), by simp [stsK], hS, by omega, by unfold txS; rw [markT_len]; omega, fun u hu => ?_, fun n F tv u B mb mm pv h1 h2 hu hm hF hpar hpo => ?_, fun n u h1 => ?_, ⟨all, hAll, fun n => List.length_map _, rfl, rfl⟩⟩
  · have := stateC (ts.length : Int) sa (setsP all all.length).length sc (.slice ba (behP all all.length).length bc) (.slice fa (firP all all.length).length fc) (.slice fa (firP all all.length).length fc) (firP all all.length) u (by omega) hfl (by rw [hSl]; exact hfin) (hf.keep hu)
    rw [hSl] at this
    rw [hSl]
    unfold txS
    rw [← hfir]
    exact this
  · rw [List.length_map] at h1 h2
    have hmem : (stsK all n).getD n [] ∈ stsK all n := List.mem_of_getElem? (sts_at h1)
    have hstn := hst n _ hmem
    obtain ⟨pa, pc, rfl, hpat⟩ := sets_at hpar
    obtain ⟨pl1, pl2⟩ := partsB_at (setsP all all.length)
    have hq := rowQ_of R hstn.1 (stsK_nd all n) (rfl : rowK all ((stsK all n).getD n []) (stsK all n) 256 = _)
    rw [pl1]
    have hnext : (rowK all ((stsK all n).getD n []) (stsK all n) 256).1 = stsK all (n + 1) := rfl
    have := rowOfW hq (txS all) (txS all ((stsK all n).getD n [])) (ts.length : Int) sa ba fa pa (setsP all all.length).length sc (behP all all.length).length bc (firP all all.length).length fc pc tv B mb mm n F w1 u hu
      (fun k hk u' hu' => byRow R hp hl (ts.length : Int) _ _ _ _ hstn.1 _ (hq.least k hk).1 u' (hS.keep hu') (hG.keep hu'))
      (fun a0 a1 a2 a3 u' hfit hu' => leastC a0 a1 a2 a3 u' hfit (hT.keep hu'))
      (fun k F' tv' u' hk hne hm' => by
        have hL := prt_frm R hstn.1 (hst n) (repN (setsP all all.length) 256) k
        have := numRow R (by omega) B mb mm F' tv' _ _ u' hL (prtK_nd all _ (stsK_nd all n) _ k) (by have := prtK_len all ((stsK all n).getD n []) (stsK all n) (repN (setsP all all.length) 256) k; have := hq.m256; omega) ⟨by_frm R hstn.1 _, byS_up _ _ _⟩ hne hm'
        exact this)
      hm hF (by rw [List.getElem?_map, sts_at h1]; rfl) h2
      (fun k hk => by
        obtain ⟨b, o, e1, h3, hfit, h4⟩ := hpat k (by rw [pl1]; exact hk)
        rw [pl2 k hk] at h4
        exact ⟨b, o, e1, h3, hpo _ _ _ (by rw [e1]) (by rw [pl1]; omega), h4⟩)
    exact this
  · rw [List.length_map] at h1
    have hmem : (stsK all n).getD n [] ∈ stsK all n := List.mem_of_getElem? (sts_at h1)
    have hstn := hst n _ hmem
    have := acceptP ts.length (.slice sa (setsP all all.length).length sc) (.slice ba (behP all all.length).length bc) (.slice fa (firP all all.length).length fc) (txS all ((stsK all n).getD n [])) u (by unfold txS; rw [markT_len, ← R.len]; exact offP_low all all.length) (by unfold txS; rw [markT_len]; omega)
    rw [acc_idx R hstn.1 hstn.2] at this
    exact this

end Go.Proofs.YtjelgphhlcecoaaGreatDoor
namespace Go.Proofs.YtjelgphhlcecoaaGreatDoor
open Go.RowKit

/-- a set to which those for which something holds are put, up to a byte -/
def addN (S : W4) (p : Nat → Bool) : Nat → W4
  | 0 => S
  | k + 1 => if p k then putB (addN S p k) k else addN S p k
theorem addN_yes {S : W4} {p : Nat → Bool} {k : Nat} (h : p k = true) : addN S p (k + 1) = putB (addN S p k) k := by rw [addN, if_pos h]
theorem addN_fit {S : W4} (h : Fit4 S) (p : Nat → Bool) : ∀ k, Fit4 (addN S p k)
  | 0 => h
  | k + 1 => by
    unfold addN
    cases p k with
    | true => simpa using putB_fit (addN_fit h p k) k
    | false => simpa using addN_fit h p k
theorem addN_has (S : W4) (p : Nat → Bool) : ∀ k, k ≤ 256 → ∀ x, x < 256 → hasB (addN S p k) x = (hasB S x || (decide (x < k) && p x))
  | 0, _, x, _ => by rw [addN]; simp
  | k + 1, hk, x, hx => by
    have ih := addN_has S p k (by omega) x hx
    unfold addN
    by_cases e : x = k
    · subst e
      cases hp : p x with
      | true => simp [putB_has _ x x hx hx]
      | false => simp [ih]
    · have h1 : decide (x < k + 1) = decide (x < k) := by rw [decide_eq_decide]; omega
      rw [h1, ← ih]
      cases p k with
      | true => simp [putB_has _ k x (by omega) hx, e]
      | false => simp
theorem span_low (f k : Nat) (h : k ≤ f) (hf : f ≤ 256) : addN noneB (fun x => decide (f ≤ x)) k = noneB :=
  set_ext (addN_fit noneB_fit _ _) noneB_fit fun x hx => by
    rw [addN_has _ _ k (by omega) x hx, noneB_has]
    have : (decide (x < k) && decide (f ≤ x)) = false := by
      by_cases h1 : x < k
      · have h2 : ¬ f ≤ x := by omega
        simp [h2]
      · simp [h1]
    rw [this]; rfl
theorem span_end (f t k : Nat) (ht : t < 256) (h : k = t + 1 ∨ (t < f ∧ k = f)) (hf : f < 256) : addN noneB (fun x => decide (f ≤ x)) k = spanB f t := by
  refine mkB_eq (addN_fit noneB_fit _ _) fun x hx => ?_
  rw [addN_has _ _ k (by omega) x hx, noneB_has, Bool.false_or, Bool.eq_iff_iff]
  simp only [Bool.and_eq_true, decide_eq_true_eq]
  omega

theorem set_w (S : W4) (i v x : Nat) (hi : i < 4) (hx : x < 256) : hasB (S.set i v) x = if x / 64 = i then v.testBit (x % 64) else hasB S x := by
  unfold hasB
  by_cases e : x / 64 = i
  · rw [if_pos e, e, W4.set_same]
  · rw [if_neg e, W4.set_other _ _ _ _ hi (by omega) e]
/-- one more, by an or -/
theorem putB_or {Q : W4} (hQ : Fit4 Q) (k : Nat) (hk : k < 256) : putB Q k = Q.set (k / 64) (Q.w (k / 64) ||| 2 ^ (k % 64)) := by
  have h2 : 2 ^ (k % 64) < 18446744073709551616 := Nat.pow_lt_pow_right (a := 2) (by omega) (by omega : k % 64 < 64)
  refine set_ext (putB_fit hQ k) (hQ.set _ _ (Nat.or_lt_two_pow (n := 64) (hQ.w _) h2)) fun x hx => ?_
  rw [putB_has Q k x hk hx, set_w _ _ _ _ (by omega) hx, Nat.testBit_or, Nat.testBit_two_pow]
  by_cases e : x / 64 = k / 64
  · rw [if_pos e, ← e]
    unfold hasB
    congr 1
    rw [decide_eq_decide]
    omega
  · rw [if_neg e]
    have : ¬ x = k := fun h => e (by rw [h])
    simp [this]

set_option maxRecDepth 20000 in
set_option maxHeartbeats 4000000 in
theorem spanC (f t : Nat) (w : World) (hf : f < 256) (ht : t < 256) :
    Calls Tryz.prog 127 #[.int .u8 (f : Int), .int .u8 (t : Int)] w fun e w' => e = .returned (valB (spanB f t)) ∧ Below w.heap.size w w' := by
  obtain ⟨p, hp⟩ : ∃ p : Nat → Bool, Hid (p = fun x => decide (f ≤ x)) := ⟨_, hid rfl⟩
  obtain ⟨R, hR⟩ : ∃ R, Hid (spanB f t = R) := ⟨_, hid rfl⟩
  have hlast : Hid (∀ k, (k = t + 1 ∨ (t < f ∧ k = f)) → addN noneB p k = R) := hid (fun k hk => by rw [hp.out, ← hR.out]; exact span_end f t k ht hk hf)
  have hfirst : Hid (addN noneB p f = noneB) := hid (by rw [hp.out]; exact span_low f f (Nat.le_refl _) (by omega))
  have hyes : Hid (∀ k, f ≤ k → p k = true) := hid (fun k hk => by rw [hp.out]; exact decide_eq_true hk)
  rw [show spanB f t = R from hR.out]
  have hfit := hid (addN_fit noneB_fit p)
  obtain ⟨ra, rb, rc, rd⟩ := R
  clear hR hp
  go_enter Tryz.func127, Tryz.ntmps127
  go_wp2
  go_loopw [6] (fun i wr => ∃ k : Nat, f ≤ k ∧ (k ≤ t + 1 ∨ k = f) ∧ i = .int .i64 k ∧ Hid (Blk wr w.heap.size noneB) ∧ Hid (Blk wr (w.heap.size + 1) (addN noneB p k)) ∧ Below w.heap.size w wr) (fun i _ => 256 - (intOf i).toNat)
  case atStart => exact ⟨f, Nat.le_refl _, Or.inr rfl, by go_num, hid (two_blocks w _ _).1, by rw [hfirst.out]; exact hid (two_blocks w _ _).2, bl_step (al' w _) (al' _ _)⟩
  case round =>
    obtain ⟨k, hk, hk2, rfl, bR0, bO0, hbl⟩ := hrel
    have htw : IntKind.i64.wrap (t : Int) = (t : Int) := by rw [IntKind.wrap_i64]; omega
    by_cases hlt : k ≤ t
    · have hltz : (k : Int) ≤ (t : Int) := by omega
      have hQ := hid (hfit.out k)
      have hy := @addN_yes noneB p k (hyes.out k hk)
      generalize addN noneB p k = Q at hQ hy bO0
      rw [putB_or hQ.out k (by omega)] at hy
      have hk8 : IntKind.u8.wrap (k : Int) = (k : Int) := by rw [IntKind.wrap_u8]; omega
      have hqz : (k : Int) / 64 = ((k / 64 : Nat) : Int) := by omega
      have hql : k / 64 = 0 ∨ k / 64 = 1 ∨ k / 64 = 2 ∨ k / 64 = 3 := by omega
      have GB := hid (fun u => bitC k u (by omega))
      have hm : 2 ^ (k % 64) < 18446744073709551616 := Nat.pow_lt_pow_right (a := 2) (by omega) (by omega : k % 64 < 64)
      generalize 2 ^ (k % 64) = m at hy GB hm
      generalize k / 64 = q at hy hqz hql
      have hbd : Below wr.heap.size wr wr.drew := (Below.refl _ _).drew
      have bR1 := hid (bR0.out.keep hbd)
      have bO1 := hid (bO0.out.keep hbd)
      have hbl1 := bl_step hbl hbd
      obtain ⟨a, b, c, d⟩ := Q
      obtain ⟨o0, o1, o2, o3, o4, o5, o6, o7⟩ := bO1.out.cells
      clear hfit hyes hlast
      rcases hql with rfl | rfl | rfl | rfl
      · have hor := u64_or_nat a m hQ.out.a hm
        have hy' : Hid (addN noneB p (k + 1) = ⟨a ||| m, b, c, d⟩) := hid hy
        generalize a ||| m = n at hor hy'
        clear hy hm
        have bO2 : Hid (Blk (wr.drew.setCell ⟨w.heap.size + 1, 0, none⟩ (.int .u64 (n : Int))) (w.heap.size + 1) ⟨n, b, c, d⟩) := hid (heap_setCell bO1.out)
        have bR2 : Hid (Blk (wr.drew.setCell ⟨w.heap.size + 1, 0, none⟩ (.int .u64 (n : Int))) w.heap.size noneB) := hid ((Below.heap_setCell _ _ _ _ (by simp)).trans bR1.out)
        go_wp2_with fail
        go_region_with (first
          | (go_at_call 73; refine (GB.out _).mono ?_; rintro e u1 ⟨rfl, hu⟩; subst u1)
          | fail)
        all_goals
          go_wp2
          exact ⟨⟨k + 1, by omega, by omega, by go_num, bR2, by rw [hy'.out]; exact bO2, bl_set hbl1 _ _ _ (by omega)⟩, by simp [intOf]; omega⟩
      · have hor := u64_or_nat b m hQ.out.b hm
        have hy' : Hid (addN noneB p (k + 1) = ⟨a, b ||| m, c, d⟩) := hid hy
        generalize b ||| m = n at hor hy'
        clear hy hm
        have bO2 : Hid (Blk (wr.drew.setCell ⟨w.heap.size + 1, 1, none⟩ (.int .u64 (n : Int))) (w.heap.size + 1) ⟨a, n, c, d⟩) := hid (heap_setCell bO1.out)
        have bR2 : Hid (Blk (wr.drew.setCell ⟨w.heap.size + 1, 1, none⟩ (.int .u64 (n : Int))) w.heap.size noneB) := hid ((Below.heap_setCell _ _ _ _ (by simp)).trans bR1.out)
        go_wp2_with fail
        go_region_with (first
          | (go_at_call 73; refine (GB.out _).mono ?_; rintro e u1 ⟨rfl, hu⟩; subst u1)
          | fail)
        all_goals
          go_wp2
          exact ⟨⟨k + 1, by omega, by omega, by go_num, bR2, by rw [hy'.out]; exact bO2, bl_set hbl1 _ _ _ (by omega)⟩, by simp [intOf]; omega⟩
      · have hor := u64_or_nat c m hQ.out.c hm
        have hy' : Hid (addN noneB p (k + 1) = ⟨a, b, c ||| m, d⟩) := hid hy
        generalize c ||| m = n at hor hy'
        clear hy hm
        have bO2 : Hid (Blk (wr.drew.setCell ⟨w.heap.size + 1, 2, none⟩ (.int .u64 (n : Int))) (w.heap.size + 1) ⟨a, b, n, d⟩) := hid (heap_setCell bO1.out)
        have bR2 : Hid (Blk (wr.drew.setCell ⟨w.heap.size + 1, 2, none⟩ (.int .u64 (n : Int))) w.heap.size noneB) := hid ((Below.heap_setCell _ _ _ _ (by simp)).trans bR1.out)
        go_wp2_with fail
        go_region_with (first
          | (go_at_call 73; refine (GB.out _).mono ?_; rintro e u1 ⟨rfl, hu⟩; subst u1)
          | fail)
        all_goals
          go_wp2
          exact ⟨⟨k + 1, by omega, by omega, by go_num, bR2, by rw [hy'.out]; exact bO2, bl_set hbl1 _ _ _ (by omega)⟩, by simp [intOf]; omega⟩
      · have hor := u64_or_nat d m hQ.out.d hm
        have hy' : Hid (addN noneB p (k + 1) = ⟨a, b, c, d ||| m⟩) := hid hy
        generalize d ||| m = n at hor hy'
        clear hy hm
        have bO2 : Hid (Blk (wr.drew.setCell ⟨w.heap.size + 1, 3, none⟩ (.int .u64 (n : Int))) (w.heap.size + 1) ⟨a, b, c, n⟩) := hid (heap_setCell bO1.out)
        have bR2 : Hid (Blk (wr.drew.setCell ⟨w.heap.size + 1, 3, none⟩ (.int .u64 (n : Int))) w.heap.size noneB) := hid ((Below.heap_setCell _ _ _ _ (by simp)).trans bR1.out)
        go_wp2_with fail
        go_region_with (first
          | (go_at_call 73; refine (GB.out _).mono ?_; rintro e u1 ⟨rfl, hu⟩; subst u1)
          | fail)
        all_goals
          go_wp2
          exact ⟨⟨k + 1, by omega, by omega, by go_num, bR2, by rw [hy'.out]; exact bO2, bl_set hbl1 _ _ _ (by omega)⟩, by simp [intOf]; omega⟩
    · have hltz : ¬ (k : Int) ≤ (t : Int) := by omega
      rw [hlast.out k (by omega)] at bO0
      obtain ⟨o0, o1, o2, o3, o4, o5, o6, o7⟩ := bO0.out.cells
      obtain ⟨r0, r1, r2, r3, r4, r5, r6, r7⟩ := Blk.cells (sa := 0) (sb := 0) (sc := 0) (sd := 0) bR0.out
      clear hfit hyes
      go_wp2
      refine bodyPost_ret (v := .agg #[.int .u64 ra, .int .u64 rb, .int .u64 rc, .int .u64 rd]) (by simp [results, Tryz.results127, go_sem, r0, r1, r2, r3]) rfl ⟨rfl, bl_put hbl ⟨ra, rb, rc, rd⟩ (by omega)⟩


end Go.Proofs.YtjelgphhlcecoaaGreatDoor
namespace Go.Proofs.YtjelgphhlcecoaaGreatDoor
open Go.RowKit

set_option maxRecDepth 20000 in
set_option maxHeartbeats 1000000 in
theorem andC (sa sb sc sd ta tb tc td : Nat) (w : World) (hS : Fit4 ⟨sa, sb, sc, sd⟩) (hT : Fit4 ⟨ta, tb, tc, td⟩) :
    Calls Tryz.prog 69 #[valB ⟨sa, sb, sc, sd⟩, valB ⟨ta, tb, tc, td⟩] w fun e w' => e = .returned (valB (andB ⟨sa, sb, sc, sd⟩ ⟨ta, tb, tc, td⟩)) ∧ Below w.heap.size w w' := by
  rw [and_words _ _ hS]
  have k0 := u64_and_nat sa ta hS.1 hT.1
  have k1 := u64_and_nat sb tb hS.2 hT.2
  have k2 := u64_and_nat sc tc hS.3 hT.3
  have k3 := u64_and_nat sd td hS.4 hT.4
  simp only
  generalize sa &&& ta = ra at k0 ⊢
  generalize sb &&& tb = rb at k1 ⊢
  generalize sc &&& tc = rc at k2 ⊢
  generalize sd &&& td = rd at k3 ⊢
  clear hS hT
  have ix0 : ∀ u, (Instr.index 97 (.agg #[.int .u64 (ta : Int), .int .u64 (tb : Int), .int .u64 (tc : Int), .int .u64 (td : Int)]) (.int .i64 0)).run Tryz.prog u = .ok (.int .u64 (ta : Int)) u := fun u => index4 ta tb tc td 0 ta u rfl
  have ix1 : ∀ u, (Instr.index 97 (.agg #[.int .u64 (ta : Int), .int .u64 (tb : Int), .int .u64 (tc : Int), .int .u64 (td : Int)]) (.int .i64 1)).run Tryz.prog u = .ok (.int .u64 (tb : Int)) u := fun u => index4 ta tb tc td 1 tb u rfl
  have ix2 : ∀ u, (Instr.index 97 (.agg #[.int .u64 (ta : Int), .int .u64 (tb : Int), .int .u64 (tc : Int), .int .u64 (td : Int)]) (.int .i64 2)).run Tryz.prog u = .ok (.int .u64 (tc : Int)) u := fun u => index4 ta tb tc td 2 tc u rfl
  have ix3 : ∀ u, (Instr.index 97 (.agg #[.int .u64 (ta : Int), .int .u64 (tb : Int), .int .u64 (tc : Int), .int .u64 (td : Int)]) (.int .i64 3)).run Tryz.prog u = .ok (.int .u64 (td : Int)) u := fun u => index4 ta tb tc td 3 td u rfl
  go_enter Tryz.func69, Tryz.ntmps69
  go_wp2
  go_loopw [8] (fun i wr => ∃ k : Nat, k ≤ 4 ∧ i = .int .i64 k ∧ Hid (Blk wr w.heap.size (mixW ⟨ra, rb, rc, rd⟩ ⟨sa, sb, sc, sd⟩ k)) ∧ Hid (Blk wr (w.heap.size + 2) noneB) ∧ Below w.heap.size w wr) (fun i _ => 4 - (intOf i).toNat)
  case atStart => exact ⟨0, Nat.zero_le _, rfl, hid (three_blocks w _ _ _).1, hid (three_blocks w _ _ _).2.2, bl_step (bl_step (al' w _) (al' _ _)) (al' _ _)⟩
  case round =>
    obtain ⟨k, hk, rfl, bS0, bR0, hbl⟩ := hrel
    have hk5 : k = 0 ∨ k = 1 ∨ k = 2 ∨ k = 3 ∨ k = 4 := by omega
    rcases hk5 with rfl | rfl | rfl | rfl | rfl
    · have bS0' : Blk wr w.heap.size ⟨sa, sb, sc, sd⟩ := bS0.out
      obtain ⟨s0, s1, s2, s3, s4, s5, s6, s7⟩ := bS0'.cells
      have bS1 : Blk (wr.setCell ⟨w.heap.size, 0, none⟩ (.int .u64 (ra : Int))) w.heap.size ⟨ra, sb, sc, sd⟩ := heap_setCell bS0'
      have bR1 : Blk (wr.setCell ⟨w.heap.size, 0, none⟩ (.int .u64 (ra : Int))) (w.heap.size + 2) noneB := (Below.heap_setCell _ _ _ _ (by simp)).trans bR0.out
      have bS1 := hid bS1
      have bR1 := hid bR1
      clear bS0'
      go_wp2
      go_roundw
      case rel => exact ⟨1, by omega, rfl, bS1, bR1, bl_set hbl _ _ _ (Nat.le_refl _)⟩
      case measure => simp [intOf]
    · have bS0' : Blk wr w.heap.size ⟨ra, sb, sc, sd⟩ := bS0.out
      obtain ⟨s0, s1, s2, s3, s4, s5, s6, s7⟩ := bS0'.cells
      have bS1 : Blk (wr.setCell ⟨w.heap.size, 1, none⟩ (.int .u64 (rb : Int))) w.heap.size ⟨ra, rb, sc, sd⟩ := heap_setCell bS0'
      have bR1 : Blk (wr.setCell ⟨w.heap.size, 1, none⟩ (.int .u64 (rb : Int))) (w.heap.size + 2) noneB := (Below.heap_setCell _ _ _ _ (by simp)).trans bR0.out
      have bS1 := hid bS1
      have bR1 := hid bR1
      clear bS0'
      go_wp2
      go_roundw
      case rel => exact ⟨2, by omega, rfl, bS1, bR1, bl_set hbl _ _ _ (Nat.le_refl _)⟩
      case measure => simp [intOf]
    · have bS0' : Blk wr w.heap.size ⟨ra, rb, sc, sd⟩ := bS0.out
      obtain ⟨s0, s1, s2, s3, s4, s5, s6, s7⟩ := bS0'.cells
      have bS1 : Blk (wr.setCell ⟨w.heap.size, 2, none⟩ (.int .u64 (rc : Int))) w.heap.size ⟨ra, rb, rc, sd⟩ := heap_setCell bS0'
      have bR1 : Blk (wr.setCell ⟨w.heap.size, 2, none⟩ (.int .u64 (rc : Int))) (w.heap.size + 2) noneB := (Below.heap_setCell _ _ _ _ (by simp)).trans bR0.out
      have bS1 := hid bS1
      have bR1 := hid bR1
      clear bS0'
      go_wp2
      go_roundw
      case rel => exact ⟨3, by omega, rfl, bS1, bR1, bl_set hbl _ _ _ (Nat.le_refl _)⟩
      case measure => simp [intOf]
    · have bS0' : Blk wr w.heap.size ⟨ra, rb, rc, sd⟩ := bS0.out
      obtain ⟨s0, s1, s2, s3, s4, s5, s6, s7⟩ := bS0'.cells
      have bS1 : Blk (wr.setCell ⟨w.heap.size, 3, none⟩ (.int .u64 (rd : Int))) w.heap.size ⟨ra, rb, rc, rd⟩ := heap_setCell bS0'
      have bR1 : Blk (wr.setCell ⟨w.heap.size, 3, none⟩ (.int .u64 (rd : Int))) (w.heap.size + 2) noneB := (Below.heap_setCell _ _ _ _ (by simp)).trans bR0.out
      have bS1 := hid bS1
      have bR1 := hid bR1
      clear bS0'
      go_wp2
      go_roundw
      case rel => exact ⟨4, by omega, rfl, bS1, bR1, bl_set hbl _ _ _ (Nat.le_refl _)⟩
      case measure => simp [intOf]
    · obtain ⟨o0, o1, o2, o3, o4, o5, o6, o7⟩ := Blk.cells (show Blk wr w.heap.size ⟨ra, rb, rc, rd⟩ from bS0.out)
      obtain ⟨r0, r1, r2, r3, r4, r5, r6, r7⟩ := Blk.cells (sa := 0) (sb := 0) (sc := 0) (sd := 0) bR0.out
      go_wp2
      refine bodyPost_ret (v := .agg #[.int .u64 ra, .int .u64 rb, .int .u64 rc, .int .u64 rd]) (by simp [results, Tryz.results69, go_sem, r0, r1, r2, r3]) rfl ⟨rfl, bl_put hbl ⟨ra, rb, rc, rd⟩ (by omega)⟩

end Go.Proofs.YtjelgphhlcecoaaGreatDoor
namespace Go.Proofs.YtjelgphhlcecoaaGreatDoor

theorem and_has (S T : W4) (x : Nat) (hx : x < 256) : hasB (andB S T) x = (hasB S x && hasB T x) := by unfold andB; rw [mkB_has _ x hx]
theorem not_has (S : W4) (x : Nat) (hx : x < 256) : hasB (notB S) x = !hasB S x := by unfold notB; rw [mkB_has _ x hx]
theorem and_fit (S T : W4) : Fit4 (andB S T) := by unfold andB; exact mkB_fit _
theorem cls_fit (l : List W4) (r : Nat) : Fit4 (clsB l r) := by unfold clsB; exact mkB_fit _
attribute [local irreducible] andB notB clsB noneB hasB
/-- is a part left whole? -/
def idleQ (S P : W4) : Bool := decide (andB P S = noneB) || decide (andB P S = P)
def headQ (S P : W4) : W4 := if idleQ S P then P else andB P S
def tailQ (S P : W4) : List W4 := if idleQ S P then [] else [andB P (notB S)]
def splitL (S : W4) (l : List W4) : List W4 := l.map (headQ S) ++ l.flatMap (tailQ S)
/-- .. behind the first i of them -/
def splitI (S : W4) (l : List W4) (i : Nat) : List W4 := (l.take i).map (headQ S) ++ l.drop i ++ (l.take i).flatMap (tailQ S)
theorem splitI_zero (S : W4) (l : List W4) : splitI S l 0 = l := by simp [splitI]
theorem splitI_end (S : W4) (l : List W4) (i : Nat) (hi : l.length ≤ i) : splitI S l i = splitL S l := by
  unfold splitI splitL
  rw [List.take_of_length_le hi, List.drop_of_length_le hi, List.append_nil]
theorem splitI_idle (S : W4) (l : List W4) (i : Nat) (hi : i < l.length) (h : idleQ S l[i] = true) : splitI S l (i + 1) = splitI S l i := by
  unfold splitI
  rw [List.take_succ_eq_append_getElem hi, List.map_append, List.flatMap_append, List.drop_eq_getElem_cons hi]
  simp [headQ, tailQ, h]
theorem splitI_cut (S : W4) (l : List W4) (i : Nat) (hi : i < l.length) (h : idleQ S l[i] = false) : splitI S l (i + 1) = (splitI S l i).set i (andB l[i] S) ++ [andB l[i] (notB S)] := by
  unfold splitI
  rw [List.take_succ_eq_append_getElem hi, List.map_append, List.flatMap_append, List.drop_eq_getElem_cons hi]
  have hl : ((l.take i).map (headQ S)).length = i := by rw [List.length_map, List.length_take]; omega
  generalize List.map (headQ S) (l.take i) = A at hl ⊢
  generalize List.flatMap (tailQ S) (l.take i) = B
  have e : ((A ++ l[i] :: List.drop (i + 1) l) ++ B).set i (andB l[i] S) = (A ++ andB l[i] S :: List.drop (i + 1) l) ++ B := by
    rw [List.append_assoc, List.set_append_right _ _ (by omega), hl, Nat.sub_self, List.append_assoc]
    rfl
  rw [e]
  simp [headQ, tailQ, h]
theorem splitI_len (S : W4) (l : List W4) (i : Nat) (hi : i ≤ l.length) : l.length ≤ (splitI S l i).length := by
  unfold splitI
  simp
  omega
theorem splitI_more (S : W4) (l : List W4) : ∀ i, i ≤ l.length → (splitI S l i).length ≤ l.length + i
  | 0, _ => by rw [splitI_zero]; omega
  | i + 1, hi => by
    have ih := splitI_more S l i (by omega)
    cases h : idleQ S l[i] with
    | true => rw [splitI_idle S l i (by omega) h]; omega
    | false => rw [splitI_cut S l i (by omega) h]; simp; omega
theorem splitI_at (S : W4) (l : List W4) (i j : Nat) (hi : i ≤ j) (hj : j < l.length) : (splitI S l i)[j]? = some l[j] := by
  unfold splitI
  have hl : ((l.take i).map (headQ S)).length = i := by rw [List.length_map, List.length_take]; omega
  rw [List.append_assoc, List.getElem?_append_right (by omega), hl, List.getElem?_append_left (by rw [List.length_drop]; omega), List.getElem?_drop]
  rw [show i + (j - i) = j by omega, List.getElem?_eq_getElem hj]
/-- no byte in two -/
def Apart (P Q : W4) : Prop := ∀ x, x < 256 → hasB P x = true → hasB Q x = false
theorem Apart.symm {P Q : W4} (h : Apart P Q) : Apart Q P := fun x hx hq => by
  cases hp : hasB P x with
  | false => rfl
  | true => rw [h x hx hp] at hq; cases hq
structure GoodP (l ps : List W4) : Prop where
  cls : ∀ P ∈ ps, ∃ r, r < 256 ∧ P = clsB l r
  all : ∀ r, r < 256 → clsB l r ∈ ps
  apart : ps.Pairwise Apart
theorem GoodP.fit {l ps : List W4} (h : GoodP l ps) : ∀ P ∈ ps, Fit4 P := fun P hP => by
  obtain ⟨r, _, rfl⟩ := h.cls P hP
  exact cls_fit _ _
theorem goodP_nil : GoodP [] [notB noneB] where
  cls := fun P hP => by rw [List.mem_singleton] at hP; subst hP; exact ⟨0, by omega, (cls_nil 0).symm⟩
  all := fun r _ => by rw [cls_nil]; exact List.mem_singleton.2 rfl
  apart := List.pairwise_singleton _ _

theorem idle_cls {l : List W4} {S : W4} (hS : Fit4 S) {r : Nat} (hr : r < 256) (h : idleQ S (clsB l r) = true) : clsB (l ++ [S]) r = clsB l r := by
  have hself : hasB (clsB l r) r = true := by rw [cls_has l r r hr]; exact al_refl l r
  have hfit : Fit4 (clsB l r) := cls_fit l r
  rw [cls_snoc l S hS]
  unfold idleQ at h
  rw [Bool.or_eq_true, decide_eq_true_iff, decide_eq_true_iff] at h
  rcases h with h | h
  · have hno : ∀ x, x < 256 → (hasB (clsB l r) x && hasB S x) = false := fun x hx => by rw [← and_has _ _ x hx, h, noneB_has]
    have hr0 : hasB S r = false := by have := hno r hr; rw [hself] at this; simpa using this
    rw [hr0]
    refine set_ext (and_fit _ _) hfit fun x hx => ?_
    simp only [Bool.false_eq_true, if_false]
    rw [and_has _ _ x hx, not_has _ x hx]
    have := hno x hx
    revert this
    cases hasB (clsB l r) x <;> cases hasB S x <;> simp
  · have hyes : ∀ x, x < 256 → (hasB (clsB l r) x && hasB S x) = hasB (clsB l r) x := fun x hx => by rw [← and_has _ _ x hx, h]
    have hr0 : hasB S r = true := by have := hyes r hr; rw [hself] at this; simpa using this
    rw [hr0]
    simpa using h
theorem cut_cls {l : List W4} {S : W4} (hS : Fit4 S) {r : Nat} : clsB (l ++ [S]) r = andB (clsB l r) S ∨ clsB (l ++ [S]) r = andB (clsB l r) (notB S) := by
  rw [cls_snoc l S hS]
  cases hasB S r
  · rw [if_neg Bool.false_ne_true]; exact Or.inr rfl
  · rw [if_pos rfl]; exact Or.inl rfl
/-- a set that isn't empty has a byte -/
theorem some_byte {P : W4} (hP : Fit4 P) (h : P ≠ noneB) : ∃ x, x < 256 ∧ hasB P x = true :=
  Classical.byContradiction fun hn => h (set_ext hP noneB_fit fun x hx => by
    rw [noneB_has]
    cases hx' : hasB P x with
    | false => rfl
    | true => exact absurd ⟨x, hx, hx'⟩ hn)
theorem cut_both {l : List W4} {S : W4} (hS : Fit4 S) {r : Nat} (h : idleQ S (clsB l r) = false) :
    (∃ x, x < 256 ∧ andB (clsB l r) S = clsB (l ++ [S]) x) ∧ ∃ x, x < 256 ∧ andB (clsB l r) (notB S) = clsB (l ++ [S]) x := by
  have hfit : Fit4 (clsB l r) := cls_fit l r
  unfold idleQ at h
  rw [Bool.or_eq_false_iff, decide_eq_false_iff_not, decide_eq_false_iff_not] at h
  constructor
  · obtain ⟨x, hx, hh⟩ := some_byte (and_fit _ _) h.1
    rw [and_has _ _ x hx, Bool.and_eq_true, cls_has l r x hx] at hh
    exact ⟨x, hx, by rw [cls_snoc l S hS, hh.2, cls_same hh.1, if_pos rfl]⟩
  · have hne : andB (clsB l r) (notB S) ≠ noneB := fun e => h.2 (set_ext (and_fit _ _) hfit fun x hx => by
      have h1 : (hasB (clsB l r) x && !hasB S x) = false := by rw [← not_has S x hx, ← and_has _ _ x hx, e, noneB_has]
      rw [and_has _ _ x hx]
      revert h1
      cases hasB (clsB l r) x <;> cases hasB S x <;> simp)
    obtain ⟨x, hx, hh⟩ := some_byte (and_fit _ _) hne
    rw [and_has _ _ x hx, not_has S x hx, Bool.and_eq_true, cls_has l r x hx] at hh
    have h0 : hasB S x = false := by simpa using hh.2
    exact ⟨x, hx, by rw [cls_snoc l S hS, h0, cls_same hh.1, if_neg Bool.false_ne_true]⟩
theorem head_sub (S P : W4) (x : Nat) (hx : x < 256) (h : hasB (headQ S P) x = true) : hasB P x = true := by
  unfold headQ at h
  split at h
  · exact h
  · rw [and_has _ _ x hx, Bool.and_eq_true] at h; exact h.1
theorem tail_sub {S P T : W4} (hT : T ∈ tailQ S P) (x : Nat) (hx : x < 256) (h : hasB T x = true) : hasB P x = true := by
  unfold tailQ at hT
  split at hT
  · cases hT
  · rw [List.mem_singleton] at hT
    subst hT
    rw [and_has _ _ x hx, Bool.and_eq_true] at h; exact h.1
theorem head_tail {S P T : W4} (hT : T ∈ tailQ S P) : Apart (headQ S P) T := fun x hx h => by
  unfold tailQ at hT
  unfold headQ at h
  cases hi : idleQ S P with
  | true => rw [hi] at hT; simp at hT
  | false =>
    rw [hi] at hT h
    simp only [Bool.false_eq_true, if_false, List.mem_singleton] at hT h
    subst hT
    rw [and_has _ _ x hx, Bool.and_eq_true] at h
    rw [and_has _ _ x hx, not_has _ x hx, h.2]
    simp
theorem Apart.sub {P Q P' Q' : W4} (h : Apart P Q) (hp : ∀ x, x < 256 → hasB P' x = true → hasB P x = true) (hq : ∀ x, x < 256 → hasB Q' x = true → hasB Q x = true) : Apart P' Q' := fun x hx h' => by
  have h1 := h x hx (hp x hx h')
  cases h2 : hasB Q' x with
  | false => rfl
  | true => rw [hq x hx h2] at h1; cases h1
theorem apart_of {ps : List W4} (h : ps.Pairwise Apart) {P Q : W4} (hP : P ∈ ps) (hQ : Q ∈ ps) (hne : P ≠ Q) : Apart P Q := by
  obtain ⟨i, hi, rfl⟩ := List.mem_iff_getElem.1 hP
  obtain ⟨j, hj, rfl⟩ := List.mem_iff_getElem.1 hQ
  rcases Nat.lt_trichotomy i j with h' | h' | h'
  · exact List.pairwise_iff_getElem.1 h i j hi hj h'
  · subst h'; exact absurd rfl hne
  · exact (List.pairwise_iff_getElem.1 h j i hj hi h').symm
theorem split_apart (S : W4) : ∀ ps : List W4, ps.Pairwise Apart → (splitL S ps).Pairwise Apart := fun ps h => by
  unfold splitL
  rw [List.pairwise_append]
  refine ⟨?_, ?_, ?_⟩
  · rw [List.pairwise_map]
    exact h.imp fun {P Q} hpq => hpq.sub (head_sub S P) (head_sub S Q)
  · rw [List.pairwise_flatMap]
    refine ⟨fun P _ => ?_, h.imp fun {P Q} hpq => fun T hT U hU => hpq.sub (fun x hx hh => tail_sub hT x hx hh) (fun x hx hh => tail_sub hU x hx hh)⟩
    unfold tailQ
    split
    · exact List.Pairwise.nil
    · exact List.pairwise_singleton _ _
  · intro A hA B hB
    obtain ⟨P, hP, rfl⟩ := List.mem_map.1 hA
    obtain ⟨Q, hQ, hB⟩ := List.mem_flatMap.1 hB
    by_cases e : P = Q
    · subst e; exact head_tail hB
    · have : Apart P Q := apart_of h hP hQ e
      exact this.sub (head_sub S P) (tail_sub hB)
theorem GoodP.split {l ps : List W4} (h : GoodP l ps) {S : W4} (hS : Fit4 S) : GoodP (l ++ [S]) (splitL S ps) where
  cls := fun A hA => by
    unfold splitL at hA
    rw [List.mem_append, List.mem_map, List.mem_flatMap] at hA
    rcases hA with ⟨P, hP, rfl⟩ | ⟨P, hP, hA⟩
    · obtain ⟨r, hr, rfl⟩ := h.cls P hP
      unfold headQ
      cases hi : idleQ S (clsB l r) with
      | true => simp only [if_true]; exact ⟨r, hr, (idle_cls hS hr hi).symm⟩
      | false => simp only [Bool.false_eq_true, if_false]; exact (cut_both hS hi).1
    · obtain ⟨r, hr, rfl⟩ := h.cls P hP
      unfold tailQ at hA
      cases hi : idleQ S (clsB l r) with
      | true => rw [hi] at hA; simp at hA
      | false =>
        rw [hi] at hA
        simp only [Bool.false_eq_true, if_false, List.mem_singleton] at hA
        subst hA
        exact (cut_both hS hi).2
  all := fun r hr => by
    have hm := h.all r hr
    unfold splitL
    rw [List.mem_append, List.mem_map, List.mem_flatMap]
    cases hi : idleQ S (clsB l r) with
    | true =>
      rw [idle_cls hS hr hi]
      exact Or.inl ⟨clsB l r, hm, by unfold headQ; rw [hi, if_pos rfl]⟩
    | false =>
      rcases cut_cls (l := l) hS (r := r) with e | e
      · exact Or.inl ⟨clsB l r, hm, by unfold headQ; rw [hi, e, if_neg Bool.false_ne_true]⟩
      · exact Or.inr ⟨clsB l r, hm, by unfold tailQ; rw [hi, e, if_neg Bool.false_ne_true]; exact List.mem_singleton.2 rfl⟩
  apart := split_apart S ps h.apart

theorem GoodP.least {l ps : List W4} (h : GoodP l ps) : ∀ P ∈ ps, ∃ m : Nat, m < 256 ∧ leastB P = (m : Int) ∧ hasB P m = true := fun P hP => by
  obtain ⟨r, hr, rfl⟩ := h.cls P hP
  obtain ⟨q, hq, e⟩ := List.mem_map.1 (parts_mem l r hr)
  rw [← e]
  have hq2 := repN_lt l 256 q hq
  exact ⟨q, hq2, least_cls l q hq, by rw [cls_has l q q hq2]; exact al_refl l q⟩
/-- good parts, sorted by their least bytes: the one list -/
theorem GoodP.sorted {l ps qs : List W4} (h : GoodP l ps) (hp : qs.Perm ps) (hs : qs.Pairwise (fun P Q => leastB P ≤ leastB Q)) : qs = partsB l := by
  have ha : qs.Pairwise Apart := (hp.pairwise_iff (fun {P Q} h => h.symm)).2 h.apart
  refine parts_uniq (fun P hP => h.cls P (hp.mem_iff.1 hP)) (fun r hr => hp.mem_iff.2 (h.all r hr)) ?_
  refine (hs.and ha).imp_of_mem fun {P Q} hP hQ hpq => ?_
  obtain ⟨m, hm, em, bm⟩ := h.least P (hp.mem_iff.1 hP)
  obtain ⟨n, hn, en, bn⟩ := h.least Q (hp.mem_iff.1 hQ)
  have hle := hpq.1
  rw [em, en] at hle ⊢
  rcases Nat.lt_or_ge m n with h' | h'
  · omega
  · have e : m = n := by omega
    subst e
    rw [hpq.2 m hm bm] at bn
    cases bn
theorem GoodP.len {l ps : List W4} (h : GoodP l ps) : ps.length ≤ 256 := by
  have hp := List.mergeSort_perm ps (fun P Q => decide (leastB P ≤ leastB Q))
  have hs := List.pairwise_mergeSort (le := fun P Q => decide (leastB P ≤ leastB Q)) (fun a b c h1 h2 => by simp at *; omega) (fun a b => by simp; omega) ps
  have e := h.sorted hp (hs.imp fun h => by simpa using h)
  have hl := hp.length_eq
  rw [e] at hl
  have h2 : (partsB l).length ≤ 256 := by unfold partsB; rw [List.length_map]; exact repN_len l 256
  omega

end Go.Proofs.YtjelgphhlcecoaaGreatDoor
