/- bit, One of package bytes. Span of package bytes. The reader: an item of a class. == and != on sets of bytes. -/
import Derived.Test.YtcledgljbmepaaaGreatDoorJ6
import Derived.Test.YtcledgljbmepaaaGreatDoorJ2
import Derived.BigQuiet
import Derived.Deep.RegionHeld3
namespace Go.Proofs.YtcledgljbmepaaaGreatDoor
open Go.RowKit

set_option maxRecDepth 20000 in
/-- the word of a byte: one bit -/
theorem bitC (x : Nat) (w : World) (hx : x < 256) :
    Calls Tryz.prog 139 #[.int .u8 (x : Int)] w fun e w' => e = .returned (.int .u64 ((2 ^ (x % 64) : Nat) : Int)) ∧ w' = w := by
  have hp := wrap_pow (j := x % 64) (by omega)
  have hr : (x : Int) % 64 = ((x % 64 : Nat) : Int) := by omega
  have hrl : x % 64 < 64 := by omega
  generalize hm : 2 ^ (x % 64) = m at hp ⊢
  generalize x % 64 = r at hr hrl hp hm
  go_enter Tryz.func139, Tryz.ntmps139
  go_wp2
  go_ret
  exact ⟨rfl, rfl⟩

set_option maxRecDepth 20000 in
set_option maxHeartbeats 1000000 in
theorem oneC (x : Nat) (w : World) (hx : x < 256) :
    Calls Tryz.prog 127 #[.int .u8 (x : Int)] w fun e w' => e = .returned (valB (spanB x x)) ∧ Below w.heap.size w w' := by
  rw [one_word x hx]
  have GB := hid (fun u => bitC x u hx)
  have hq : (x : Int) / 64 = ((x / 64 : Nat) : Int) := by omega
  have hql : x / 64 = 0 ∨ x / 64 = 1 ∨ x / 64 = 2 ∨ x / 64 = 3 := by omega
  generalize hm : 2 ^ (x % 64) = m at GB ⊢
  generalize x / 64 = q at hq hql ⊢
  clear hm
  rcases hql with rfl | rfl | rfl | rfl
  · go_enter Tryz.func127, Tryz.ntmps127
    go_wp2_with (go_at_call 139; refine (GB.out _).mono ?_; rintro e u1 ⟨rfl, hu⟩; subst u1)
    exact bodyPost_ret (v := .agg #[.int .u64 (m : Int), .int .u64 0, .int .u64 0, .int .u64 0]) (by simp [results, Tryz.results127, go_sem]) rfl ⟨rfl, bl_step (al' w _) (al' _ _)⟩
  · go_enter Tryz.func127, Tryz.ntmps127
    go_wp2_with (go_at_call 139; refine (GB.out _).mono ?_; rintro e u1 ⟨rfl, hu⟩; subst u1)
    exact bodyPost_ret (v := .agg #[.int .u64 0, .int .u64 (m : Int), .int .u64 0, .int .u64 0]) (by simp [results, Tryz.results127, go_sem]) rfl ⟨rfl, bl_step (al' w _) (al' _ _)⟩
  · go_enter Tryz.func127, Tryz.ntmps127
    go_wp2_with (go_at_call 139; refine (GB.out _).mono ?_; rintro e u1 ⟨rfl, hu⟩; subst u1)
    exact bodyPost_ret (v := .agg #[.int .u64 0, .int .u64 0, .int .u64 (m : Int), .int .u64 0]) (by simp [results, Tryz.results127, go_sem]) rfl ⟨rfl, bl_step (al' w _) (al' _ _)⟩
  · go_enter Tryz.func127, Tryz.ntmps127
    go_wp2_with (go_at_call 139; refine (GB.out _).mono ?_; rintro e u1 ⟨rfl, hu⟩; subst u1)
    exact bodyPost_ret (v := .agg #[.int .u64 0, .int .u64 0, .int .u64 0, .int .u64 (m : Int)]) (by simp [results, Tryz.results127, go_sem]) rfl ⟨rfl, bl_step (al' w _) (al' _ _)⟩

end Go.Proofs.YtcledgljbmepaaaGreatDoor
namespace Go.Proofs.YtcledgljbmepaaaGreatDoor
open Go.RowKit

/-- a set to which those for which something holds are put, up to a byte -/
def addN (S : W4) (p : Nat → Bool) : Nat → W4
  | 0 => S
  | k + 1 => if p k then putB (addN S p k) k else addN S p k
theorem addN_yes {S : W4} {p : Nat → Bool} {k : Nat} (h : p k = true) : addN S p (k + 1) = putB (addN S p k) k := by rw [addN, if_pos h]
theorem addN_fit {S : W4} (h : Fit4 S) (p : Nat → Bool) : ∀ k, Fit4 (addN S p k)
  | 0 => h
  | k + 1 => by
    unfold addN
    cases p k with
    | true => simpa using putB_fit (addN_fit h p k) k
    | false => simpa using addN_fit h p k
theorem addN_has (S : W4) (p : Nat → Bool) : ∀ k, k ≤ 256 → ∀ x, x < 256 → hasB (addN S p k) x = (hasB S x || (decide (x < k) && p x))
  | 0, _, x, _ => by rw [addN]; simp
  | k + 1, hk, x, hx => by
    have ih := addN_has S p k (by omega) x hx
    unfold addN
    by_cases e : x = k
    · subst e
      cases hp : p x with
      | true => simp [putB_has _ x x hx hx]
      | false => simp [ih]
    · have h1 : decide (x < k + 1) = decide (x < k) := by rw [decide_eq_decide]; omega
      rw [h1, ← ih]
      cases p k with
      | true => simp [putB_has _ k x (by omega) hx, e]
      | false => simp
theorem span_low (f k : Nat) (h : k ≤ f) (hf : f ≤ 256) : addN noneB (fun x => decide (f ≤ x)) k = noneB :=
  set_ext (addN_fit noneB_fit _ _) noneB_fit fun x hx => by
    rw [addN_has _ _ k (by omega) x hx, noneB_has]
    have : (decide (x < k) && decide (f ≤ x)) = false := by
      by_cases h1 : x < k
      · have h2 : ¬ f ≤ x := by omega
        simp [h2]
      · simp [h1]
    rw [this]; rfl
theorem span_end (f t k : Nat) (ht : t < 256) (h : k = t + 1 ∨ (t < f ∧ k = f)) (hf : f < 256) : addN noneB (fun x => decide (f ≤ x)) k = spanB f t := by
  refine mkB_eq (addN_fit noneB_fit _ _) fun x hx => ?_
  rw [addN_has _ _ k (by omega) x hx, noneB_has, Bool.false_or, Bool.eq_iff_iff]
  simp only [Bool.and_eq_true, decide_eq_true_eq]
  omega

theorem set_w (S : W4) (i v x : Nat) (hi : i < 4) (hx : x < 256) : hasB (S.set i v) x = if x / 64 = i then v.testBit (x % 64) else hasB S x := by
  unfold hasB
  by_cases e : x / 64 = i
  · rw [if_pos e, e, W4.set_same]
  · rw [if_neg e, W4.set_other _ _ _ _ hi (by omega) e]
/-- one more, by an or -/
theorem putB_or {Q : W4} (hQ : Fit4 Q) (k : Nat) (hk : k < 256) : putB Q k = Q.set (k / 64) (Q.w (k / 64) ||| 2 ^ (k % 64)) := by
  have h2 : 2 ^ (k % 64) < 18446744073709551616 := Nat.pow_lt_pow_right (a := 2) (by omega) (by omega : k % 64 < 64)
  refine set_ext (putB_fit hQ k) (hQ.set _ _ (Nat.or_lt_two_pow (n := 64) (hQ.w _) h2)) fun x hx => ?_
  rw [putB_has Q k x hk hx, set_w _ _ _ _ (by omega) hx, Nat.testBit_or, Nat.testBit_two_pow]
  by_cases e : x / 64 = k / 64
  · rw [if_pos e, ← e]
    unfold hasB
    congr 1
    rw [decide_eq_decide]
    omega
  · rw [if_neg e]
    have : ¬ x = k := fun h => e (by rw [h])
    simp [this]

set_option maxRecDepth 20000 in
set_option maxHeartbeats 4000000 in
theorem spanC (f t : Nat) (w : World) (hf : f < 256) (ht : t < 256) :
    Calls Tryz.prog 131 #[.int .u8 (f : Int), .int .u8 (t : Int)] w fun e w' => e = .returned (valB (spanB f t)) ∧ Below w.heap.size w w' := by
  obtain ⟨p, hp⟩ : ∃ p : Nat → Bool, Hid (p = fun x => decide (f ≤ x)) := ⟨_, hid rfl⟩
  obtain ⟨R, hR⟩ : ∃ R, Hid (spanB f t = R) := ⟨_, hid rfl⟩
  have hlast : Hid (∀ k, (k = t + 1 ∨ (t < f ∧ k = f)) → addN noneB p k = R) := hid (fun k hk => by rw [hp.out, ← hR.out]; exact span_end f t k ht hk hf)
  have hfirst : Hid (addN noneB p f = noneB) := hid (by rw [hp.out]; exact span_low f f (Nat.le_refl _) (by omega))
  have hyes : Hid (∀ k, f ≤ k → p k = true) := hid (fun k hk => by rw [hp.out]; exact decide_eq_true hk)
  rw [show spanB f t = R from hR.out]
  have hfit := hid (addN_fit noneB_fit p)
  obtain ⟨ra, rb, rc, rd⟩ := R
  clear hR hp
  go_enter Tryz.func131, Tryz.ntmps131
  go_wp2
  go_loopw [6] (fun i wr => ∃ k : Nat, f ≤ k ∧ (k ≤ t + 1 ∨ k = f) ∧ i = .int .i64 k ∧ Hid (Blk wr w.heap.size noneB) ∧ Hid (Blk wr (w.heap.size + 1) (addN noneB p k)) ∧ Below w.heap.size w wr) (fun i _ => 256 - (intOf i).toNat)
  case atStart => exact ⟨f, Nat.le_refl _, Or.inr rfl, by go_num, hid (two_blocks w _ _).1, by rw [hfirst.out]; exact hid (two_blocks w _ _).2, bl_step (al' w _) (al' _ _)⟩
  case round =>
    obtain ⟨k, hk, hk2, rfl, bR0, bO0, hbl⟩ := hrel
    have htw : IntKind.i64.wrap (t : Int) = (t : Int) := by rw [IntKind.wrap_i64]; omega
    by_cases hlt : k ≤ t
    · have hltz : (k : Int) ≤ (t : Int) := by omega
      have hQ := hid (hfit.out k)
      have hy := @addN_yes noneB p k (hyes.out k hk)
      generalize addN noneB p k = Q at hQ hy bO0
      rw [putB_or hQ.out k (by omega)] at hy
      have hk8 : IntKind.u8.wrap (k : Int) = (k : Int) := by rw [IntKind.wrap_u8]; omega
      have hqz : (k : Int) / 64 = ((k / 64 : Nat) : Int) := by omega
      have hql : k / 64 = 0 ∨ k / 64 = 1 ∨ k / 64 = 2 ∨ k / 64 = 3 := by omega
      have GB := hid (fun u => bitC k u (by omega))
      have hm : 2 ^ (k % 64) < 18446744073709551616 := Nat.pow_lt_pow_right (a := 2) (by omega) (by omega : k % 64 < 64)
      generalize 2 ^ (k % 64) = m at hy GB hm
      generalize k / 64 = q at hy hqz hql
      have hbd : Below wr.heap.size wr wr.drew := (Below.refl _ _).drew
      have bR1 := hid (bR0.out.keep hbd)
      have bO1 := hid (bO0.out.keep hbd)
      have hbl1 := bl_step hbl hbd
      obtain ⟨a, b, c, d⟩ := Q
      obtain ⟨o0, o1, o2, o3, o4, o5, o6, o7⟩ := bO1.out.cells
      clear hfit hyes hlast
      rcases hql with rfl | rfl | rfl | rfl
      · have hor := u64_or_nat a m hQ.out.a hm
        have hy' : Hid (addN noneB p (k + 1) = ⟨a ||| m, b, c, d⟩) := hid hy
        generalize a ||| m = n at hor hy'
        clear hy hm
        have bO2 : Hid (Blk (wr.drew.setCell ⟨w.heap.size + 1, 0, none⟩ (.int .u64 (n : Int))) (w.heap.size + 1) ⟨n, b, c, d⟩) := hid (heap_setCell bO1.out)
        have bR2 : Hid (Blk (wr.drew.setCell ⟨w.heap.size + 1, 0, none⟩ (.int .u64 (n : Int))) w.heap.size noneB) := hid ((Below.heap_setCell _ _ _ _ (by simp)).trans bR1.out)
        go_wp2_with fail
        go_region_with (first
          | (go_at_call 139; refine (GB.out _).mono ?_; rintro e u1 ⟨rfl, hu⟩; subst u1)
          | fail)
        all_goals
          go_wp2
          exact ⟨⟨k + 1, by omega, by omega, by go_num, bR2, by rw [hy'.out]; exact bO2, bl_set hbl1 _ _ _ (by omega)⟩, by simp [intOf]; omega⟩
      · have hor := u64_or_nat b m hQ.out.b hm
        have hy' : Hid (addN noneB p (k + 1) = ⟨a, b ||| m, c, d⟩) := hid hy
        generalize b ||| m = n at hor hy'
        clear hy hm
        have bO2 : Hid (Blk (wr.drew.setCell ⟨w.heap.size + 1, 1, none⟩ (.int .u64 (n : Int))) (w.heap.size + 1) ⟨a, n, c, d⟩) := hid (heap_setCell bO1.out)
        have bR2 : Hid (Blk (wr.drew.setCell ⟨w.heap.size + 1, 1, none⟩ (.int .u64 (n : Int))) w.heap.size noneB) := hid ((Below.heap_setCell _ _ _ _ (by simp)).trans bR1.out)
        go_wp2_with fail
        go_region_with (first
          | (go_at_call 139; refine (GB.out _).mono ?_; rintro e u1 ⟨rfl, hu⟩; subst u1)
          | fail)
        all_goals
          go_wp2
          exact ⟨⟨k + 1, by omega, by omega, by go_num, bR2, by rw [hy'.out]; exact bO2, bl_set hbl1 _ _ _ (by omega)⟩, by simp [intOf]; omega⟩
      · have hor := u64_or_nat c m hQ.out.c hm
        have hy' : Hid (addN noneB p (k + 1) = ⟨a, b, c ||| m, d⟩) := hid hy
        generalize c ||| m = n at hor hy'
        clear hy hm
        have bO2 : Hid (Blk (wr.drew.setCell ⟨w.heap.size + 1, 2, none⟩ (.int .u64 (n : Int))) (w.heap.size + 1) ⟨a, b, n, d⟩) := hid (heap_setCell bO1.out)
        have bR2 : Hid (Blk (wr.drew.setCell ⟨w.heap.size + 1, 2, none⟩ (.int .u64 (n : Int))) w.heap.size noneB) := hid ((Below.heap_setCell _ _ _ _ (by simp)).trans bR1.out)
        go_wp2_with fail
        go_region_with (first
          | (go_at_call 139; refine (GB.out _).mono ?_; rintro e u1 ⟨rfl, hu⟩; subst u1)
          | fail)
        all_goals
          go_wp2
          exact ⟨⟨k + 1, by omega, by omega, by go_num, bR2, by rw [hy'.out]; exact bO2, bl_set hbl1 _ _ _ (by omega)⟩, by simp [intOf]; omega⟩
      · have hor := u64_or_nat d m hQ.out.d hm
        have hy' : Hid (addN noneB p (k + 1) = ⟨a, b, c, d ||| m⟩) := hid hy
        generalize d ||| m = n at hor hy'
        clear hy hm
        have bO2 : Hid (Blk (wr.drew.setCell ⟨w.heap.size + 1, 3, none⟩ (.int .u64 (n : Int))) (w.heap.size + 1) ⟨a, b, c, n⟩) := hid (heap_setCell bO1.out)
        have bR2 : Hid (Blk (wr.drew.setCell ⟨w.heap.size + 1, 3, none⟩ (.int .u64 (n : Int))) w.heap.size noneB) := hid ((Below.heap_setCell _ _ _ _ (by simp)).trans bR1.out)
        go_wp2_with fail
        go_region_with (first
          | (go_at_call 139; refine (GB.out _).mono ?_; rintro e u1 ⟨rfl, hu⟩; subst u1)
          | fail)
        all_goals
          go_wp2
          exact ⟨⟨k + 1, by omega, by omega, by go_num, bR2, by rw [hy'.out]; exact bO2, bl_set hbl1 _ _ _ (by omega)⟩, by simp [intOf]; omega⟩
    · have hltz : ¬ (k : Int) ≤ (t : Int) := by omega
      rw [hlast.out k (by omega)] at bO0
      obtain ⟨o0, o1, o2, o3, o4, o5, o6, o7⟩ := bO0.out.cells
      obtain ⟨r0, r1, r2, r3, r4, r5, r6, r7⟩ := Blk.cells (sa := 0) (sb := 0) (sc := 0) (sd := 0) bR0.out
      clear hfit hyes
      go_wp2
      refine bodyPost_ret (v := .agg #[.int .u64 ra, .int .u64 rb, .int .u64 rc, .int .u64 rd]) (by simp [results, Tryz.results131, go_sem, r0, r1, r2, r3]) rfl ⟨rfl, bl_put hbl ⟨ra, rb, rc, rd⟩ (by omega)⟩


end Go.Proofs.YtcledgljbmepaaaGreatDoor
namespace Go.Proofs.YtcledgljbmepaaaGreatDoor
open Go.RowKit

/-- an item: its two bytes, and what is left -/
def itemP (q : Txt) : Option (Nat × Nat × Txt) :=
  match signF leftC q with
  | none => none
  | some (a, s1) =>
    if s1.head? == some 45 then
      match signF leftC s1.tail with
      | none => none
      | some (b, s2) => if b < a then none else some (a, b, s2)
    else some (a, a, s1)
theorem items_item (n : Nat) (first : Bool) (acc : W4) (s : Txt) : itemsF (n + 1) first acc s =
    if !first && s.head? == some 93 then some (acc, s.tail) else
    match itemP s with
    | none => none
    | some (a, b, r) => itemsF n false (orB acc (spanB a b)) r := by
  rw [itemsF]
  split
  · rfl
  unfold itemP
  cases signF leftC s with
  | none => rfl
  | some x =>
    obtain ⟨a, s1⟩ := x
    simp only
    split
    · cases signF leftC s1.tail with
      | none => rfl
      | some y =>
        obtain ⟨b, s2⟩ := y
        simp only
        split <;> rfl
    · rfl
theorem itemP_lt {q r : Txt} {a b : Nat} (h : itemP q = some (a, b, r)) : r.length < q.length := by
  unfold itemP at h
  split at h
  · cases h
  rename_i a' s1 hs
  have h1 := signF_lt hs
  split at h
  · split at h
    · cases h
    rename_i b' s2 hs2
    have h2 := signF_lt hs2
    have h3 : s1.tail.length ≤ s1.length := by simp
    split at h
    · cases h
    · injection h with h; injection h with _ h; injection h with _ h; subst h; omega
  · injection h with h; injection h with _ h; injection h with _ h; subst h; exact h1
theorem items_fuel : ∀ (n : Nat) (first : Bool) (acc : W4) (s : Txt), s.length + 1 ≤ n → itemsF n first acc s = itemsF (n + 1) first acc s
  | 0, _, _, _, h => by omega
  | n + 1, first, acc, s, h => by
    rw [items_item, items_item (n + 1)]
    split
    · rfl
    cases e : itemP s with
    | none => rfl
    | some x =>
      obtain ⟨a, b, r⟩ := x
      have := itemP_lt e
      exact items_fuel n false _ r (by omega)
theorem items_more {n m : Nat} {first : Bool} {acc : W4} {s : Txt} (h : s.length + 1 ≤ n) (h' : n ≤ m) : itemsF n first acc s = itemsF m first acc s := by
  induction h' with
  | refl => rfl
  | step hm ih =>
    rename_i m
    have hm' : n ≤ m := hm
    exact ih.trans (items_fuel m first acc s (by omega))
theorem sign_byte {left : UInt8 → Bool} {q r : Txt} {b : Nat} (h : signF left q = some (b, r)) : b < 256 := by
  cases q with
  | nil => cases h
  | cons c q =>
    simp only [signF] at h
    have hc := c.toNat_lt
    split at h
    · cases h
    split at h
    · cases q with
      | nil => cases h
      | cons d q =>
        have hd := d.toNat_lt
        by_cases h4 : d = 120
        · subst h4
          rw [escF_hex] at h
          cases e1 : hexP q with
          | none => rw [e1] at h; cases h
          | some x =>
            obtain ⟨a, r1⟩ := x
            have := hexP_lt e1
            rw [e1] at h
            simp only at h
            cases e2 : hexP r1 with
            | none => rw [e2] at h; cases h
            | some y =>
              obtain ⟨b', r2⟩ := y
              have := hexP_lt e2
              rw [e2] at h
              injection h with h; injection h with h _
              omega
        · simp only [escF] at h
          rw [if_neg h4] at h
          split at h
          · injection h with h; injection h with h _; omega
          split at h
          · injection h with h; injection h with h _; omega
          split at h
          · injection h with h; injection h with h _; omega
          split at h
          · injection h with h; injection h with h _; omega
          · cases h
    split at h
    · cases h
    · injection h with h; injection h with h _; omega

/-- a fault, told by panic -/
abbrev faultE (n : Int) : Ending := .panicked [{ v := .iface 164 (.int .i64 n), recovered := false }]
def SaidI (res : Option (Nat × Nat × Txt)) (w : World) (rb : Nat) (v : Value) (s : Txt) : Ending → World → Prop := fun e w' =>
  (match res with
    | some (a, b, q) => e = .returned (valB (spanB a b)) ∧ At w' rb v s q
    | none => ∃ n, e = faultE n) ∧ Kept (oneBlk rb) w w'
theorem al_kept {w u : World} {F : Nat → Prop} (h : Kept F w u) (o : Obj) : Kept F w (u.alloc o) := h.trans (Kept.of_below (al' u o))
theorem kept_put4 {F : Nat → Prop} {w u : World} (h : Kept F w u) {b : Nat} (S : W4) (hb : b < w.heap.size → F b) : Kept F w (put4 u b S) := by
  unfold put4
  exact (((h.setCell (a := ⟨b, 0, none⟩) hb).setCell (a := ⟨b, 1, none⟩) hb).setCell (a := ⟨b, 2, none⟩) hb).setCell (a := ⟨b, 3, none⟩) hb
theorem At.put4 {w : World} {rb b : Nat} {v : Value} {s q : Txt} (h : At w rb v s q) (S : W4) (hne : rb ≠ b) : At (Go.Proofs.YtcledgljbmepaaaGreatDoor.put4 w b S) rb v s q := by
  obtain ⟨pre, h1, h2⟩ := h
  refine ⟨pre, h1, ?_⟩
  show (World.setCell (World.setCell (World.setCell (World.setCell w _ _) _ _) _ _) _ _).heap[rb]? = _
  rw [Below.heap_setCell _ _ _ _ hne, Below.heap_setCell _ _ _ _ hne, Below.heap_setCell _ _ _ _ hne, Below.heap_setCell _ _ _ _ hne]
  exact h2
theorem Blk.kept {F : Nat → Prop} {w w' : World} {b : Nat} {S : W4} (h : Blk w b S) (hk : Kept F w w') (hn : ¬ F b) : Blk w' b S := hk.blk h hn

set_option maxRecDepth 20000 in
set_option maxHeartbeats 2000000 in
theorem itemC {w : World} {rb : Nat} {v : Value} {s q : Txt} (h : At w rb v s q) (hs : s.length ≤ 200) :
    Calls Tryz.prog 164 #[.pointer (some ⟨rb, 0, none⟩)] w (SaidI (itemP q) w rb v s) := by
  have hrb : rb < w.heap.size := by obtain ⟨_, _, hb⟩ := h; exact blk_lt hb
  have hpl := h.place
  have h1 := h.keep (al' w (.cells #[.int .u64 0, .int .u64 0, .int .u64 0, .int .u64 0] 110))
  have GT := hid (fun u q (hat : At u rb v s q) => toldC hat hs classS leftC tells_class)
  have b0 : Hid (Blk (w.alloc (.cells #[.int .u64 0, .int .u64 0, .int .u64 0, .int .u64 0] 110)) w.heap.size noneB) := hid (heap_new w _)
  have k0 : Hid (Kept (oneBlk rb) w (w.alloc (.cells #[.int .u64 0, .int .u64 0, .int .u64 0, .int .u64 0] 110))) := hid (Kept.of_below (al' w _))
  have hne : ¬ oneBlk rb w.heap.size := fun e => by have : w.heap.size = rb := e; omega
  have hpl1 := h1.place
  have h1 := hid h1
  generalize plc s q = p at hpl hpl1
  cases e1 : signF leftC q with
  | none =>
    have GT1 := hid (fun u (hat : At u rb v s q) => (show Calls _ _ _ _ (Said (plc s q) none u rb v s) by have := GT.out u q hat; rwa [e1] at this))
    have hi : itemP q = none := by unfold itemP; rw [e1]
    rw [hi]
    clear e1 GT hi h
    go_enter Tryz.func164, Tryz.ntmps164
    go_wp2_with (first
      | (go_at_call 163; refine (GT1.out _ h1.out).mono ?_; intro e w1 hw1; obtain ⟨he1, hk1⟩ := hw1.no; subst he1))
    exact ⟨rfl, ⟨_, rfl⟩, k0.out.trans hk1⟩
  | some x =>
    obtain ⟨a, s1⟩ := x
    have ha := sign_byte e1
    have GT1 := hid (fun u (hat : At u rb v s q) => (show Calls _ _ _ _ (Said (plc s q) (some (a, s1)) u rb v s) by have := GT.out u q hat; rwa [e1] at this))
    by_cases h45 : s1.head? = some 45
    · obtain ⟨s1', rfl⟩ : ∃ s1', s1 = 45 :: s1' := by
        cases s1 with
        | nil => cases h45
        | cons c t => injection h45 with h; subst h; exact ⟨t, rfl⟩
      have GK := hid (fun u (hat : At u rb v s (45 :: s1')) => takeYes hat hs)
      rw [show ((45 : UInt8).toNat : Int) = 45 from rfl] at GK
      cases e2 : signF leftC s1' with
      | none =>
        have GT2 := hid (fun u (hat : At u rb v s s1') => (show Calls _ _ _ _ (Said (plc s s1') none u rb v s) by have := GT.out u s1' hat; rwa [e2] at this))
        have hi : itemP q = none := by unfold itemP; rw [e1]; simp [e2]
        rw [hi]
        clear e1 e2 GT hi h h45
        go_enter Tryz.func164, Tryz.ntmps164
        go_wp2_with (first
          | (go_at_call 163; refine (GT2.out _ hat2.out).mono ?_; intro e w3 hw3; obtain ⟨he3, hk3⟩ := hw3.no; subst he3)
          | (go_at_call 163; refine (GT1.out _ h1.out).mono ?_; intro e w1 hw1; obtain ⟨he1, hat1, hk1⟩ := hw1.yes; subst he1; have hat1 := hid hat1)
          | (go_at_call 133; refine (GK.out _ hat1.out).mono ?_; rintro e w2 ⟨rfl, hat2, hk2⟩; have hat2 := hid hat2))
        exact ⟨rfl, ⟨_, rfl⟩, ((k0.out.trans hk1).trans hk2).trans hk3⟩
      | some y =>
        obtain ⟨b, s2⟩ := y
        have hb := sign_byte e2
        have GT2 := hid (fun u (hat : At u rb v s s1') => (show Calls _ _ _ _ (Said (plc s s1') (some (b, s2)) u rb v s) by have := GT.out u s1' hat; rwa [e2] at this))
        by_cases hlt : b < a
        · have hi : itemP q = none := by unfold itemP; rw [e1]; simp [e2, hlt]
          have hltz : (b : Int) < (a : Int) := by omega
          rw [hi]
          clear e1 e2 GT hi h h45
          go_enter Tryz.func164, Tryz.ntmps164
          go_wp2_with (first
            | (go_at_call 163; refine (GT2.out _ hat2.out).mono ?_; intro e w3 hw3; obtain ⟨he3, hat3, hk3⟩ := hw3.yes; subst he3)
            | (go_at_call 163; refine (GT1.out _ h1.out).mono ?_; intro e w1 hw1; obtain ⟨he1, hat1, hk1⟩ := hw1.yes; subst he1; have hat1 := hid hat1)
            | (go_at_call 133; refine (GK.out _ hat1.out).mono ?_; rintro e w2 ⟨rfl, hat2, hk2⟩; have hat2 := hid hat2))
          exact ⟨rfl, ⟨_, rfl⟩, ((k0.out.trans hk1).trans hk2).trans hk3⟩
        · have hi : itemP q = some (a, b, s2) := by unfold itemP; rw [e1]; simp [e2, hlt]
          have hltz : ¬ (b : Int) < (a : Int) := by omega
          have GS := hid (fun u => spanC a b u ha hb)
          rw [hi]
          show Calls _ _ _ _ fun e w' => (e = .returned (valB (spanB a b)) ∧ At w' rb v s s2) ∧ Kept (oneBlk rb) w w'
          clear e1 e2 GT hi h h45
          generalize spanB a b = R at GS ⊢
          obtain ⟨r0, r1, r2, r3⟩ := R
          go_enter Tryz.func164, Tryz.ntmps164
          go_wp2_with (first
            | (go_at_call 163; refine (GT2.out _ hat2.out).mono ?_; intro e w3 hw3; obtain ⟨he3, hat3, hk3⟩ := hw3.yes; subst he3; have hat3 := hid hat3; have b3 := hid (((b0.out.kept hk1 hne).kept hk2 hne).kept hk3 hne))
            | (go_at_call 163; refine (GT1.out _ h1.out).mono ?_; intro e w1 hw1; obtain ⟨he1, hat1, hk1⟩ := hw1.yes; subst he1; have hat1 := hid hat1)
            | (go_at_call 133; refine (GK.out _ hat1.out).mono ?_; rintro e w2 ⟨rfl, hat2, hk2⟩; have hat2 := hid hat2)
            | (go_at_call 131; refine (GS.out _).mono ?_; rintro e w4 ⟨rfl, hb4⟩; have b4 := hid (b3.out.keep hb4); have hat4 := hid (hat3.out.keep hb4); obtain ⟨z0, z1, z2, z3, z4, z5, z6, z7⟩ := Blk.cells (sa := 0) (sb := 0) (sc := 0) (sd := 0) b4.out))
          refine bodyPost_ret (v := .agg #[.int .u64 r0, .int .u64 r1, .int .u64 r2, .int .u64 r3]) (by simp [results, Tryz.results164, go_sem, z0, z1, z2, z3]) rfl ⟨⟨rfl, ?_⟩, ?_⟩
          · exact hat4.out.put4 ⟨r0, r1, r2, r3⟩ (by omega)
          · exact kept_put4 ((((k0.out.trans hk1).trans hk2).trans hk3).trans (Kept.of_below hb4)) ⟨r0, r1, r2, r3⟩ (fun h => by omega)
    · have hno : (s1.head? == some 45) = false := by simpa using h45
      have GK := hid (fun u (hat : At u rb v s s1) => takeNo hat hs 45 hno)
      rw [show ((45 : UInt8).toNat : Int) = 45 from rfl] at GK
      have hi : itemP q = some (a, a, s1) := by unfold itemP; rw [e1]; simp [h45]
      have GS := hid (fun u => spanC a a u ha ha)
      rw [hi]
      show Calls _ _ _ _ fun e w' => (e = .returned (valB (spanB a a)) ∧ At w' rb v s s1) ∧ Kept (oneBlk rb) w w'
      clear e1 GT hi h h45 hno
      generalize spanB a a = R at GS ⊢
      obtain ⟨r0, r1, r2, r3⟩ := R
      go_enter Tryz.func164, Tryz.ntmps164
      go_wp2_with (first
        | (go_at_call 163; refine (GT1.out _ h1.out).mono ?_; intro e w1 hw1; obtain ⟨he1, hat1, hk1⟩ := hw1.yes; subst he1; have hat1 := hid hat1; have b1 := hid (b0.out.kept hk1 hne))
        | (go_at_call 133; refine (GK.out _ hat1.out).mono ?_; rintro e w2 ⟨rfl, hb2⟩)
        | (go_at_call 131; refine (GS.out _).mono ?_; rintro e w4 ⟨rfl, hb4⟩; have b4 := hid ((b1.out.keep hb2).keep hb4); have hat4 := hid ((hat1.out.keep hb2).keep hb4); obtain ⟨z0, z1, z2, z3, z4, z5, z6, z7⟩ := Blk.cells (sa := 0) (sb := 0) (sc := 0) (sd := 0) b4.out))
      refine bodyPost_ret (v := .agg #[.int .u64 r0, .int .u64 r1, .int .u64 r2, .int .u64 r3]) (by simp [results, Tryz.results164, go_sem, z0, z1, z2, z3]) rfl ⟨⟨rfl, ?_⟩, ?_⟩
      · exact hat4.out.put4 ⟨r0, r1, r2, r3⟩ (by omega)
      · exact kept_put4 (((k0.out.trans hk1).trans (Kept.of_below hb2)).trans (Kept.of_below hb4)) ⟨r0, r1, r2, r3⟩ (fun h => by omega)

end Go.Proofs.YtcledgljbmepaaaGreatDoor
namespace Go.Proofs.YtcledgljbmepaaaGreatDoor
open Go.RowKit

end Go.Proofs.YtcledgljbmepaaaGreatDoor
