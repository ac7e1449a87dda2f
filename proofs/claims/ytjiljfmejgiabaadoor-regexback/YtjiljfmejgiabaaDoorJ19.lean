/- The reader: escaped, told. Span of package bytes. -/
import Derived.Test.YtjiljfmejgiabaaDoorJ11
import Derived.Test.YtjiljfmejgiabaaDoorJ15
import Derived.Deep.RegionHeld3
namespace Go.Proofs.YtjiljfmejgiabaaDoor
open Go.RowKit

theorem escF_hex (r : Txt) : escF (120 :: r) = match hexP r with
    | none => none
    | some (a, r1) => match hexP r1 with
      | none => none
      | some (b, q) => some (16 * a + b, q) := by
  show (match r with
      | x :: y :: q => match hexF x, hexF y with
        | some a, some b => some (16 * a + b, q)
        | _, _ => none
      | _ => none) = _
  cases r with
  | nil => rfl
  | cons x r =>
    cases r with
    | nil => cases hx : hexF x <;> simp [hexP, hx]
    | cons y q => cases hx : hexF x <;> cases hy : hexF y <;> simp [hexP, hx, hy]
theorem hexP_lt {q r : Txt} {a : Nat} (h : hexP q = some (a, r)) : a < 16 := by
  cases q with
  | nil => cases h
  | cons c q =>
    cases hx : hexF c with
    | none => simp [hexP, hx] at h
    | some b =>
      simp [hexP, hx] at h
      have := hex_lt _ _ hx
      omega

set_option maxHeartbeats 2000000 in
theorem escapedC {w : World} {rb : Nat} {v : Value} {s q : Txt} (h : At w rb v s q) (hs : s.length ≤ 200) (p : Int) :
    Calls Tryd.prog 70 #[.pointer (some ⟨rb, 0, none⟩), .int .i64 p] w (Said p (escF q) w rb v s) := by
  cases q with
  | nil =>
    have G := hid (nextNo h hs p)
    clear h
    go_enter Tryd.func70, Tryd.ntmps70
    go_wp2_with (go_at_call 69; refine G.out.mono ?_; rintro e w1 ⟨rfl, hb1⟩)
    exact ⟨rfl, rfl, Kept.of_below hb1⟩
  | cons c r =>
    have G := hid (nextYes h hs p)
    clear h
    by_cases h1 : c = 110
    · subst h1
      rw [show escF (110 :: r) = some (10, r) from rfl]
      rw [show ((110 : UInt8).toNat : Int) = 110 from rfl] at G
      go_enter Tryd.func70, Tryd.ntmps70
      go_wp2_with (go_at_call 69; refine G.out.mono ?_; rintro e w1 ⟨rfl, hat, hk⟩; have hat := hid hat)
      go_ret
      exact ⟨⟨rfl, hat.out⟩, hk⟩
    by_cases h2 : c = 116
    · subst h2
      rw [show escF (116 :: r) = some (9, r) from rfl]
      rw [show ((116 : UInt8).toNat : Int) = 116 from rfl] at G
      go_enter Tryd.func70, Tryd.ntmps70
      go_wp2_with (go_at_call 69; refine G.out.mono ?_; rintro e w1 ⟨rfl, hat, hk⟩; have hat := hid hat)
      go_ret
      exact ⟨⟨rfl, hat.out⟩, hk⟩
    by_cases h3 : c = 114
    · subst h3
      rw [show escF (114 :: r) = some (13, r) from rfl]
      rw [show ((114 : UInt8).toNat : Int) = 114 from rfl] at G
      go_enter Tryd.func70, Tryd.ntmps70
      go_wp2_with (go_at_call 69; refine G.out.mono ?_; rintro e w1 ⟨rfl, hat, hk⟩; have hat := hid hat)
      go_ret
      exact ⟨⟨rfl, hat.out⟩, hk⟩
    by_cases h4 : c = 120
    · subst h4
      rw [escF_hex]
      rw [show ((120 : UInt8).toNat : Int) = 120 from rfl] at G
      have GD := hid (fun u q (hat : At u rb v s q) => digitC hat hs p)
      clear h1 h2 h3
      cases e1 : hexP r with
      | none =>
        have GD1 := hid (fun u (hat : At u rb v s r) => (show Calls _ _ _ _ (Said p none u rb v s) by have := GD.out u r hat; rwa [e1] at this))
        clear e1 GD
        go_enter Tryd.func70, Tryd.ntmps70
        go_wp2_with (first
          | (go_at_call 69; refine G.out.mono ?_; rintro e w1 ⟨rfl, hat, hk⟩; have hat := hid hat)
          | (go_at_call 71; refine (GD1.out _ hat.out).mono ?_; intro e w2 hw2; obtain ⟨he2, hk2⟩ := hw2.no; subst he2))
        exact ⟨rfl, rfl, hk.trans hk2⟩
      | some x =>
        obtain ⟨a, r1⟩ := x
        have ha := hexP_lt e1
        have GD1 := hid (fun u (hat : At u rb v s r) => (show Calls _ _ _ _ (Said p (some (a, r1)) u rb v s) by have := GD.out u r hat; rwa [e1] at this))
        show Calls _ _ _ _ (Said p (match hexP r1 with | none => none | some (b, q) => some (16 * a + b, q)) w rb v s)
        cases e2 : hexP r1 with
        | none =>
          have GD2 := hid (fun u (hat : At u rb v s r1) => (show Calls _ _ _ _ (Said p none u rb v s) by have := GD.out u r1 hat; rwa [e2] at this))
          clear e1 e2 GD
          go_enter Tryd.func70, Tryd.ntmps70
          go_wp2_with (first
            | (go_at_call 69; refine G.out.mono ?_; rintro e w1 ⟨rfl, hat, hk⟩; have hat := hid hat)
            | (go_at_call 71; refine (GD2.out _ hat2.out).mono ?_; intro e w3 hw3; obtain ⟨he3, hk3⟩ := hw3.no; subst he3)
            | (go_at_call 71; refine (GD1.out _ hat.out).mono ?_; intro e w2 hw2; obtain ⟨he2, hat2, hk2⟩ := hw2.yes; subst he2; have hat2 := hid hat2))
          exact ⟨rfl, rfl, (hk.trans hk2).trans hk3⟩
        | some y =>
          obtain ⟨b, r2⟩ := y
          have hb := hexP_lt e2
          have GD2 := hid (fun u (hat : At u rb v s r1) => (show Calls _ _ _ _ (Said p (some (b, r2)) u rb v s) by have := GD.out u r1 hat; rwa [e2] at this))
          clear e1 e2 GD
          have haz : (a : Int) ≤ 15 := by omega
          have hbz : (b : Int) ≤ 15 := by omega
          go_enter Tryd.func70, Tryd.ntmps70
          go_wp2_with (first
            | (go_at_call 69; refine G.out.mono ?_; rintro e w1 ⟨rfl, hat, hk⟩; have hat := hid hat)
            | (go_at_call 71; refine (GD2.out _ hat2.out).mono ?_; intro e w3 hw3; obtain ⟨he3, hat3, hk3⟩ := hw3.yes; subst he3; have hat3 := hid hat3)
            | (go_at_call 71; refine (GD1.out _ hat.out).mono ?_; intro e w2 hw2; obtain ⟨he2, hat2, hk2⟩ := hw2.yes; subst he2; have hat2 := hid hat2))
          go_ret
          exact ⟨⟨ret_u8 (by omega), hat3.out⟩, (hk.trans hk2).trans hk3⟩
    have e : escF (c :: r) = if escD c then some (c.toNat, r) else none := by
      simp only [escF]
      rw [if_neg h1, if_neg h2, if_neg h3, if_neg h4]
    rw [e]
    have hn := c.toNat_lt
    have n1 : ¬ c.toNat = 110 := fun h => h1 (UInt8.toNat_inj.1 h)
    have n2 : ¬ c.toNat = 116 := fun h => h2 (UInt8.toNat_inj.1 h)
    have n3 : ¬ c.toNat = 114 := fun h => h3 (UInt8.toNat_inj.1 h)
    have n4 : ¬ c.toNat = 120 := fun h => h4 (UInt8.toNat_inj.1 h)
    have GI := hid (fun u => idxC bothS (c.toNat : Int) u)
    rw [toU8] at GI
    have hh := tells_both c.toNat hn
    have hle := Lib.indexByte_ge bothS.data.toList (UInt8.ofNat c.toNat)
    rw [show UInt8.ofNat c.toNat = c by simp] at GI hh hle
    generalize Lib.indexByte bothS.data.toList c = z at GI hh hle
    clear e h1 h2 h3 h4
    generalize c.toNat = n at G GI n1 n2 n3 n4 hn ⊢
    have c1 : ((n : Int) == 110) = false := beq_eq_false_iff_ne.2 (by omega)
    have c2 : ((n : Int) == 116) = false := beq_eq_false_iff_ne.2 (by omega)
    have c3 : ((n : Int) == 114) = false := beq_eq_false_iff_ne.2 (by omega)
    have c4 : ((n : Int) == 120) = false := beq_eq_false_iff_ne.2 (by omega)
    cases hd : escD c with
    | true =>
      rw [hd] at hh
      have hz : ¬ z < 0 := by simpa using hh
      rw [if_pos rfl]
      clear hh hd
      go_enter Tryd.func70, Tryd.ntmps70
      go_wp2_with (first
        | (go_at_call 69; refine G.out.mono ?_; rintro e w1 ⟨rfl, hat, hk⟩; have hat := hid hat)
        | (go_at_call 57; refine (GI.out _).mono ?_; rintro e u1 ⟨rfl, hu⟩; subst u1))
      go_ret
      exact ⟨⟨rfl, hat.out⟩, hk⟩
    | false =>
      rw [hd] at hh
      have hz : z < 0 := by simpa using hh
      rw [if_neg Bool.false_ne_true]
      clear hh hd
      go_enter Tryd.func70, Tryd.ntmps70
      go_wp2_with (first
        | (go_at_call 69; refine G.out.mono ?_; rintro e w1 ⟨rfl, hat, hk⟩; have hat := hid hat)
        | (go_at_call 57; refine (GI.out _).mono ?_; rintro e u1 ⟨rfl, hu⟩; subst u1))
      exact ⟨rfl, rfl, hk⟩

/-- the place at which what is left begins -/
def plc (s q : Txt) : Int := (s.length : Int) - q.length
theorem At.place {w : World} {rb : Nat} {v : Value} {s q : Txt} (h : At w rb v s q) : w.cell? ⟨rb, 1, none⟩ = some (.int .i64 (plc s q)) := by
  obtain ⟨pre, hp, hb⟩ := h
  obtain ⟨c0, c1, c2, c3, c4⟩ := rd3 hb
  rw [c1]
  unfold plc
  rw [hp]
  simp

set_option maxHeartbeats 2000000 in
theorem toldC {w : World} {rb : Nat} {v : Value} {s q : Txt} (h : At w rb v s q) (hs : s.length ≤ 200) (S : ByteArray) (left : UInt8 → Bool) (hT : Tells S fun c => left c || c == 92) :
    Calls Tryd.prog 65 #[.pointer (some ⟨rb, 0, none⟩), .string S] w (Said (plc s q) (signF left q) w rb v s) := by
  have hpl := h.place
  generalize plc s q = p at hpl ⊢
  cases q with
  | nil =>
    have G := hid (nextNo h hs p)
    clear h
    go_enter Tryd.func65, Tryd.ntmps65
    go_wp2_with (go_at_call 69; refine G.out.mono ?_; rintro e w1 ⟨rfl, hb1⟩)
    exact ⟨rfl, rfl, Kept.of_below hb1⟩
  | cons c r =>
    have G := hid (nextYes h hs p)
    clear h
    by_cases h1 : c = 92
    · subst h1
      rw [show signF left (92 :: r) = escF r from rfl]
      rw [show ((92 : UInt8).toNat : Int) = 92 from rfl] at G
      have GE := hid (fun u (hat : At u rb v s r) => escapedC hat hs p)
      cases e1 : escF r with
      | none =>
        rw [e1] at GE
        clear e1
        go_enter Tryd.func65, Tryd.ntmps65
        go_wp2_with (first
          | (go_at_call 69; refine G.out.mono ?_; rintro e w1 ⟨rfl, hat, hk⟩; have hat := hid hat)
          | (go_at_call 70; refine (GE.out _ hat.out).mono ?_; intro e w2 hw2; obtain ⟨he2, hk2⟩ := hw2.no; subst he2))
        exact ⟨rfl, rfl, hk.trans hk2⟩
      | some x =>
        obtain ⟨b, r1⟩ := x
        rw [e1] at GE
        clear e1
        go_enter Tryd.func65, Tryd.ntmps65
        go_wp2_with (first
          | (go_at_call 69; refine G.out.mono ?_; rintro e w1 ⟨rfl, hat, hk⟩; have hat := hid hat)
          | (go_at_call 70; refine (GE.out _ hat.out).mono ?_; intro e w2 hw2; obtain ⟨he2, hat2, hk2⟩ := hw2.yes; subst he2; have hat2 := hid hat2))
        go_ret
        exact ⟨⟨rfl, hat2.out⟩, hk.trans hk2⟩
    · have hn := c.toNat_lt
      have n1 : ¬ c.toNat = 92 := fun h => h1 (UInt8.toNat_inj.1 h)
      have GP := hid (fun u => plainC c.toNat S _ u hn hT)
      have e : signF left (c :: r) = if plainB c.toNat (fun c => left c || c == 92) then some (c.toNat, r) else none := by
        have hpb : plainB c.toNat (fun c => left c || c == 92) = (decide (32 ≤ c.toNat ∧ c.toNat ≤ 126) && !left c) := by
          show (decide (32 ≤ c.toNat ∧ c.toNat ≤ 126) && !(left (UInt8.ofNat c.toNat) || UInt8.ofNat c.toNat == 92)) = _
          rw [show UInt8.ofNat c.toNat = c by simp, show (c == 92) = false from beq_eq_false_iff_ne.2 h1, Bool.or_false]
        rw [hpb]
        simp only [signF]
        rw [if_neg h1]
        have hlt : (c < 32 ∨ 126 < c) ↔ ¬ (32 ≤ c.toNat ∧ c.toNat ≤ 126) := by
          rw [UInt8.lt_iff_toNat_lt, UInt8.lt_iff_toNat_lt]
          simp
          omega
        by_cases hv : 32 ≤ c.toNat ∧ c.toNat ≤ 126
        · rw [if_neg (fun h => (hlt.1 h) hv), decide_eq_true hv]
          cases left c <;> rfl
        · rw [if_pos (hlt.2 hv), decide_eq_false hv]
          rfl
      rw [e]
      clear e h1 hT
      generalize plainB c.toNat (fun c => left c || c == 92) = pb at GP ⊢
      generalize c.toNat = n at G GP n1 hn ⊢
      have c1 : ((n : Int) == 92) = false := beq_eq_false_iff_ne.2 (by omega)
      cases pb with
      | true =>
        rw [if_pos rfl]
        go_enter Tryd.func65, Tryd.ntmps65
        go_wp2_with (first
          | (go_at_call 69; refine G.out.mono ?_; rintro e w1 ⟨rfl, hat, hk⟩; have hat := hid hat)
          | (go_at_call 44; refine (GP.out _).mono ?_; rintro e u1 ⟨rfl, hu⟩; subst u1))
        go_ret
        exact ⟨⟨rfl, hat.out⟩, hk⟩
      | false =>
        rw [if_neg Bool.false_ne_true]
        go_enter Tryd.func65, Tryd.ntmps65
        go_wp2_with (first
          | (go_at_call 69; refine G.out.mono ?_; rintro e w1 ⟨rfl, hat, hk⟩; have hat := hid hat)
          | (go_at_call 44; refine (GP.out _).mono ?_; rintro e u1 ⟨rfl, hu⟩; subst u1))
        exact ⟨rfl, rfl, hk⟩

end Go.Proofs.YtjiljfmejgiabaaDoor
namespace Go.Proofs.YtjiljfmejgiabaaDoor
open Go.RowKit

/-- a set to which those for which something holds are put, up to a byte -/
def addN (S : W4) (p : Nat → Bool) : Nat → W4
  | 0 => S
  | k + 1 => if p k then putB (addN S p k) k else addN S p k
theorem addN_zero (S : W4) (p : Nat → Bool) : addN S p 0 = S := rfl
theorem addN_yes {S : W4} {p : Nat → Bool} {k : Nat} (h : p k = true) : addN S p (k + 1) = putB (addN S p k) k := by rw [addN, if_pos h]
theorem addN_no {S : W4} {p : Nat → Bool} {k : Nat} (h : p k = false) : addN S p (k + 1) = addN S p k := by rw [addN, if_neg (by rw [h]; exact Bool.false_ne_true)]
theorem addN_fit {S : W4} (h : Fit4 S) (p : Nat → Bool) : ∀ k, Fit4 (addN S p k)
  | 0 => h
  | k + 1 => by
    unfold addN
    cases p k with
    | true => simpa using putB_fit (addN_fit h p k) k
    | false => simpa using addN_fit h p k
theorem addN_has (S : W4) (p : Nat → Bool) : ∀ k, k ≤ 256 → ∀ x, x < 256 → hasB (addN S p k) x = (hasB S x || (decide (x < k) && p x))
  | 0, _, x, _ => by rw [addN]; simp
  | k + 1, hk, x, hx => by
    have ih := addN_has S p k (by omega) x hx
    unfold addN
    by_cases e : x = k
    · subst e
      cases hp : p x with
      | true => simp [putB_has _ x x hx hx]
      | false => simp [ih]
    · have h1 : decide (x < k + 1) = decide (x < k) := by rw [decide_eq_decide]; omega
      rw [h1, ← ih]
      cases p k with
      | true => simp [putB_has _ k x (by omega) hx, e]
      | false => simp
theorem addN_all {S : W4} (h : Fit4 S) (p : Nat → Bool) : addN S p 256 = mkB fun x => hasB S x || p x :=
  mkB_eq (addN_fit h p 256) fun x hx => by rw [addN_has S p 256 (Nat.le_refl _) x hx]; simp [hx]
theorem addN_none (p : Nat → Bool) : addN noneB p 256 = mkB p := by
  rw [addN_all noneB_fit]
  exact mkB_congr fun x _ => by rw [noneB_has]; rfl

theorem span_low (f k : Nat) (h : k ≤ f) (hf : f ≤ 256) : addN noneB (fun x => decide (f ≤ x)) k = noneB :=
  set_ext (addN_fit noneB_fit _ _) noneB_fit fun x hx => by
    rw [addN_has _ _ k (by omega) x hx, noneB_has]
    have : (decide (x < k) && decide (f ≤ x)) = false := by
      by_cases h1 : x < k
      · have h2 : ¬ f ≤ x := by omega
        simp [h2]
      · simp [h1]
    rw [this]; rfl
theorem span_end (f t k : Nat) (ht : t < 256) (h : k = t + 1 ∨ (t < f ∧ k = f)) (hf : f < 256) : addN noneB (fun x => decide (f ≤ x)) k = spanB f t := by
  refine mkB_eq (addN_fit noneB_fit _ _) fun x hx => ?_
  rw [addN_has _ _ k (by omega) x hx, noneB_has, Bool.false_or, Bool.eq_iff_iff]
  simp only [Bool.and_eq_true, decide_eq_true_eq]
  omega

theorem set_w (S : W4) (i v x : Nat) (hi : i < 4) (hx : x < 256) : hasB (S.set i v) x = if x / 64 = i then v.testBit (x % 64) else hasB S x := by
  unfold hasB
  by_cases e : x / 64 = i
  · rw [if_pos e, e, W4.set_same]
  · rw [if_neg e, W4.set_other _ _ _ _ hi (by omega) e]
/-- one more, by an or -/
theorem putB_or {Q : W4} (hQ : Fit4 Q) (k : Nat) (hk : k < 256) : putB Q k = Q.set (k / 64) (Q.w (k / 64) ||| 2 ^ (k % 64)) := by
  have h2 : 2 ^ (k % 64) < 18446744073709551616 := Nat.pow_lt_pow_right (a := 2) (by omega) (by omega : k % 64 < 64)
  refine set_ext (putB_fit hQ k) (hQ.set _ _ (Nat.or_lt_two_pow (n := 64) (hQ.w _) h2)) fun x hx => ?_
  rw [putB_has Q k x hk hx, set_w _ _ _ _ (by omega) hx, Nat.testBit_or, Nat.testBit_two_pow]
  by_cases e : x / 64 = k / 64
  · rw [if_pos e, ← e]
    unfold hasB
    congr 1
    rw [decide_eq_decide]
    omega
  · rw [if_neg e]
    have : ¬ x = k := fun h => e (by rw [h])
    simp [this]

set_option maxHeartbeats 4000000 in
theorem spanC (f t : Nat) (w : World) (hf : f < 256) (ht : t < 256) :
    Calls Tryd.prog 52 #[.int .u8 (f : Int), .int .u8 (t : Int)] w fun e w' => e = .returned (valB (spanB f t)) ∧ Below w.heap.size w w' := by
  obtain ⟨p, hp⟩ : ∃ p : Nat → Bool, Hid (p = fun x => decide (f ≤ x)) := ⟨_, hid rfl⟩
  obtain ⟨R, hR⟩ : ∃ R, Hid (spanB f t = R) := ⟨_, hid rfl⟩
  have hlast : Hid (∀ k, (k = t + 1 ∨ (t < f ∧ k = f)) → addN noneB p k = R) := hid (fun k hk => by rw [hp.out, ← hR.out]; exact span_end f t k ht hk hf)
  have hfirst : Hid (addN noneB p f = noneB) := hid (by rw [hp.out]; exact span_low f f (Nat.le_refl _) (by omega))
  have hyes : Hid (∀ k, f ≤ k → p k = true) := hid (fun k hk => by rw [hp.out]; exact decide_eq_true hk)
  rw [show spanB f t = R from hR.out]
  have hfit := hid (addN_fit noneB_fit p)
  obtain ⟨ra, rb, rc, rd⟩ := R
  clear hR hp
  go_enter Tryd.func52, Tryd.ntmps52
  go_wp2
  go_loopw [6] (fun i wr => ∃ k : Nat, f ≤ k ∧ (k ≤ t + 1 ∨ k = f) ∧ i = .int .i64 k ∧ Hid (Blk wr w.heap.size noneB) ∧ Hid (Blk wr (w.heap.size + 1) (addN noneB p k)) ∧ Below w.heap.size w wr) (fun i _ => 256 - (intOf i).toNat)
  case atStart => exact ⟨f, Nat.le_refl _, Or.inr rfl, by go_num, hid (two_blocks w _ _).1, by rw [hfirst.out]; exact hid (two_blocks w _ _).2, bl_step (al' w _) (al' _ _)⟩
  case round =>
    obtain ⟨k, hk, hk2, rfl, bR0, bO0, hbl⟩ := hrel
    have htw : IntKind.i64.wrap (t : Int) = (t : Int) := by rw [IntKind.wrap_i64]; omega
    by_cases hlt : k ≤ t
    · have hltz : (k : Int) ≤ (t : Int) := by omega
      have hQ := hid (hfit.out k)
      have hy := @addN_yes noneB p k (hyes.out k hk)
      generalize addN noneB p k = Q at hQ hy bO0
      rw [putB_or hQ.out k (by omega)] at hy
      have hk8 : IntKind.u8.wrap (k : Int) = (k : Int) := by rw [IntKind.wrap_u8]; omega
      have hqz : (k : Int) / 64 = ((k / 64 : Nat) : Int) := by omega
      have hql : k / 64 = 0 ∨ k / 64 = 1 ∨ k / 64 = 2 ∨ k / 64 = 3 := by omega
      have GB := hid (fun u => bitC k u (by omega))
      have hm : 2 ^ (k % 64) < 18446744073709551616 := Nat.pow_lt_pow_right (a := 2) (by omega) (by omega : k % 64 < 64)
      generalize 2 ^ (k % 64) = m at hy GB hm
      generalize k / 64 = q at hy hqz hql
      have hbd : Below wr.heap.size wr wr.drew := (Below.refl _ _).drew
      have bR1 := hid (bR0.out.keep hbd)
      have bO1 := hid (bO0.out.keep hbd)
      have hbl1 := bl_step hbl hbd
      obtain ⟨a, b, c, d⟩ := Q
      obtain ⟨o0, o1, o2, o3, o4, o5, o6, o7⟩ := bO1.out.cells
      clear hfit hyes hlast
      rcases hql with rfl | rfl | rfl | rfl
      · have hor := u64_or_nat a m hQ.out.a hm
        have hy' : Hid (addN noneB p (k + 1) = ⟨a ||| m, b, c, d⟩) := hid hy
        generalize a ||| m = n at hor hy'
        clear hy hm
        have bO2 : Hid (Blk (wr.drew.setCell ⟨w.heap.size + 1, 0, none⟩ (.int .u64 (n : Int))) (w.heap.size + 1) ⟨n, b, c, d⟩) := hid (heap_setCell bO1.out)
        have bR2 : Hid (Blk (wr.drew.setCell ⟨w.heap.size + 1, 0, none⟩ (.int .u64 (n : Int))) w.heap.size noneB) := hid ((Below.heap_setCell _ _ _ _ (by simp)).trans bR1.out)
        go_wp2_with fail
        go_region_with (first
          | (go_at_call 58; refine (GB.out _).mono ?_; rintro e u1 ⟨rfl, hu⟩; subst u1)
          | fail)
        all_goals
          go_wp2
          exact ⟨⟨k + 1, by omega, by omega, by go_num, bR2, by rw [hy'.out]; exact bO2, bl_set hbl1 _ _ _ (by omega)⟩, by simp [intOf]; omega⟩
      · have hor := u64_or_nat b m hQ.out.b hm
        have hy' : Hid (addN noneB p (k + 1) = ⟨a, b ||| m, c, d⟩) := hid hy
        generalize b ||| m = n at hor hy'
        clear hy hm
        have bO2 : Hid (Blk (wr.drew.setCell ⟨w.heap.size + 1, 1, none⟩ (.int .u64 (n : Int))) (w.heap.size + 1) ⟨a, n, c, d⟩) := hid (heap_setCell bO1.out)
        have bR2 : Hid (Blk (wr.drew.setCell ⟨w.heap.size + 1, 1, none⟩ (.int .u64 (n : Int))) w.heap.size noneB) := hid ((Below.heap_setCell _ _ _ _ (by simp)).trans bR1.out)
        go_wp2_with fail
        go_region_with (first
          | (go_at_call 58; refine (GB.out _).mono ?_; rintro e u1 ⟨rfl, hu⟩; subst u1)
          | fail)
        all_goals
          go_wp2
          exact ⟨⟨k + 1, by omega, by omega, by go_num, bR2, by rw [hy'.out]; exact bO2, bl_set hbl1 _ _ _ (by omega)⟩, by simp [intOf]; omega⟩
      · have hor := u64_or_nat c m hQ.out.c hm
        have hy' : Hid (addN noneB p (k + 1) = ⟨a, b, c ||| m, d⟩) := hid hy
        generalize c ||| m = n at hor hy'
        clear hy hm
        have bO2 : Hid (Blk (wr.drew.setCell ⟨w.heap.size + 1, 2, none⟩ (.int .u64 (n : Int))) (w.heap.size + 1) ⟨a, b, n, d⟩) := hid (heap_setCell bO1.out)
        have bR2 : Hid (Blk (wr.drew.setCell ⟨w.heap.size + 1, 2, none⟩ (.int .u64 (n : Int))) w.heap.size noneB) := hid ((Below.heap_setCell _ _ _ _ (by simp)).trans bR1.out)
        go_wp2_with fail
        go_region_with (first
          | (go_at_call 58; refine (GB.out _).mono ?_; rintro e u1 ⟨rfl, hu⟩; subst u1)
          | fail)
        all_goals
          go_wp2
          exact ⟨⟨k + 1, by omega, by omega, by go_num, bR2, by rw [hy'.out]; exact bO2, bl_set hbl1 _ _ _ (by omega)⟩, by simp [intOf]; omega⟩
      · have hor := u64_or_nat d m hQ.out.d hm
        have hy' : Hid (addN noneB p (k + 1) = ⟨a, b, c, d ||| m⟩) := hid hy
        generalize d ||| m = n at hor hy'
        clear hy hm
        have bO2 : Hid (Blk (wr.drew.setCell ⟨w.heap.size + 1, 3, none⟩ (.int .u64 (n : Int))) (w.heap.size + 1) ⟨a, b, c, n⟩) := hid (heap_setCell bO1.out)
        have bR2 : Hid (Blk (wr.drew.setCell ⟨w.heap.size + 1, 3, none⟩ (.int .u64 (n : Int))) w.heap.size noneB) := hid ((Below.heap_setCell _ _ _ _ (by simp)).trans bR1.out)
        go_wp2_with fail
        go_region_with (first
          | (go_at_call 58; refine (GB.out _).mono ?_; rintro e u1 ⟨rfl, hu⟩; subst u1)
          | fail)
        all_goals
          go_wp2
          exact ⟨⟨k + 1, by omega, by omega, by go_num, bR2, by rw [hy'.out]; exact bO2, bl_set hbl1 _ _ _ (by omega)⟩, by simp [intOf]; omega⟩
    · have hltz : ¬ (k : Int) ≤ (t : Int) := by omega
      rw [hlast.out k (by omega)] at bO0
      obtain ⟨o0, o1, o2, o3, o4, o5, o6, o7⟩ := bO0.out.cells
      obtain ⟨r0, r1, r2, r3, r4, r5, r6, r7⟩ := Blk.cells (sa := 0) (sb := 0) (sc := 0) (sd := 0) bR0.out
      clear hfit hyes
      go_wp2
      refine bodyPost_ret (v := .agg #[.int .u64 ra, .int .u64 rb, .int .u64 rc, .int .u64 rd]) (by simp [results, Tryd.results52, go_sem, r0, r1, r2, r3]) rfl ⟨rfl, bl_put hbl ⟨ra, rb, rc, rd⟩ (by omega)⟩


end Go.Proofs.YtjiljfmejgiabaaDoor
