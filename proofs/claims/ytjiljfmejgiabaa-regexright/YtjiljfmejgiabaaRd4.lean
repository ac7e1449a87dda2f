/- The reader: escaped, told. -/
import Derived.Test.YtjiljfmejgiabaaRd3
namespace Go.Proofs.Ytjiljfmejgiabaa
open Go.RowKit

theorem escF_hex (r : Txt) : escF (120 :: r) = match hexP r with
    | none => none
    | some (a, r1) => match hexP r1 with
      | none => none
      | some (b, q) => some (16 * a + b, q) := by
  show (match r with
      | x :: y :: q => match hexF x, hexF y with
        | some a, some b => some (16 * a + b, q)
        | _, _ => none
      | _ => none) = _
  cases r with
  | nil => rfl
  | cons x r =>
    cases r with
    | nil => cases hx : hexF x <;> simp [hexP, hx]
    | cons y q => cases hx : hexF x <;> cases hy : hexF y <;> simp [hexP, hx, hy]
theorem hexP_lt {q r : Txt} {a : Nat} (h : hexP q = some (a, r)) : a < 16 := by
  cases q with
  | nil => cases h
  | cons c q =>
    cases hx : hexF c with
    | none => simp [hexP, hx] at h
    | some b =>
      simp [hexP, hx] at h
      have := hex_lt _ _ hx
      omega

set_option maxHeartbeats 2000000 in
theorem escapedC {w : World} {rb : Nat} {v : Value} {s q : Txt} (h : At w rb v s q) (hs : s.length ≤ 200) (p : Int) :
    Calls Try.prog 41 #[.pointer (some ⟨rb, 0, none⟩), .int .i64 p] w (Said p (escF q) w rb v s) := by
  cases q with
  | nil =>
    have G := hid (nextNo h hs p)
    clear h
    go_enter Try.func41, Try.ntmps41
    go_wp2_with (go_at_call 40; refine G.out.mono ?_; rintro e w1 ⟨rfl, hb1⟩)
    exact ⟨rfl, rfl, Kept.of_below hb1⟩
  | cons c r =>
    have G := hid (nextYes h hs p)
    clear h
    by_cases h1 : c = 110
    · subst h1
      rw [show escF (110 :: r) = some (10, r) from rfl]
      rw [show ((110 : UInt8).toNat : Int) = 110 from rfl] at G
      go_enter Try.func41, Try.ntmps41
      go_wp2_with (go_at_call 40; refine G.out.mono ?_; rintro e w1 ⟨rfl, hat, hk⟩; have hat := hid hat)
      go_ret
      exact ⟨⟨rfl, hat.out⟩, hk⟩
    by_cases h2 : c = 116
    · subst h2
      rw [show escF (116 :: r) = some (9, r) from rfl]
      rw [show ((116 : UInt8).toNat : Int) = 116 from rfl] at G
      go_enter Try.func41, Try.ntmps41
      go_wp2_with (go_at_call 40; refine G.out.mono ?_; rintro e w1 ⟨rfl, hat, hk⟩; have hat := hid hat)
      go_ret
      exact ⟨⟨rfl, hat.out⟩, hk⟩
    by_cases h3 : c = 114
    · subst h3
      rw [show escF (114 :: r) = some (13, r) from rfl]
      rw [show ((114 : UInt8).toNat : Int) = 114 from rfl] at G
      go_enter Try.func41, Try.ntmps41
      go_wp2_with (go_at_call 40; refine G.out.mono ?_; rintro e w1 ⟨rfl, hat, hk⟩; have hat := hid hat)
      go_ret
      exact ⟨⟨rfl, hat.out⟩, hk⟩
    by_cases h4 : c = 120
    · subst h4
      rw [escF_hex]
      rw [show ((120 : UInt8).toNat : Int) = 120 from rfl] at G
      have GD := hid (fun u q (hat : At u rb v s q) => digitC hat hs p)
      clear h1 h2 h3
      cases e1 : hexP r with
      | none =>
        have GD1 := hid (fun u (hat : At u rb v s r) => (show Calls _ _ _ _ (Said p none u rb v s) by have := GD.out u r hat; rwa [e1] at this))
        clear e1 GD
        go_enter Try.func41, Try.ntmps41
        go_wp2_with (first
          | (go_at_call 40; refine G.out.mono ?_; rintro e w1 ⟨rfl, hat, hk⟩; have hat := hid hat)
          | (go_at_call 44; refine (GD1.out _ hat.out).mono ?_; intro e w2 hw2; obtain ⟨he2, hk2⟩ := hw2.no; subst he2))
        exact ⟨rfl, rfl, hk.trans hk2⟩
      | some x =>
        obtain ⟨a, r1⟩ := x
        have ha := hexP_lt e1
        have GD1 := hid (fun u (hat : At u rb v s r) => (show Calls _ _ _ _ (Said p (some (a, r1)) u rb v s) by have := GD.out u r hat; rwa [e1] at this))
        show Calls _ _ _ _ (Said p (match hexP r1 with | none => none | some (b, q) => some (16 * a + b, q)) w rb v s)
        cases e2 : hexP r1 with
        | none =>
          have GD2 := hid (fun u (hat : At u rb v s r1) => (show Calls _ _ _ _ (Said p none u rb v s) by have := GD.out u r1 hat; rwa [e2] at this))
          clear e1 e2 GD
          go_enter Try.func41, Try.ntmps41
          go_wp2_with (first
            | (go_at_call 40; refine G.out.mono ?_; rintro e w1 ⟨rfl, hat, hk⟩; have hat := hid hat)
            | (go_at_call 44; refine (GD2.out _ hat2.out).mono ?_; intro e w3 hw3; obtain ⟨he3, hk3⟩ := hw3.no; subst he3)
            | (go_at_call 44; refine (GD1.out _ hat.out).mono ?_; intro e w2 hw2; obtain ⟨he2, hat2, hk2⟩ := hw2.yes; subst he2; have hat2 := hid hat2))
          exact ⟨rfl, rfl, (hk.trans hk2).trans hk3⟩
        | some y =>
          obtain ⟨b, r2⟩ := y
          have hb := hexP_lt e2
          have GD2 := hid (fun u (hat : At u rb v s r1) => (show Calls _ _ _ _ (Said p (some (b, r2)) u rb v s) by have := GD.out u r1 hat; rwa [e2] at this))
          clear e1 e2 GD
          have haz : (a : Int) ≤ 15 := by omega
          have hbz : (b : Int) ≤ 15 := by omega
          go_enter Try.func41, Try.ntmps41
          go_wp2_with (first
            | (go_at_call 40; refine G.out.mono ?_; rintro e w1 ⟨rfl, hat, hk⟩; have hat := hid hat)
            | (go_at_call 44; refine (GD2.out _ hat2.out).mono ?_; intro e w3 hw3; obtain ⟨he3, hat3, hk3⟩ := hw3.yes; subst he3; have hat3 := hid hat3)
            | (go_at_call 44; refine (GD1.out _ hat.out).mono ?_; intro e w2 hw2; obtain ⟨he2, hat2, hk2⟩ := hw2.yes; subst he2; have hat2 := hid hat2))
          go_ret
          exact ⟨⟨ret_u8 (by omega), hat3.out⟩, (hk.trans hk2).trans hk3⟩
    have e : escF (c :: r) = if escD c then some (c.toNat, r) else none := by
      simp only [escF]
      rw [if_neg h1, if_neg h2, if_neg h3, if_neg h4]
    rw [e]
    have hn := c.toNat_lt
    have n1 : ¬ c.toNat = 110 := fun h => h1 (UInt8.toNat_inj.1 h)
    have n2 : ¬ c.toNat = 116 := fun h => h2 (UInt8.toNat_inj.1 h)
    have n3 : ¬ c.toNat = 114 := fun h => h3 (UInt8.toNat_inj.1 h)
    have n4 : ¬ c.toNat = 120 := fun h => h4 (UInt8.toNat_inj.1 h)
    have GI := hid (fun u => idxC bothS (c.toNat : Int) u)
    rw [toU8] at GI
    have hh := tells_both c.toNat hn
    have hle := Lib.indexByte_ge bothS.data.toList (UInt8.ofNat c.toNat)
    rw [show UInt8.ofNat c.toNat = c by simp] at GI hh hle
    generalize Lib.indexByte bothS.data.toList c = z at GI hh hle
    clear e h1 h2 h3 h4
    generalize c.toNat = n at G GI n1 n2 n3 n4 hn ⊢
    have c1 : ((n : Int) == 110) = false := beq_eq_false_iff_ne.2 (by omega)
    have c2 : ((n : Int) == 116) = false := beq_eq_false_iff_ne.2 (by omega)
    have c3 : ((n : Int) == 114) = false := beq_eq_false_iff_ne.2 (by omega)
    have c4 : ((n : Int) == 120) = false := beq_eq_false_iff_ne.2 (by omega)
    cases hd : escD c with
    | true =>
      rw [hd] at hh
      have hz : ¬ z < 0 := by simpa using hh
      rw [if_pos rfl]
      clear hh hd
      go_enter Try.func41, Try.ntmps41
      go_wp2_with (first
        | (go_at_call 40; refine G.out.mono ?_; rintro e w1 ⟨rfl, hat, hk⟩; have hat := hid hat)
        | (go_at_call 45; refine (GI.out _).mono ?_; rintro e u1 ⟨rfl, hu⟩; subst u1))
      go_ret
      exact ⟨⟨rfl, hat.out⟩, hk⟩
    | false =>
      rw [hd] at hh
      have hz : z < 0 := by simpa using hh
      rw [if_neg Bool.false_ne_true]
      clear hh hd
      go_enter Try.func41, Try.ntmps41
      go_wp2_with (first
        | (go_at_call 40; refine G.out.mono ?_; rintro e w1 ⟨rfl, hat, hk⟩; have hat := hid hat)
        | (go_at_call 45; refine (GI.out _).mono ?_; rintro e u1 ⟨rfl, hu⟩; subst u1))
      exact ⟨rfl, rfl, hk⟩

/-- the place at which what is left begins -/
def plc (s q : Txt) : Int := (s.length : Int) - q.length
theorem At.place {w : World} {rb : Nat} {v : Value} {s q : Txt} (h : At w rb v s q) : w.cell? ⟨rb, 1, none⟩ = some (.int .i64 (plc s q)) := by
  obtain ⟨pre, hp, hb⟩ := h
  obtain ⟨c0, c1, c2, c3, c4⟩ := rd3 hb
  rw [c1]
  unfold plc
  rw [hp]
  simp

set_option maxHeartbeats 2000000 in
theorem toldC {w : World} {rb : Nat} {v : Value} {s q : Txt} (h : At w rb v s q) (hs : s.length ≤ 200) (S : ByteArray) (left : UInt8 → Bool) (hT : Tells S fun c => left c || c == 92) :
    Calls Try.prog 35 #[.pointer (some ⟨rb, 0, none⟩), .string S] w (Said (plc s q) (signF left q) w rb v s) := by
  have hpl := h.place
  generalize plc s q = p at hpl ⊢
  cases q with
  | nil =>
    have G := hid (nextNo h hs p)
    clear h
    go_enter Try.func35, Try.ntmps35
    go_wp2_with (go_at_call 40; refine G.out.mono ?_; rintro e w1 ⟨rfl, hb1⟩)
    exact ⟨rfl, rfl, Kept.of_below hb1⟩
  | cons c r =>
    have G := hid (nextYes h hs p)
    clear h
    by_cases h1 : c = 92
    · subst h1
      rw [show signF left (92 :: r) = escF r from rfl]
      rw [show ((92 : UInt8).toNat : Int) = 92 from rfl] at G
      have GE := hid (fun u (hat : At u rb v s r) => escapedC hat hs p)
      cases e1 : escF r with
      | none =>
        rw [e1] at GE
        clear e1
        go_enter Try.func35, Try.ntmps35
        go_wp2_with (first
          | (go_at_call 40; refine G.out.mono ?_; rintro e w1 ⟨rfl, hat, hk⟩; have hat := hid hat)
          | (go_at_call 41; refine (GE.out _ hat.out).mono ?_; intro e w2 hw2; obtain ⟨he2, hk2⟩ := hw2.no; subst he2))
        exact ⟨rfl, rfl, hk.trans hk2⟩
      | some x =>
        obtain ⟨b, r1⟩ := x
        rw [e1] at GE
        clear e1
        go_enter Try.func35, Try.ntmps35
        go_wp2_with (first
          | (go_at_call 40; refine G.out.mono ?_; rintro e w1 ⟨rfl, hat, hk⟩; have hat := hid hat)
          | (go_at_call 41; refine (GE.out _ hat.out).mono ?_; intro e w2 hw2; obtain ⟨he2, hat2, hk2⟩ := hw2.yes; subst he2; have hat2 := hid hat2))
        go_ret
        exact ⟨⟨rfl, hat2.out⟩, hk.trans hk2⟩
    · have hn := c.toNat_lt
      have n1 : ¬ c.toNat = 92 := fun h => h1 (UInt8.toNat_inj.1 h)
      have GP := hid (fun u => plainC c.toNat S _ u hn hT)
      have e : signF left (c :: r) = if plainB c.toNat (fun c => left c || c == 92) then some (c.toNat, r) else none := by
        have hpb : plainB c.toNat (fun c => left c || c == 92) = (decide (32 ≤ c.toNat ∧ c.toNat ≤ 126) && !left c) := by
          show (decide (32 ≤ c.toNat ∧ c.toNat ≤ 126) && !(left (UInt8.ofNat c.toNat) || UInt8.ofNat c.toNat == 92)) = _
          rw [show UInt8.ofNat c.toNat = c by simp, show (c == 92) = false from beq_eq_false_iff_ne.2 h1, Bool.or_false]
        rw [hpb]
        simp only [signF]
        rw [if_neg h1]
        have hlt : (c < 32 ∨ 126 < c) ↔ ¬ (32 ≤ c.toNat ∧ c.toNat ≤ 126) := by
          rw [UInt8.lt_iff_toNat_lt, UInt8.lt_iff_toNat_lt]
          simp
          omega
        by_cases hv : 32 ≤ c.toNat ∧ c.toNat ≤ 126
        · rw [if_neg (fun h => (hlt.1 h) hv), decide_eq_true hv]
          cases left c <;> rfl
        · rw [if_pos (hlt.2 hv), decide_eq_false hv]
          rfl
      rw [e]
      clear e h1 hT
      generalize plainB c.toNat (fun c => left c || c == 92) = pb at GP ⊢
      generalize c.toNat = n at G GP n1 hn ⊢
      have c1 : ((n : Int) == 92) = false := beq_eq_false_iff_ne.2 (by omega)
      cases pb with
      | true =>
        rw [if_pos rfl]
        go_enter Try.func35, Try.ntmps35
        go_wp2_with (first
          | (go_at_call 40; refine G.out.mono ?_; rintro e w1 ⟨rfl, hat, hk⟩; have hat := hid hat)
          | (go_at_call 42; refine (GP.out _).mono ?_; rintro e u1 ⟨rfl, hu⟩; subst u1))
        go_ret
        exact ⟨⟨rfl, hat.out⟩, hk⟩
      | false =>
        rw [if_neg Bool.false_ne_true]
        go_enter Try.func35, Try.ntmps35
        go_wp2_with (first
          | (go_at_call 40; refine G.out.mono ?_; rintro e w1 ⟨rfl, hat, hk⟩; have hat := hid hat)
          | (go_at_call 42; refine (GP.out _).mono ?_; rintro e u1 ⟨rfl, hu⟩; subst u1))
        exact ⟨rfl, rfl, hk⟩

end Go.Proofs.Ytjiljfmejgiabaa
