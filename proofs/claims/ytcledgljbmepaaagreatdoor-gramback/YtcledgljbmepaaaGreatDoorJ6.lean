/- The reader: which signs are plain; digit, escaped, told. The reader: escaped, told. Sets of bytes word by word: or, and, not, one; how many bits a word has. Or, Not of package bytes. -/
import Derived.Test.YtcledgljbmepaaaGreatDoorJ5
import Derived.Test.YtcledgljbmepaaaGreatDoorJ1
import Derived.Test.YtcledgljbmepaaaGreatDoorJ2
import Derived.Laws.BitsAllLaws
import Derived.Laws.Bits128
namespace Go.Proofs.YtcledgljbmepaaaGreatDoor
open Go.RowKit

set_option maxRecDepth 20000 in
theorem visibleC (n : Nat) (w : World) (hn : n < 256) : Calls Tryz.prog 124 #[.int .u8 (n : Int)] w fun e w' => e = .returned (.bool (decide (32 ≤ n ∧ n ≤ 126))) ∧ w' = w := by
  by_cases h1 : 32 ≤ n
  · by_cases h2 : n ≤ 126
    · rw [decide_eq_true (⟨h1, h2⟩ : 32 ≤ n ∧ n ≤ 126)]
      have h1z : (32 : Int) ≤ (n : Int) := by omega
      have h2z : (n : Int) ≤ 126 := by omega
      go_enter Tryz.func124, Tryz.ntmps124; go_wp2; go_ret; exact ⟨by simp, rfl⟩
    · rw [decide_eq_false (fun h : 32 ≤ n ∧ n ≤ 126 => h2 h.2)]
      have h1z : (32 : Int) ≤ (n : Int) := by omega
      have h2z : ¬ (n : Int) ≤ 126 := by omega
      go_enter Tryz.func124, Tryz.ntmps124; go_wp2; go_ret; exact ⟨by simp, rfl⟩
  · rw [decide_eq_false (fun h : 32 ≤ n ∧ n ≤ 126 => h1 h.1)]
    have h1z : ¬ (32 : Int) ≤ (n : Int) := by omega
    go_enter Tryz.func124, Tryz.ntmps124; go_wp2; go_ret; exact ⟨rfl, rfl⟩

set_option maxRecDepth 20000 in
theorem ext48 (S : ByteArray) (z : Int) (w : World) : (callFunc 115 #[.string S, .int .u8 z]).run Tryz.prog w = .ok (.value (.int .i64 (Lib.indexByte S.data.toList z.toNat.toUInt8))) w := by
  rw [run_callFunc_indexByte Tryz.func115 (by kernel_rfl) (by kernel_rfl) (by kernel_rfl) (by kernel_rfl), Lib.run_indexByteString]
  rfl
set_option maxRecDepth 20000 in
theorem lite47 (S : ByteArray) (z : Int) (w : World) : Calls Tryz.prog 103 #[.string S, .int .u8 z] w fun e w' => e = .returned (.int .i64 (Lib.indexByte S.data.toList z.toNat.toUInt8)) ∧ w' = w := by
  have hx := ext48 S z
  go_enter Tryz.func103, Tryz.ntmps103
  go_wp2
  go_ret
  exact ⟨rfl, rfl⟩
set_option maxRecDepth 20000 in
theorem idxC (S : ByteArray) (z : Int) (w : World) : Calls Tryz.prog 87 #[.string S, .int .u8 z] w fun e w' => e = .returned (.int .i64 (Lib.indexByte S.data.toList z.toNat.toUInt8)) ∧ w' = w := by
  have G := hid (lite47 S z)
  go_enter Tryz.func87, Tryz.ntmps87
  go_wp2_with (go_at_call 103; refine (G.out _).mono ?_; rintro e w1 ⟨rfl, hw⟩; subst w1)
  go_ret
  exact ⟨rfl, rfl⟩

abbrev atomS : ByteArray := ⟨#[46, 42, 43, 63, 40, 41, 91, 93, 124, 92, 47]⟩
abbrev classS : ByteArray := ⟨#[93, 91, 92, 94, 45, 47]⟩
abbrev bothS : ByteArray := ⟨#[46, 42, 43, 63, 40, 41, 91, 93, 124, 92, 47, 93, 91, 92, 94, 45, 47]⟩
/-- a list of signs tells what a function tells -/
def Tells (S : ByteArray) (tell : UInt8 → Bool) : Prop := ∀ n, n < 256 → decide (Lib.indexByte S.data.toList (UInt8.ofNat n) < 0) = !tell (UInt8.ofNat n)
theorem tells_atom : Tells atomS tellA := by
  have h : ∀ b : Fin 256, decide (Lib.indexByte atomS.data.toList (UInt8.ofNat b) < 0) = !tellA (UInt8.ofNat b) := by decide +kernel
  exact fun n hn => h ⟨n, hn⟩
theorem tells_class : Tells classS tellC := by
  have h : ∀ b : Fin 256, decide (Lib.indexByte classS.data.toList (UInt8.ofNat b) < 0) = !tellC (UInt8.ofNat b) := by decide +kernel
  exact fun n hn => h ⟨n, hn⟩
theorem tells_both : Tells bothS escD := by
  have h : ∀ b : Fin 256, decide (Lib.indexByte bothS.data.toList (UInt8.ofNat b) < 0) = !escD (UInt8.ofNat b) := by decide +kernel
  exact fun n hn => h ⟨n, hn⟩
theorem toU8 (n : Nat) : ((n : Int)).toNat.toUInt8 = UInt8.ofNat n := rfl
def plainB (n : Nat) (tell : UInt8 → Bool) : Bool := decide (32 ≤ n ∧ n ≤ 126) && !tell (UInt8.ofNat n)

set_option maxRecDepth 20000 in
theorem plainC (n : Nat) (S : ByteArray) (tell : UInt8 → Bool) (w : World) (hn : n < 256) (ht : Tells S tell) : Calls Tryz.prog 123 #[.int .u8 (n : Int), .string S] w fun e w' => e = .returned (.bool (plainB n tell)) ∧ w' = w := by
  have GV := hid (visibleC n w hn)
  have GI := hid (idxC S (n : Int) w)
  rw [toU8] at GI
  have hle := Lib.indexByte_ge S.data.toList (UInt8.ofNat n)
  have hh : Hid (decide (Lib.indexByte S.data.toList (UInt8.ofNat n) < 0) = !tell (UInt8.ofNat n)) := hid (ht n hn)
  unfold plainB
  generalize Lib.indexByte S.data.toList (UInt8.ofNat n) = z at GI hh hle
  cases hv : decide (32 ≤ n ∧ n ≤ 126) with
  | false =>
    rw [hv] at GV
    clear hv
    go_enter Tryz.func123, Tryz.ntmps123
    go_wp2_with (go_at_call 124; refine GV.out.mono ?_; rintro e w1 ⟨rfl, hw⟩; subst w1)
    go_ret
    exact ⟨rfl, rfl⟩
  | true =>
    rw [hv] at GV
    rw [← hh.out]
    clear hv
    go_enter Tryz.func123, Tryz.ntmps123
    go_wp2_with (first
      | (go_at_call 124; refine GV.out.mono ?_; rintro e w1 ⟨rfl, hw⟩; subst w1)
      | (go_at_call 87; refine GI.out.mono ?_; rintro e w1 ⟨rfl, hw⟩; subst w1))
    go_ret
    exact ⟨rfl, rfl⟩

/-- what is told from p on -/
def Said (p : Int) (res : Option (Nat × Txt)) (w : World) (rb : Nat) (v : Value) (s : Txt) : Ending → World → Prop := fun e w' =>
  (match res with
    | some (b, q) => e = .returned (.int .u8 (b : Int)) ∧ At w' rb v s q
    | none => e = .panicked [{ v := .iface 164 (.int .i64 p), recovered := false }]) ∧ Kept (oneBlk rb) w w'

theorem hexF_nat (c : UInt8) : hexF c = if 48 ≤ c.toNat ∧ c.toNat ≤ 57 then some (c.toNat - 48) else if 97 ≤ c.toNat ∧ c.toNat ≤ 102 then some (c.toNat - 87) else if 65 ≤ c.toNat ∧ c.toNat ≤ 70 then some (c.toNat - 55) else none := rfl
theorem ret_u8 {a b : Int} (h : a = b) : Ending.returned (.int .u8 a) = .returned (.int .u8 b) := by rw [h]
def hexP : Txt → Option (Nat × Txt)
  | [] => none
  | c :: r => match hexF c with
    | some a => some (a, r)
    | none => none

set_option maxRecDepth 20000 in
set_option maxHeartbeats 1000000 in
theorem digitC {w : World} {rb : Nat} {v : Value} {s q : Txt} (h : At w rb v s q) (hs : s.length ≤ 200) (p : Int) :
    Calls Tryz.prog 168 #[.pointer (some ⟨rb, 0, none⟩), .int .i64 p] w (Said p (hexP q) w rb v s) := by
  cases q with
  | nil =>
    have G := hid (nextNo h hs p)
    clear h
    go_enter Tryz.func168, Tryz.ntmps168
    go_wp2_with (go_at_call 166; refine G.out.mono ?_; rintro e w1 ⟨rfl, hb1⟩)
    exact ⟨rfl, rfl, Kept.of_below hb1⟩
  | cons c r =>
    have G := hid (nextYes h hs p)
    have hn := c.toNat_lt
    show Calls _ _ _ _ (Said p (match hexF c with | some a => some (a, r) | none => none) w rb v s)
    rw [hexF_nat]
    generalize c.toNat = n at G hn ⊢
    clear h
    by_cases h1 : 48 ≤ n ∧ n ≤ 57
    · rw [if_pos h1]
      obtain ⟨ha, hb⟩ := h1
      have hz : (48 : Int) ≤ (n : Int) := by omega
      have hz' : (n : Int) ≤ 57 := by omega
      go_enter Tryz.func168, Tryz.ntmps168
      go_wp2_with (go_at_call 166; refine G.out.mono ?_; rintro e w1 ⟨rfl, hat, hk⟩; have hat := hid hat)
      go_ret
      exact ⟨⟨ret_u8 (by omega), hat.out⟩, hk⟩
    rw [if_neg h1]
    have hd1 : 48 ≤ n → ¬ n ≤ 57 := fun a b => h1 ⟨a, b⟩
    by_cases h2 : 97 ≤ n ∧ n ≤ 102
    · rw [if_pos h2]
      obtain ⟨ha, hb⟩ := h2
      clear h1 hd1
      have hz : (97 : Int) ≤ (n : Int) := by omega
      have hz' : (n : Int) ≤ 102 := by omega
      go_enter Tryz.func168, Tryz.ntmps168
      go_wp2_with (go_at_call 166; refine G.out.mono ?_; rintro e w1 ⟨rfl, hat, hk⟩; have hat := hid hat)
      go_ret
      exact ⟨⟨ret_u8 (by omega), hat.out⟩, hk⟩
    rw [if_neg h2]
    by_cases h3 : 65 ≤ n ∧ n ≤ 70
    · rw [if_pos h3]
      obtain ⟨ha, hb⟩ := h3
      clear h1 hd1 h2
      have hz : (65 : Int) ≤ (n : Int) := by omega
      have hz' : (n : Int) ≤ 70 := by omega
      go_enter Tryz.func168, Tryz.ntmps168
      go_wp2_with (go_at_call 166; refine G.out.mono ?_; rintro e w1 ⟨rfl, hat, hk⟩; have hat := hid hat)
      go_ret
      exact ⟨⟨ret_u8 (by omega), hat.out⟩, hk⟩
    rw [if_neg h3]
    have hcase : n < 48 ∨ (58 ≤ n ∧ n < 65) ∨ (71 ≤ n ∧ n < 97) ∨ 103 ≤ n := by omega
    clear h1 h2 h3 hd1
    rcases hcase with h | ⟨h, h'⟩ | ⟨h, h'⟩ | h
    all_goals
      go_enter Tryz.func168, Tryz.ntmps168
      go_wp2_with (go_at_call 166; refine G.out.mono ?_; rintro e w1 ⟨rfl, hat, hk⟩)
      exact ⟨rfl, rfl, hk⟩

theorem Said.low {p : Int} {res : Option (Nat × Txt)} {w u : World} {rb : Nat} {v : Value} {s : Txt} {e : Ending} {w' : World} (hk : Kept (oneBlk rb) w u) (h : Said p res u rb v s e w') : Said p res w rb v s e w' := ⟨h.1, hk.trans h.2⟩
theorem Said.no {p : Int} {w : World} {rb : Nat} {v : Value} {s : Txt} {e : Ending} {w' : World} (h : Said p none w rb v s e w') : e = .panicked [{ v := .iface 164 (.int .i64 p), recovered := false }] ∧ Kept (oneBlk rb) w w' := h
theorem Said.yes {p : Int} {b : Nat} {q : Txt} {w : World} {rb : Nat} {v : Value} {s : Txt} {e : Ending} {w' : World} (h : Said p (some (b, q)) w rb v s e w') : e = .returned (.int .u8 (b : Int)) ∧ At w' rb v s q ∧ Kept (oneBlk rb) w w' := ⟨h.1.1, h.1.2, h.2⟩

end Go.Proofs.YtcledgljbmepaaaGreatDoor
namespace Go.Proofs.YtcledgljbmepaaaGreatDoor
open Go.RowKit

theorem escF_hex (r : Txt) : escF (120 :: r) = match hexP r with
    | none => none
    | some (a, r1) => match hexP r1 with
      | none => none
      | some (b, q) => some (16 * a + b, q) := by
  show (match r with
      | x :: y :: q => match hexF x, hexF y with
        | some a, some b => some (16 * a + b, q)
        | _, _ => none
      | _ => none) = _
  cases r with
  | nil => rfl
  | cons x r =>
    cases r with
    | nil => cases hx : hexF x <;> simp [hexP, hx]
    | cons y q => cases hx : hexF x <;> cases hy : hexF y <;> simp [hexP, hx, hy]
theorem hexP_lt {q r : Txt} {a : Nat} (h : hexP q = some (a, r)) : a < 16 := by
  cases q with
  | nil => cases h
  | cons c q =>
    cases hx : hexF c with
    | none => simp [hexP, hx] at h
    | some b =>
      simp [hexP, hx] at h
      have := hex_lt _ _ hx
      omega

set_option maxRecDepth 20000 in
set_option maxHeartbeats 2000000 in
theorem escapedC {w : World} {rb : Nat} {v : Value} {s q : Txt} (h : At w rb v s q) (hs : s.length ≤ 200) (p : Int) :
    Calls Tryz.prog 167 #[.pointer (some ⟨rb, 0, none⟩), .int .i64 p] w (Said p (escF q) w rb v s) := by
  cases q with
  | nil =>
    have G := hid (nextNo h hs p)
    clear h
    go_enter Tryz.func167, Tryz.ntmps167
    go_wp2_with (go_at_call 166; refine G.out.mono ?_; rintro e w1 ⟨rfl, hb1⟩)
    exact ⟨rfl, rfl, Kept.of_below hb1⟩
  | cons c r =>
    have G := hid (nextYes h hs p)
    clear h
    by_cases h1 : c = 110
    · subst h1
      rw [show escF (110 :: r) = some (10, r) from rfl]
      rw [show ((110 : UInt8).toNat : Int) = 110 from rfl] at G
      go_enter Tryz.func167, Tryz.ntmps167
      go_wp2_with (go_at_call 166; refine G.out.mono ?_; rintro e w1 ⟨rfl, hat, hk⟩; have hat := hid hat)
      go_ret
      exact ⟨⟨rfl, hat.out⟩, hk⟩
    by_cases h2 : c = 116
    · subst h2
      rw [show escF (116 :: r) = some (9, r) from rfl]
      rw [show ((116 : UInt8).toNat : Int) = 116 from rfl] at G
      go_enter Tryz.func167, Tryz.ntmps167
      go_wp2_with (go_at_call 166; refine G.out.mono ?_; rintro e w1 ⟨rfl, hat, hk⟩; have hat := hid hat)
      go_ret
      exact ⟨⟨rfl, hat.out⟩, hk⟩
    by_cases h3 : c = 114
    · subst h3
      rw [show escF (114 :: r) = some (13, r) from rfl]
      rw [show ((114 : UInt8).toNat : Int) = 114 from rfl] at G
      go_enter Tryz.func167, Tryz.ntmps167
      go_wp2_with (go_at_call 166; refine G.out.mono ?_; rintro e w1 ⟨rfl, hat, hk⟩; have hat := hid hat)
      go_ret
      exact ⟨⟨rfl, hat.out⟩, hk⟩
    by_cases h4 : c = 120
    · subst h4
      rw [escF_hex]
      rw [show ((120 : UInt8).toNat : Int) = 120 from rfl] at G
      have GD := hid (fun u q (hat : At u rb v s q) => digitC hat hs p)
      clear h1 h2 h3
      cases e1 : hexP r with
      | none =>
        have GD1 := hid (fun u (hat : At u rb v s r) => (show Calls _ _ _ _ (Said p none u rb v s) by have := GD.out u r hat; rwa [e1] at this))
        clear e1 GD
        go_enter Tryz.func167, Tryz.ntmps167
        go_wp2_with (first
          | (go_at_call 166; refine G.out.mono ?_; rintro e w1 ⟨rfl, hat, hk⟩; have hat := hid hat)
          | (go_at_call 168; refine (GD1.out _ hat.out).mono ?_; intro e w2 hw2; obtain ⟨he2, hk2⟩ := hw2.no; subst he2))
        exact ⟨rfl, rfl, hk.trans hk2⟩
      | some x =>
        obtain ⟨a, r1⟩ := x
        have ha := hexP_lt e1
        have GD1 := hid (fun u (hat : At u rb v s r) => (show Calls _ _ _ _ (Said p (some (a, r1)) u rb v s) by have := GD.out u r hat; rwa [e1] at this))
        show Calls _ _ _ _ (Said p (match hexP r1 with | none => none | some (b, q) => some (16 * a + b, q)) w rb v s)
        cases e2 : hexP r1 with
        | none =>
          have GD2 := hid (fun u (hat : At u rb v s r1) => (show Calls _ _ _ _ (Said p none u rb v s) by have := GD.out u r1 hat; rwa [e2] at this))
          clear e1 e2 GD
          go_enter Tryz.func167, Tryz.ntmps167
          go_wp2_with (first
            | (go_at_call 166; refine G.out.mono ?_; rintro e w1 ⟨rfl, hat, hk⟩; have hat := hid hat)
            | (go_at_call 168; refine (GD2.out _ hat2.out).mono ?_; intro e w3 hw3; obtain ⟨he3, hk3⟩ := hw3.no; subst he3)
            | (go_at_call 168; refine (GD1.out _ hat.out).mono ?_; intro e w2 hw2; obtain ⟨he2, hat2, hk2⟩ := hw2.yes; subst he2; have hat2 := hid hat2))
          exact ⟨rfl, rfl, (hk.trans hk2).trans hk3⟩
        | some y =>
          obtain ⟨b, r2⟩ := y
          have hb := hexP_lt e2
          have GD2 := hid (fun u (hat : At u rb v s r1) => (show Calls _ _ _ _ (Said p (some (b, r2)) u rb v s) by have := GD.out u r1 hat; rwa [e2] at this))
          clear e1 e2 GD
          have haz : (a : Int) ≤ 15 := by omega
          have hbz : (b : Int) ≤ 15 := by omega
          go_enter Tryz.func167, Tryz.ntmps167
          go_wp2_with (first
            | (go_at_call 166; refine G.out.mono ?_; rintro e w1 ⟨rfl, hat, hk⟩; have hat := hid hat)
            | (go_at_call 168; refine (GD2.out _ hat2.out).mono ?_; intro e w3 hw3; obtain ⟨he3, hat3, hk3⟩ := hw3.yes; subst he3; have hat3 := hid hat3)
            | (go_at_call 168; refine (GD1.out _ hat.out).mono ?_; intro e w2 hw2; obtain ⟨he2, hat2, hk2⟩ := hw2.yes; subst he2; have hat2 := hid hat2))
          go_ret
          exact ⟨⟨ret_u8 (by omega), hat3.out⟩, (hk.trans hk2).trans hk3⟩
    have e : escF (c :: r) = if escD c then some (c.toNat, r) else none := by
      simp only [escF]
      rw [if_neg h1, if_neg h2, if_neg h3, if_neg h4]
    rw [e]
    have hn := c.toNat_lt
    have n1 : ¬ c.toNat = 110 := fun h => h1 (UInt8.toNat_inj.1 h)
    have n2 : ¬ c.toNat = 116 := fun h => h2 (UInt8.toNat_inj.1 h)
    have n3 : ¬ c.toNat = 114 := fun h => h3 (UInt8.toNat_inj.1 h)
    have n4 : ¬ c.toNat = 120 := fun h => h4 (UInt8.toNat_inj.1 h)
    have GI := hid (fun u => idxC bothS (c.toNat : Int) u)
    rw [toU8] at GI
    have hh := tells_both c.toNat hn
    have hle := Lib.indexByte_ge bothS.data.toList (UInt8.ofNat c.toNat)
    rw [show UInt8.ofNat c.toNat = c by simp] at GI hh hle
    generalize Lib.indexByte bothS.data.toList c = z at GI hh hle
    clear e h1 h2 h3 h4
    generalize c.toNat = n at G GI n1 n2 n3 n4 hn ⊢
    have c1 : ((n : Int) == 110) = false := beq_eq_false_iff_ne.2 (by omega)
    have c2 : ((n : Int) == 116) = false := beq_eq_false_iff_ne.2 (by omega)
    have c3 : ((n : Int) == 114) = false := beq_eq_false_iff_ne.2 (by omega)
    have c4 : ((n : Int) == 120) = false := beq_eq_false_iff_ne.2 (by omega)
    cases hd : escD c with
    | true =>
      rw [hd] at hh
      have hz : ¬ z < 0 := by simpa using hh
      rw [if_pos rfl]
      clear hh hd
      go_enter Tryz.func167, Tryz.ntmps167
      go_wp2_with (first
        | (go_at_call 166; refine G.out.mono ?_; rintro e w1 ⟨rfl, hat, hk⟩; have hat := hid hat)
        | (go_at_call 87; refine (GI.out _).mono ?_; rintro e u1 ⟨rfl, hu⟩; subst u1))
      go_ret
      exact ⟨⟨rfl, hat.out⟩, hk⟩
    | false =>
      rw [hd] at hh
      have hz : z < 0 := by simpa using hh
      rw [if_neg Bool.false_ne_true]
      clear hh hd
      go_enter Tryz.func167, Tryz.ntmps167
      go_wp2_with (first
        | (go_at_call 166; refine G.out.mono ?_; rintro e w1 ⟨rfl, hat, hk⟩; have hat := hid hat)
        | (go_at_call 87; refine (GI.out _).mono ?_; rintro e u1 ⟨rfl, hu⟩; subst u1))
      exact ⟨rfl, rfl, hk⟩

/-- the place at which what is left begins -/
def plc (s q : Txt) : Int := (s.length : Int) - q.length
theorem At.place {w : World} {rb : Nat} {v : Value} {s q : Txt} (h : At w rb v s q) : w.cell? ⟨rb, 1, none⟩ = some (.int .i64 (plc s q)) := by
  obtain ⟨pre, hp, hb⟩ := h
  obtain ⟨c0, c1, c2, c3, c4⟩ := rd3 hb
  rw [c1]
  unfold plc
  rw [hp]
  simp

set_option maxRecDepth 20000 in
set_option maxHeartbeats 2000000 in
theorem toldC {w : World} {rb : Nat} {v : Value} {s q : Txt} (h : At w rb v s q) (hs : s.length ≤ 200) (S : ByteArray) (left : UInt8 → Bool) (hT : Tells S fun c => left c || c == 92) :
    Calls Tryz.prog 163 #[.pointer (some ⟨rb, 0, none⟩), .string S] w (Said (plc s q) (signF left q) w rb v s) := by
  have hpl := h.place
  generalize plc s q = p at hpl ⊢
  cases q with
  | nil =>
    have G := hid (nextNo h hs p)
    clear h
    go_enter Tryz.func163, Tryz.ntmps163
    go_wp2_with (go_at_call 166; refine G.out.mono ?_; rintro e w1 ⟨rfl, hb1⟩)
    exact ⟨rfl, rfl, Kept.of_below hb1⟩
  | cons c r =>
    have G := hid (nextYes h hs p)
    clear h
    by_cases h1 : c = 92
    · subst h1
      rw [show signF left (92 :: r) = escF r from rfl]
      rw [show ((92 : UInt8).toNat : Int) = 92 from rfl] at G
      have GE := hid (fun u (hat : At u rb v s r) => escapedC hat hs p)
      cases e1 : escF r with
      | none =>
        rw [e1] at GE
        clear e1
        go_enter Tryz.func163, Tryz.ntmps163
        go_wp2_with (first
          | (go_at_call 166; refine G.out.mono ?_; rintro e w1 ⟨rfl, hat, hk⟩; have hat := hid hat)
          | (go_at_call 167; refine (GE.out _ hat.out).mono ?_; intro e w2 hw2; obtain ⟨he2, hk2⟩ := hw2.no; subst he2))
        exact ⟨rfl, rfl, hk.trans hk2⟩
      | some x =>
        obtain ⟨b, r1⟩ := x
        rw [e1] at GE
        clear e1
        go_enter Tryz.func163, Tryz.ntmps163
        go_wp2_with (first
          | (go_at_call 166; refine G.out.mono ?_; rintro e w1 ⟨rfl, hat, hk⟩; have hat := hid hat)
          | (go_at_call 167; refine (GE.out _ hat.out).mono ?_; intro e w2 hw2; obtain ⟨he2, hat2, hk2⟩ := hw2.yes; subst he2; have hat2 := hid hat2))
        go_ret
        exact ⟨⟨rfl, hat2.out⟩, hk.trans hk2⟩
    · have hn := c.toNat_lt
      have n1 : ¬ c.toNat = 92 := fun h => h1 (UInt8.toNat_inj.1 h)
      have GP := hid (fun u => plainC c.toNat S _ u hn hT)
      have e : signF left (c :: r) = if plainB c.toNat (fun c => left c || c == 92) then some (c.toNat, r) else none := by
        have hpb : plainB c.toNat (fun c => left c || c == 92) = (decide (32 ≤ c.toNat ∧ c.toNat ≤ 126) && !left c) := by
          show (decide (32 ≤ c.toNat ∧ c.toNat ≤ 126) && !(left (UInt8.ofNat c.toNat) || UInt8.ofNat c.toNat == 92)) = _
          rw [show UInt8.ofNat c.toNat = c by simp, show (c == 92) = false from beq_eq_false_iff_ne.2 h1, Bool.or_false]
        rw [hpb]
        simp only [signF]
        rw [if_neg h1]
        have hlt : (c < 32 ∨ 126 < c) ↔ ¬ (32 ≤ c.toNat ∧ c.toNat ≤ 126) := by
          rw [UInt8.lt_iff_toNat_lt, UInt8.lt_iff_toNat_lt]
          simp
          omega
        by_cases hv : 32 ≤ c.toNat ∧ c.toNat ≤ 126
        · rw [if_neg (fun h => (hlt.1 h) hv), decide_eq_true hv]
          cases left c <;> rfl
        · rw [if_pos (hlt.2 hv), decide_eq_false hv]
          rfl
      rw [e]
      clear e h1 hT
      generalize plainB c.toNat (fun c => left c || c == 92) = pb at GP ⊢
      generalize c.toNat = n at G GP n1 hn ⊢
      have c1 : ((n : Int) == 92) = false := beq_eq_false_iff_ne.2 (by omega)
      cases pb with
      | true =>
        rw [if_pos rfl]
        go_enter Tryz.func163, Tryz.ntmps163
        go_wp2_with (first
          | (go_at_call 166; refine G.out.mono ?_; rintro e w1 ⟨rfl, hat, hk⟩; have hat := hid hat)
          | (go_at_call 123; refine (GP.out _).mono ?_; rintro e u1 ⟨rfl, hu⟩; subst u1))
        go_ret
        exact ⟨⟨rfl, hat.out⟩, hk⟩
      | false =>
        rw [if_neg Bool.false_ne_true]
        go_enter Tryz.func163, Tryz.ntmps163
        go_wp2_with (first
          | (go_at_call 166; refine G.out.mono ?_; rintro e w1 ⟨rfl, hat, hk⟩; have hat := hid hat)
          | (go_at_call 123; refine (GP.out _).mono ?_; rintro e u1 ⟨rfl, hu⟩; subst u1))
        exact ⟨rfl, rfl, hk⟩

end Go.Proofs.YtcledgljbmepaaaGreatDoor
namespace Go.Proofs.YtcledgljbmepaaaGreatDoor

theorem or_words (S T : W4) (hS : Fit4 S) (hT : Fit4 T) : orB S T = ⟨S.a ||| T.a, S.b ||| T.b, S.c ||| T.c, S.d ||| T.d⟩ := by
  have lt : ∀ m n : Nat, m < 18446744073709551616 → n < 18446744073709551616 → m ||| n < 18446744073709551616 := fun m n hm hn => Nat.or_lt_two_pow (n := 64) hm hn
  refine (mkB_eq ⟨lt _ _ hS.a hT.a, lt _ _ hS.b hT.b, lt _ _ hS.c hT.c, lt _ _ hS.d hT.d⟩ fun x hx => ?_).symm
  unfold hasB
  have h4 : x / 64 = 0 ∨ x / 64 = 1 ∨ x / 64 = 2 ∨ x / 64 = 3 := by omega
  rcases h4 with h | h | h | h <;> rw [h] <;> exact Nat.testBit_or _ _ _
theorem and_words (S T : W4) (hS : Fit4 S) : andB S T = ⟨S.a &&& T.a, S.b &&& T.b, S.c &&& T.c, S.d &&& T.d⟩ := by
  have lt : ∀ m n : Nat, m < 18446744073709551616 → m &&& n < 18446744073709551616 := fun m n hm => Nat.lt_of_le_of_lt Nat.and_le_left hm
  refine (mkB_eq ⟨lt _ _ hS.a, lt _ _ hS.b, lt _ _ hS.c, lt _ _ hS.d⟩ fun x hx => ?_).symm
  unfold hasB
  have h4 : x / 64 = 0 ∨ x / 64 = 1 ∨ x / 64 = 2 ∨ x / 64 = 3 := by omega
  rcases h4 with h | h | h | h <;> rw [h] <;> exact Nat.testBit_and _ _ _
theorem not_bit (n j : Nat) (hn : n < 18446744073709551616) (hj : j < 64) : (18446744073709551615 - n).testBit j = !n.testBit j := by
  have := Nat.testBit_two_pow_sub_succ (n := 64) (x := n) hn j
  rw [show (2 : Nat) ^ 64 - (n + 1) = 18446744073709551615 - n by omega] at this
  rw [this]
  simp [hj]
theorem not_words (S : W4) (hS : Fit4 S) : notB S = ⟨18446744073709551615 - S.a, 18446744073709551615 - S.b, 18446744073709551615 - S.c, 18446744073709551615 - S.d⟩ := by
  have lt : ∀ n : Nat, 18446744073709551615 - n < 18446744073709551616 := fun n => by omega
  refine (mkB_eq ⟨lt _, lt _, lt _, lt _⟩ fun x hx => ?_).symm
  unfold hasB
  have h4 : x / 64 = 0 ∨ x / 64 = 1 ∨ x / 64 = 2 ∨ x / 64 = 3 := by omega
  rcases h4 with h | h | h | h <;> rw [h]
  · exact not_bit _ _ hS.a (by omega)
  · exact not_bit _ _ hS.b (by omega)
  · exact not_bit _ _ hS.c (by omega)
  · exact not_bit _ _ hS.d (by omega)
theorem xor_all (n : Nat) (hn : n < 18446744073709551616) : n ^^^ 18446744073709551615 = 18446744073709551615 - n := by
  refine word_ext (Nat.xor_lt_two_pow (n := 64) hn (by decide)) (by omega) fun j hj => ?_
  rw [Nat.testBit_xor, not_bit n j hn hj]
  have : (18446744073709551615 : Nat).testBit j = true := by
    have h := not_bit 0 j (by omega) hj
    rw [Nat.zero_testBit] at h
    exact h
  rw [this]
  cases n.testBit j <;> rfl
theorem one_word (x : Nat) (hx : x < 256) : spanB x x = noneB.set (x / 64) (2 ^ (x % 64)) := by
  have h0 : noneB.w (x / 64) = 0 := by
    have h4 : x / 64 = 0 ∨ x / 64 = 1 ∨ x / 64 = 2 ∨ x / 64 = 3 := by omega
    rcases h4 with h | h | h | h <;> rw [h] <;> rfl
  have h1 : putB noneB x = noneB.set (x / 64) (2 ^ (x % 64)) := by
    unfold putB
    rw [noneB_has, h0]
    simp
  rw [← h1]
  refine (mkB_eq (putB_fit noneB_fit x) fun y hy => ?_).symm
  rw [putB_has _ x y hx hy, noneB_has, Bool.false_or, Bool.eq_iff_iff]
  simp only [Bool.and_eq_true, decide_eq_true_eq]
  omega

/-! ### how many bits -/
/-- the bits of the first k bytes of a number, byte by byte -/
def mapB (f : Nat → Nat) : Nat → Nat → Nat
  | 0, _ => 0
  | k + 1, n => f (n % 256) + 256 * mapB f k (n / 256)
theorem mapB_succ (f : Nat → Nat) (k n : Nat) : mapB f (k + 1) n = f (n % 256) + 256 * mapB f k (n / 256) := rfl
def maskB (c : Nat) : Nat → Nat
  | 0 => 0
  | k + 1 => c + 256 * maskB c k
theorem and_split (a c d m : Nat) (hc : c < 2 ^ m) : a &&& (c + 2 ^ m * d) = (a % 2 ^ m &&& c) + 2 ^ m * (a / 2 ^ m &&& d) := by
  have h1 : (a % 2 ^ m &&& c) < 2 ^ m := Nat.lt_of_le_of_lt Nat.and_le_right hc
  apply Nat.eq_of_testBit_eq
  intro j
  rw [Nat.testBit_and, Nat.add_comm c, Nat.testBit_two_pow_mul_add _ hc, Nat.add_comm (a % 2 ^ m &&& c), Nat.testBit_two_pow_mul_add _ h1]
  by_cases hj : j < m
  · rw [if_pos hj, if_pos hj, Nat.testBit_and, Nat.testBit_mod_two_pow]
    simp [hj]
  · rw [if_neg hj, if_neg hj, Nat.testBit_and, Nat.testBit_div_two_pow]
    rw [show j - m + m = j by omega]
theorem and_split8 (a c d : Nat) (hc : c < 256) : a &&& (c + 256 * d) = (a % 256 &&& c) + 256 * (a / 256 &&& d) := and_split a c d 8 hc
theorem and_low (a c m : Nat) (hc : c < 2 ^ m) : a &&& c = a % 2 ^ m &&& c := by
  have := and_split a c 0 m hc
  rw [Nat.mul_zero, Nat.add_zero] at this
  rw [this, Nat.and_zero]; omega
/-- a shift by s bits, masked so that nothing comes from the next byte -/
theorem shift_mask (s c : Nat) (hs : s ≤ 8) (hc : c < 2 ^ (8 - s)) : ∀ k n, (n / 2 ^ s &&& maskB c k) = mapB (fun b => b / 2 ^ s &&& c) k n
  | 0, n => by rw [maskB, mapB, Nat.and_zero]
  | k + 1, n => by
    have hc8 : c < 256 := Nat.lt_of_lt_of_le hc (by have : (2 : Nat) ^ (8 - s) ≤ 2 ^ 8 := Nat.pow_le_pow_right (by omega) (by omega); omega)
    rw [maskB, mapB, and_split8 _ _ _ hc8]
    have h1 : n / 2 ^ s / 256 = n / 256 / 2 ^ s := by rw [Nat.div_div_eq_div_mul, Nat.div_div_eq_div_mul, Nat.mul_comm]
    rw [h1, shift_mask s c hs hc k (n / 256)]
    congr 1
    rw [and_low _ c (8 - s) hc, and_low (n % 256 / 2 ^ s) c (8 - s) hc]
    congr 1
    have h2 : (2 : Nat) ^ s * 2 ^ (8 - s) = 256 := by rw [← Nat.pow_add, show s + (8 - s) = 8 by omega]
    have h3 : n % 256 / 2 ^ s = n / 2 ^ s % 2 ^ (8 - s) := by
      rw [← h2, Nat.mod_mul_right_div_self]
    rw [h3]
    rw [Nat.mod_mod_of_dvd _ (Nat.pow_dvd_pow 2 (by omega : 8 - s ≤ 8) |> fun h => by simpa using h), Nat.mod_mod]
theorem mapB_add (f g : Nat → Nat) : ∀ k n, mapB f k n + mapB g k n = mapB (fun b => f b + g b) k n
  | 0, _ => rfl
  | k + 1, n => by rw [mapB, mapB, mapB, ← mapB_add f g k]; omega
theorem mapB_comp (f g : Nat → Nat) (hf : ∀ b, b < 256 → f b < 256) : ∀ k n, mapB g k (mapB f k n) = mapB (fun b => g (f b)) k n
  | 0, _ => rfl
  | k + 1, n => by
    have hb := hf (n % 256) (by omega)
    rw [mapB, mapB_succ f, mapB_succ (fun b => g (f b)), show (f (n % 256) + 256 * mapB f k (n / 256)) % 256 = f (n % 256) by omega, show (f (n % 256) + 256 * mapB f k (n / 256)) / 256 = mapB f k (n / 256) by omega, mapB_comp f g hf k]
theorem mapB_low {f : Nat → Nat} (hf : ∀ b, b < 256 → f b < 256 ∧ f b % 16 ≤ 4) (k n : Nat) : mapB f k n % 16 ≤ 4 := by
  cases k with
  | zero => simp [mapB]
  | succ k => have := hf (n % 256) (by omega); rw [mapB]; omega
/-- the third step: nothing is carried -/
theorem step3 {f : Nat → Nat} (hf : ∀ b, b < 256 → f b < 256 ∧ f b % 16 ≤ 4) (hf2 : ∀ b, b < 256 → f b ≤ 68) : ∀ k n, (mapB f k n / 16 + mapB f k n) &&& maskB 15 k = mapB (fun b => (f b / 16 + f b) % 16) k n
  | 0, n => by rw [maskB, mapB, Nat.and_zero, mapB]
  | k + 1, n => by
    have h1 := hf (n % 256) (by omega)
    have h2 := hf2 (n % 256) (by omega)
    have h3 := mapB_low hf k (n / 256)
    have ih := step3 hf hf2 k (n / 256)
    rw [maskB, mapB_succ, mapB_succ (fun b => (f b / 16 + f b) % 16), ← ih, and_split8 _ _ _ (by omega)]
    generalize mapB f k (n / 256) = y at h3
    generalize f (n % 256) = c at h1 h2
    have e1 : ((c + 256 * y) / 16 + (c + 256 * y)) / 256 = y / 16 + y := by omega
    have e2 : ((c + 256 * y) / 16 + (c + 256 * y)) % 256 &&& 15 = (c / 16 + c) % 16 := by
      rw [show (15 : Nat) = 2 ^ 4 - 1 from rfl, Nat.and_two_pow_sub_one_eq_mod]
      omega
    rw [e1, e2]

def pf1 (b : Nat) : Nat := (b / 2 &&& 85) + (b &&& 85)
def pf2 (b : Nat) : Nat := (b / 4 &&& 51) + (b &&& 51)
def pop8 (b : Nat) : Nat := (pf2 (pf1 b) / 16 + pf2 (pf1 b)) % 16
/-- the bits of a number below a place -/
def bitsN (n : Nat) : Nat → Nat
  | 0 => 0
  | k + 1 => bitsN n k + (if n.testBit k then 1 else 0)
theorem bytes_all : ∀ b : Fin 256, pf1 b < 256 ∧ pf2 (pf1 b) < 256 ∧ pf2 (pf1 b) % 16 ≤ 4 ∧ pf2 (pf1 b) ≤ 68 ∧ pop8 b = bitsN b 8 ∧ pop8 b ≤ 8 := by decide +kernel
theorem bytes_at (b : Nat) (h : b < 256) : pf1 b < 256 ∧ pf2 (pf1 b) < 256 ∧ pf2 (pf1 b) % 16 ≤ 4 ∧ pf2 (pf1 b) ≤ 68 ∧ pop8 b = bitsN b 8 ∧ pop8 b ≤ 8 := bytes_all ⟨b, h⟩
theorem mask85 : maskB 85 8 = 6148914691236517205 := by decide +kernel
theorem mask51 : maskB 51 8 = 3689348814741910323 := by decide +kernel
theorem mask15 : maskB 15 8 = 1085102592571150095 := by decide +kernel
theorem ones1 (n : Nat) : (n / 2 &&& 6148914691236517205) + (n &&& 6148914691236517205) = mapB pf1 8 n := by
  have h1 := shift_mask 1 85 (by omega) (by decide) 8 n
  have h2 := shift_mask 0 85 (by omega) (by decide) 8 n
  rw [mask85] at h1 h2
  rw [Nat.pow_zero, Nat.div_one] at h2
  rw [show n / 2 = n / 2 ^ 1 by rw [Nat.pow_one], h1, h2, mapB_add]
  unfold pf1
  simp only [Nat.pow_one, Nat.div_one]
theorem ones2 (n : Nat) : (mapB pf1 8 n / 4 &&& 3689348814741910323) + (mapB pf1 8 n &&& 3689348814741910323) = mapB (fun b => pf2 (pf1 b)) 8 n := by
  have h1 := shift_mask 2 51 (by omega) (by decide) 8 (mapB pf1 8 n)
  have h2 := shift_mask 0 51 (by omega) (by decide) 8 (mapB pf1 8 n)
  rw [mask51] at h1 h2
  rw [Nat.pow_zero, Nat.div_one] at h2
  rw [show mapB pf1 8 n / 4 = mapB pf1 8 n / 2 ^ 2 by rfl, h1, h2, mapB_add]
  rw [← mapB_comp pf1 pf2 (fun b hb => (bytes_at b hb).1)]
  unfold pf2
  simp only [Nat.div_one, show (2 : Nat) ^ 2 = 4 from rfl]
theorem ones3 (n : Nat) : (mapB (fun b => pf2 (pf1 b)) 8 n / 16 + mapB (fun b => pf2 (pf1 b)) 8 n) &&& 1085102592571150095 = mapB pop8 8 n := by
  rw [← mask15]
  exact step3 (f := fun b => pf2 (pf1 b)) (fun b hb => ⟨(bytes_at b hb).2.1, (bytes_at b hb).2.2.1⟩) (fun b hb => (bytes_at b hb).2.2.2.1) 8 n
def sumB : Nat → Nat → Nat
  | 0, _ => 0
  | k + 1, n => pop8 (n % 256) + sumB k (n / 256)
theorem dv (a t : Nat) (h : a < 256) : (a + 256 * t) / 256 = t := by omega
theorem add_dig {a b s t x y : Nat} (hx : x = a + 256 * s) (hy : y = b + 256 * t) : x + y = (a + b) + 256 * (s + t) := by omega
theorem dig_le {h t x m : Nat} (hx : x = h + 256 * t) (hh : h ≤ 8) (ht : t ≤ m) : x ≤ 8 + 256 * m := by omega
theorem ones_sum {h0 h1 h2 h3 h4 h5 h6 h7 t0 t1 t2 t3 t4 t5 t6 t7 : Nat} (b0 : h0 ≤ 8) (b1 : h1 ≤ 8) (b2 : h2 ≤ 8) (b3 : h3 ≤ 8) (b4 : h4 ≤ 8) (b5 : h5 ≤ 8) (b6 : h6 ≤ 8) (b7 : h7 ≤ 8)
    (g7 : t7 = h7 + 256 * 0) (g6 : t6 = h6 + 256 * t7) (g5 : t5 = h5 + 256 * t6) (g4 : t4 = h4 + 256 * t5) (g3 : t3 = h3 + 256 * t4) (g2 : t2 = h2 + 256 * t3) (g1 : t1 = h1 + 256 * t2) (g0 : t0 = h0 + 256 * t1) :
    (t0 + t0 / 256 + (t0 + t0 / 256) / 65536 + (t0 + t0 / 256 + (t0 + t0 / 256) / 65536) / 4294967296) % 128 = h0 + (h1 + (h2 + (h3 + (h4 + (h5 + (h6 + (h7 + 0))))))) ∧
    t0 + t0 / 256 + (t0 + t0 / 256) / 65536 + (t0 + t0 / 256 + (t0 + t0 / 256) / 65536) / 4294967296 < 9223372036854775808 ∧ t0 < 9223372036854775808 ∧ t0 + t0 / 256 < 9223372036854775808 ∧ t0 + t0 / 256 + (t0 + t0 / 256) / 65536 < 9223372036854775808 := by
  have q0 : t0 / 256 = t1 := by rw [g0]; exact dv _ _ (by omega)
  have u0 := add_dig g0 g1
  have u1 := add_dig g1 g2
  have u2 := add_dig g2 g3
  have u3 := add_dig g3 g4
  have u4 := add_dig g4 g5
  have u5 := add_dig g5 g6
  have u6 := add_dig g6 g7
  have u7 : t7 + 0 = (h7 + 0) + 256 * (0 + 0) := by rw [g7]
  have z7 : t7 ≤ 8 := by omega
  have z6 := dig_le g6 b6 z7
  have z5 := dig_le g5 b5 z6
  have z4 := dig_le g4 b4 z5
  have z3 := dig_le g3 b3 z4
  have z2 := dig_le g2 b2 z3
  have z1 := dig_le g1 b1 z2
  have z0 := dig_le g0 b0 z1
  clear g0 g1 g2 g3 g4 g5 g6 g7
  have r0 : (t0 + t1) / 65536 = t2 + t3 := by
    rw [show (65536 : Nat) = 256 * 256 from rfl, ← Nat.div_div_eq_div_mul, u0, dv _ _ (by omega), u1, dv _ _ (by omega)]
  have v0 := add_dig u0 u2
  have v1 := add_dig u1 u3
  have v2 := add_dig u2 u4
  have v3 := add_dig u3 u5
  have v4 := add_dig u4 u6
  clear u0 u1 u2 u3 u4 u5 u6 u7
  have s0 : (t0 + t1 + (t2 + t3)) / 4294967296 = t4 + t5 + (t6 + t7) := by
    rw [show (4294967296 : Nat) = 256 * (256 * (256 * 256)) from rfl, ← Nat.div_div_eq_div_mul, v0, dv _ _ (by omega), ← Nat.div_div_eq_div_mul, v1, dv _ _ (by omega), ← Nat.div_div_eq_div_mul, v2, dv _ _ (by omega), v3, dv _ _ (by omega)]
  have x0 := add_dig v0 v4
  clear v0 v1 v2 v3 v4
  rw [q0, r0, s0]
  refine ⟨?_, ?_, ?_, ?_, ?_⟩
  · rw [x0]; clear x0 s0 r0 q0 z0 z1 z2 z3 z4 z5 z6 z7; omega
  all_goals (clear x0 s0 r0 q0; omega)
theorem ones4 (n : Nat) : ∃ x4 x5 x6, x4 = mapB pop8 8 n + mapB pop8 8 n / 256 ∧ x5 = x4 + x4 / 65536 ∧ x6 = x5 + x5 / 4294967296 ∧ x6 % 128 = sumB 8 n ∧ x6 < 9223372036854775808 ∧ mapB pop8 8 n < 9223372036854775808 ∧ x4 < 9223372036854775808 ∧ x5 < 9223372036854775808 := by
  refine ⟨_, _, _, rfl, rfl, rfl, ?_⟩
  have b0 := (bytes_at (n % 256) (by omega)).2.2.2.2.2
  have b1 := (bytes_at (n / 256 % 256) (by omega)).2.2.2.2.2
  have b2 := (bytes_at (n / 256 / 256 % 256) (by omega)).2.2.2.2.2
  have b3 := (bytes_at (n / 256 / 256 / 256 % 256) (by omega)).2.2.2.2.2
  have b4 := (bytes_at (n / 256 / 256 / 256 / 256 % 256) (by omega)).2.2.2.2.2
  have b5 := (bytes_at (n / 256 / 256 / 256 / 256 / 256 % 256) (by omega)).2.2.2.2.2
  have b6 := (bytes_at (n / 256 / 256 / 256 / 256 / 256 / 256 % 256) (by omega)).2.2.2.2.2
  have b7 := (bytes_at (n / 256 / 256 / 256 / 256 / 256 / 256 / 256 % 256) (by omega)).2.2.2.2.2
  simp only [mapB, sumB]
  generalize pop8 (n % 256) = h0 at b0
  generalize pop8 (n / 256 % 256) = h1 at b1
  generalize pop8 (n / 256 / 256 % 256) = h2 at b2
  generalize pop8 (n / 256 / 256 / 256 % 256) = h3 at b3
  generalize pop8 (n / 256 / 256 / 256 / 256 % 256) = h4 at b4
  generalize pop8 (n / 256 / 256 / 256 / 256 / 256 % 256) = h5 at b5
  generalize pop8 (n / 256 / 256 / 256 / 256 / 256 / 256 % 256) = h6 at b6
  generalize pop8 (n / 256 / 256 / 256 / 256 / 256 / 256 / 256 % 256) = h7 at b7
  clear n
  exact ones_sum b0 b1 b2 b3 b4 b5 b6 b7 rfl rfl rfl rfl rfl rfl rfl rfl

theorem bitsN_split (n : Nat) : ∀ m, bitsN n (8 + m) = bitsN (n % 256) 8 + bitsN (n / 256) m
  | 0 => by
    have low : ∀ k, k ≤ 8 → bitsN n k = bitsN (n % 256) k := by
      intro k
      induction k with
      | zero => intro _; rfl
      | succ k ih =>
        intro hk
        rw [bitsN, bitsN, ih (by omega)]
        have := Nat.testBit_mod_two_pow n 8 k
        rw [show (2 : Nat) ^ 8 = 256 from rfl] at this
        rw [this]
        simp [show k < 8 by omega]
    exact low 8 (Nat.le_refl _)
  | m + 1 => by
    have ih := bitsN_split n m
    have h1 : bitsN n (8 + (m + 1)) = bitsN n (8 + m) + (if n.testBit (8 + m) then 1 else 0) := rfl
    have h2 : bitsN (n / 256) (m + 1) = bitsN (n / 256) m + (if (n / 256).testBit m then 1 else 0) := rfl
    have h3 : (n / 256).testBit m = n.testBit (8 + m) := by
      have := Nat.testBit_div_two_pow (n := 8) n m
      rw [show (2 : Nat) ^ 8 = 256 from rfl] at this
      rw [this, Nat.add_comm m 8]
    rw [h1, h2, h3, ih]
    omega
theorem sumB_bits : ∀ k n, sumB k n = bitsN n (8 * k)
  | 0, _ => rfl
  | k + 1, n => by
    rw [sumB, sumB_bits k, show 8 * (k + 1) = 8 + 8 * k by omega, bitsN_split, (bytes_at (n % 256) (by omega)).2.2.2.2.1]
theorem count_word (S : W4) (i : Nat) (hi : i < 4) : ∀ j, j ≤ 64 → countN S (64 * i + j) = countN S (64 * i) + bitsN (S.w i) j
  | 0, _ => rfl
  | j + 1, hj => by
    have ih := count_word S i hi j (by omega)
    rw [← Nat.add_assoc, countN_succ, ih, bitsN]
    unfold hasB
    rw [show (64 * i + j) / 64 = i by omega, show (64 * i + j) % 64 = j by omega]
    omega
/-- how many bytes a set has, word by word -/
theorem count_words (S : W4) : countB S = sumB 8 S.a + sumB 8 S.b + sumB 8 S.c + sumB 8 S.d := by
  have h0 := count_word S 0 (by omega) 64 (Nat.le_refl _)
  have h1 := count_word S 1 (by omega) 64 (Nat.le_refl _)
  have h2 := count_word S 2 (by omega) 64 (Nat.le_refl _)
  have h3 := count_word S 3 (by omega) 64 (Nat.le_refl _)
  rw [sumB_bits, sumB_bits, sumB_bits, sumB_bits, countB_eq]
  simp only [Nat.mul_zero, Nat.zero_add, countN_zero, Nat.mul_one, Nat.reduceMul, Nat.reduceAdd] at h0 h1 h2 h3 ⊢
  rw [h3, h2, h1, h0]
  rfl

end Go.Proofs.YtcledgljbmepaaaGreatDoor
namespace Go.Proofs.YtcledgljbmepaaaGreatDoor
open Go.RowKit

/-- the first k words of the one, the rest of the other -/
def mixW (R S : W4) (k : Nat) : W4 := ⟨if 0 < k then R.a else S.a, if 1 < k then R.b else S.b, if 2 < k then R.c else S.c, if 3 < k then R.d else S.d⟩

set_option maxRecDepth 20000 in
theorem index4 (x0 x1 x2 x3 : Int) (i : Nat) (v : Int) (w : World) (hv : [x0, x1, x2, x3][i]? = some v) :
    (Instr.index 110 (.agg #[.int .u64 x0, .int .u64 x1, .int .u64 x2, .int .u64 x3]) (.int .i64 (i : Int))).run Tryz.prog w = .ok (.int .u64 v) w := by
  have hi : i = 0 ∨ i = 1 ∨ i = 2 ∨ i = 3 := by
    have : i < 4 := by
      rcases Nat.lt_or_ge i 4 with h | h
      · exact h
      · rw [List.getElem?_eq_none (by simpa using h)] at hv; cases hv
    omega
  rcases hi with rfl | rfl | rfl | rfl
  all_goals
    simp at hv
    subst hv
    simp [Instr.index, run_underlying Tryz.underlying110, asIntOf, go_sem, part, isAgg, run_underlying Tryz.underlying108]

set_option maxRecDepth 20000 in
set_option maxHeartbeats 1000000 in
theorem orC (sa sb sc sd ta tb tc td : Nat) (w : World) (hS : Fit4 ⟨sa, sb, sc, sd⟩) (hT : Fit4 ⟨ta, tb, tc, td⟩) :
    Calls Tryz.prog 165 #[valB ⟨sa, sb, sc, sd⟩, valB ⟨ta, tb, tc, td⟩] w fun e w' => e = .returned (valB (orB ⟨sa, sb, sc, sd⟩ ⟨ta, tb, tc, td⟩)) ∧ Below w.heap.size w w' := by
  rw [or_words _ _ hS hT]
  have k0 := u64_or_nat sa ta hS.1 hT.1
  have k1 := u64_or_nat sb tb hS.2 hT.2
  have k2 := u64_or_nat sc tc hS.3 hT.3
  have k3 := u64_or_nat sd td hS.4 hT.4
  simp only
  generalize sa ||| ta = ra at k0 ⊢
  generalize sb ||| tb = rb at k1 ⊢
  generalize sc ||| tc = rc at k2 ⊢
  generalize sd ||| td = rd at k3 ⊢
  clear hS hT
  have ix0 : ∀ u, (Instr.index 110 (.agg #[.int .u64 (ta : Int), .int .u64 (tb : Int), .int .u64 (tc : Int), .int .u64 (td : Int)]) (.int .i64 0)).run Tryz.prog u = .ok (.int .u64 (ta : Int)) u := fun u => index4 ta tb tc td 0 ta u rfl
  have ix1 : ∀ u, (Instr.index 110 (.agg #[.int .u64 (ta : Int), .int .u64 (tb : Int), .int .u64 (tc : Int), .int .u64 (td : Int)]) (.int .i64 1)).run Tryz.prog u = .ok (.int .u64 (tb : Int)) u := fun u => index4 ta tb tc td 1 tb u rfl
  have ix2 : ∀ u, (Instr.index 110 (.agg #[.int .u64 (ta : Int), .int .u64 (tb : Int), .int .u64 (tc : Int), .int .u64 (td : Int)]) (.int .i64 2)).run Tryz.prog u = .ok (.int .u64 (tc : Int)) u := fun u => index4 ta tb tc td 2 tc u rfl
  have ix3 : ∀ u, (Instr.index 110 (.agg #[.int .u64 (ta : Int), .int .u64 (tb : Int), .int .u64 (tc : Int), .int .u64 (td : Int)]) (.int .i64 3)).run Tryz.prog u = .ok (.int .u64 (td : Int)) u := fun u => index4 ta tb tc td 3 td u rfl
  go_enter Tryz.func165, Tryz.ntmps165
  go_wp2
  go_loopw [8] (fun i wr => ∃ k : Nat, k ≤ 4 ∧ i = .int .i64 k ∧ Hid (Blk wr w.heap.size (mixW ⟨ra, rb, rc, rd⟩ ⟨sa, sb, sc, sd⟩ k)) ∧ Hid (Blk wr (w.heap.size + 2) noneB) ∧ Below w.heap.size w wr) (fun i _ => 4 - (intOf i).toNat)
  case atStart => exact ⟨0, Nat.zero_le _, rfl, hid (three_blocks w _ _ _).1, hid (three_blocks w _ _ _).2.2, bl_step (bl_step (al' w _) (al' _ _)) (al' _ _)⟩
  case round =>
    obtain ⟨k, hk, rfl, bS0, bR0, hbl⟩ := hrel
    have hk5 : k = 0 ∨ k = 1 ∨ k = 2 ∨ k = 3 ∨ k = 4 := by omega
    rcases hk5 with rfl | rfl | rfl | rfl | rfl
    · have bS0' : Blk wr w.heap.size ⟨sa, sb, sc, sd⟩ := bS0.out
      obtain ⟨s0, s1, s2, s3, s4, s5, s6, s7⟩ := bS0'.cells
      have bS1 : Blk (wr.setCell ⟨w.heap.size, 0, none⟩ (.int .u64 (ra : Int))) w.heap.size ⟨ra, sb, sc, sd⟩ := heap_setCell bS0'
      have bR1 : Blk (wr.setCell ⟨w.heap.size, 0, none⟩ (.int .u64 (ra : Int))) (w.heap.size + 2) noneB := (Below.heap_setCell _ _ _ _ (by simp)).trans bR0.out
      have bS1 := hid bS1
      have bR1 := hid bR1
      clear bS0'
      go_wp2
      go_roundw
      case rel => exact ⟨1, by omega, rfl, bS1, bR1, bl_set hbl _ _ _ (Nat.le_refl _)⟩
      case measure => simp [intOf]
    · have bS0' : Blk wr w.heap.size ⟨ra, sb, sc, sd⟩ := bS0.out
      obtain ⟨s0, s1, s2, s3, s4, s5, s6, s7⟩ := bS0'.cells
      have bS1 : Blk (wr.setCell ⟨w.heap.size, 1, none⟩ (.int .u64 (rb : Int))) w.heap.size ⟨ra, rb, sc, sd⟩ := heap_setCell bS0'
      have bR1 : Blk (wr.setCell ⟨w.heap.size, 1, none⟩ (.int .u64 (rb : Int))) (w.heap.size + 2) noneB := (Below.heap_setCell _ _ _ _ (by simp)).trans bR0.out
      have bS1 := hid bS1
      have bR1 := hid bR1
      clear bS0'
      go_wp2
      go_roundw
      case rel => exact ⟨2, by omega, rfl, bS1, bR1, bl_set hbl _ _ _ (Nat.le_refl _)⟩
      case measure => simp [intOf]
    · have bS0' : Blk wr w.heap.size ⟨ra, rb, sc, sd⟩ := bS0.out
      obtain ⟨s0, s1, s2, s3, s4, s5, s6, s7⟩ := bS0'.cells
      have bS1 : Blk (wr.setCell ⟨w.heap.size, 2, none⟩ (.int .u64 (rc : Int))) w.heap.size ⟨ra, rb, rc, sd⟩ := heap_setCell bS0'
      have bR1 : Blk (wr.setCell ⟨w.heap.size, 2, none⟩ (.int .u64 (rc : Int))) (w.heap.size + 2) noneB := (Below.heap_setCell _ _ _ _ (by simp)).trans bR0.out
      have bS1 := hid bS1
      have bR1 := hid bR1
      clear bS0'
      go_wp2
      go_roundw
      case rel => exact ⟨3, by omega, rfl, bS1, bR1, bl_set hbl _ _ _ (Nat.le_refl _)⟩
      case measure => simp [intOf]
    · have bS0' : Blk wr w.heap.size ⟨ra, rb, rc, sd⟩ := bS0.out
      obtain ⟨s0, s1, s2, s3, s4, s5, s6, s7⟩ := bS0'.cells
      have bS1 : Blk (wr.setCell ⟨w.heap.size, 3, none⟩ (.int .u64 (rd : Int))) w.heap.size ⟨ra, rb, rc, rd⟩ := heap_setCell bS0'
      have bR1 : Blk (wr.setCell ⟨w.heap.size, 3, none⟩ (.int .u64 (rd : Int))) (w.heap.size + 2) noneB := (Below.heap_setCell _ _ _ _ (by simp)).trans bR0.out
      have bS1 := hid bS1
      have bR1 := hid bR1
      clear bS0'
      go_wp2
      go_roundw
      case rel => exact ⟨4, by omega, rfl, bS1, bR1, bl_set hbl _ _ _ (Nat.le_refl _)⟩
      case measure => simp [intOf]
    · obtain ⟨o0, o1, o2, o3, o4, o5, o6, o7⟩ := Blk.cells (show Blk wr w.heap.size ⟨ra, rb, rc, rd⟩ from bS0.out)
      obtain ⟨r0, r1, r2, r3, r4, r5, r6, r7⟩ := Blk.cells (sa := 0) (sb := 0) (sc := 0) (sd := 0) bR0.out
      go_wp2
      refine bodyPost_ret (v := .agg #[.int .u64 ra, .int .u64 rb, .int .u64 rc, .int .u64 rd]) (by simp [results, Tryz.results165, go_sem, r0, r1, r2, r3]) rfl ⟨rfl, bl_put hbl ⟨ra, rb, rc, rd⟩ (by omega)⟩

theorem not_u64 (n : Nat) (hn : n < 18446744073709551616) : bits .xor .u64 (if IntKind.u64.signed = true then -1 else IntKind.u64.max) (n : Int) = ((18446744073709551615 - n : Nat) : Int) := by
  rw [show (if IntKind.u64.signed = true then -1 else IntKind.u64.max) = ((18446744073709551615 : Nat) : Int) by decide, u64_xor_nat _ _ (by omega) hn, Nat.xor_comm, xor_all n hn]
set_option maxRecDepth 20000 in
set_option maxHeartbeats 1000000 in
theorem notC (sa sb sc sd : Nat) (w : World) (hS : Fit4 ⟨sa, sb, sc, sd⟩) :
    Calls Tryz.prog 126 #[valB ⟨sa, sb, sc, sd⟩] w fun e w' => e = .returned (valB (notB ⟨sa, sb, sc, sd⟩)) ∧ Below w.heap.size w w' := by
  rw [not_words _ hS]
  have k0 := not_u64 sa hS.1
  have k1 := not_u64 sb hS.2
  have k2 := not_u64 sc hS.3
  have k3 := not_u64 sd hS.4
  simp only
  generalize 18446744073709551615 - sa = ra at k0 ⊢
  generalize 18446744073709551615 - sb = rb at k1 ⊢
  generalize 18446744073709551615 - sc = rc at k2 ⊢
  generalize 18446744073709551615 - sd = rd at k3 ⊢
  clear hS
  have ix0 : ∀ u, (Instr.index 110 (.agg #[.int .u64 (sa : Int), .int .u64 (sb : Int), .int .u64 (sc : Int), .int .u64 (sd : Int)]) (.int .i64 0)).run Tryz.prog u = .ok (.int .u64 (sa : Int)) u := fun u => index4 sa sb sc sd 0 sa u rfl
  have ix1 : ∀ u, (Instr.index 110 (.agg #[.int .u64 (sa : Int), .int .u64 (sb : Int), .int .u64 (sc : Int), .int .u64 (sd : Int)]) (.int .i64 1)).run Tryz.prog u = .ok (.int .u64 (sb : Int)) u := fun u => index4 sa sb sc sd 1 sb u rfl
  have ix2 : ∀ u, (Instr.index 110 (.agg #[.int .u64 (sa : Int), .int .u64 (sb : Int), .int .u64 (sc : Int), .int .u64 (sd : Int)]) (.int .i64 2)).run Tryz.prog u = .ok (.int .u64 (sc : Int)) u := fun u => index4 sa sb sc sd 2 sc u rfl
  have ix3 : ∀ u, (Instr.index 110 (.agg #[.int .u64 (sa : Int), .int .u64 (sb : Int), .int .u64 (sc : Int), .int .u64 (sd : Int)]) (.int .i64 3)).run Tryz.prog u = .ok (.int .u64 (sd : Int)) u := fun u => index4 sa sb sc sd 3 sd u rfl
  go_enter Tryz.func126, Tryz.ntmps126
  go_wp2
  go_loopw [7] (fun i wr => ∃ k : Nat, k ≤ 4 ∧ i = .int .i64 k ∧ Hid (Blk wr (w.heap.size + 2) (mixW ⟨ra, rb, rc, rd⟩ ⟨0, 0, 0, 0⟩ k)) ∧ Hid (Blk wr (w.heap.size + 1) noneB) ∧ Below w.heap.size w wr) (fun i _ => 4 - (intOf i).toNat)
  case atStart => exact ⟨0, Nat.zero_le _, rfl, hid (three_blocks w _ _ _).2.2, hid (three_blocks w _ _ _).2.1, bl_step (bl_step (al' w _) (al' _ _)) (al' _ _)⟩
  case round =>
    obtain ⟨k, hk, rfl, bS0, bR0, hbl⟩ := hrel
    have hk5 : k = 0 ∨ k = 1 ∨ k = 2 ∨ k = 3 ∨ k = 4 := by omega
    rcases hk5 with rfl | rfl | rfl | rfl | rfl
    · have bS0' : Blk wr (w.heap.size + 2) ⟨0, 0, 0, 0⟩ := bS0.out
      obtain ⟨s0, s1, s2, s3, s4, s5, s6, s7⟩ := bS0'.cells
      have bS1 : Blk (wr.setCell ⟨w.heap.size + 2, 0, none⟩ (.int .u64 (ra : Int))) (w.heap.size + 2) ⟨ra, 0, 0, 0⟩ := heap_setCell bS0'
      have bR1 : Blk (wr.setCell ⟨w.heap.size + 2, 0, none⟩ (.int .u64 (ra : Int))) (w.heap.size + 1) noneB := (Below.heap_setCell _ _ _ _ (by simp)).trans bR0.out
      have bS1 := hid bS1
      have bR1 := hid bR1
      clear bS0'
      go_wp2
      go_roundw
      case rel => exact ⟨1, by omega, rfl, bS1, bR1, bl_set hbl _ _ _ (by omega)⟩
      case measure => simp [intOf]
    · have bS0' : Blk wr (w.heap.size + 2) ⟨ra, 0, 0, 0⟩ := bS0.out
      obtain ⟨s0, s1, s2, s3, s4, s5, s6, s7⟩ := bS0'.cells
      have bS1 : Blk (wr.setCell ⟨w.heap.size + 2, 1, none⟩ (.int .u64 (rb : Int))) (w.heap.size + 2) ⟨ra, rb, 0, 0⟩ := heap_setCell bS0'
      have bR1 : Blk (wr.setCell ⟨w.heap.size + 2, 1, none⟩ (.int .u64 (rb : Int))) (w.heap.size + 1) noneB := (Below.heap_setCell _ _ _ _ (by simp)).trans bR0.out
      have bS1 := hid bS1
      have bR1 := hid bR1
      clear bS0'
      go_wp2
      go_roundw
      case rel => exact ⟨2, by omega, rfl, bS1, bR1, bl_set hbl _ _ _ (by omega)⟩
      case measure => simp [intOf]
    · have bS0' : Blk wr (w.heap.size + 2) ⟨ra, rb, 0, 0⟩ := bS0.out
      obtain ⟨s0, s1, s2, s3, s4, s5, s6, s7⟩ := bS0'.cells
      have bS1 : Blk (wr.setCell ⟨w.heap.size + 2, 2, none⟩ (.int .u64 (rc : Int))) (w.heap.size + 2) ⟨ra, rb, rc, 0⟩ := heap_setCell bS0'
      have bR1 : Blk (wr.setCell ⟨w.heap.size + 2, 2, none⟩ (.int .u64 (rc : Int))) (w.heap.size + 1) noneB := (Below.heap_setCell _ _ _ _ (by simp)).trans bR0.out
      have bS1 := hid bS1
      have bR1 := hid bR1
      clear bS0'
      go_wp2
      go_roundw
      case rel => exact ⟨3, by omega, rfl, bS1, bR1, bl_set hbl _ _ _ (by omega)⟩
      case measure => simp [intOf]
    · have bS0' : Blk wr (w.heap.size + 2) ⟨ra, rb, rc, 0⟩ := bS0.out
      obtain ⟨s0, s1, s2, s3, s4, s5, s6, s7⟩ := bS0'.cells
      have bS1 : Blk (wr.setCell ⟨w.heap.size + 2, 3, none⟩ (.int .u64 (rd : Int))) (w.heap.size + 2) ⟨ra, rb, rc, rd⟩ := heap_setCell bS0'
      have bR1 : Blk (wr.setCell ⟨w.heap.size + 2, 3, none⟩ (.int .u64 (rd : Int))) (w.heap.size + 1) noneB := (Below.heap_setCell _ _ _ _ (by simp)).trans bR0.out
      have bS1 := hid bS1
      have bR1 := hid bR1
      clear bS0'
      go_wp2
      go_roundw
      case rel => exact ⟨4, by omega, rfl, bS1, bR1, bl_set hbl _ _ _ (by omega)⟩
      case measure => simp [intOf]
    · obtain ⟨o0, o1, o2, o3, o4, o5, o6, o7⟩ := Blk.cells (show Blk wr (w.heap.size + 2) ⟨ra, rb, rc, rd⟩ from bS0.out)
      obtain ⟨r0, r1, r2, r3, r4, r5, r6, r7⟩ := Blk.cells (sa := 0) (sb := 0) (sc := 0) (sd := 0) bR0.out
      go_wp2
      refine bodyPost_ret (v := .agg #[.int .u64 ra, .int .u64 rb, .int .u64 rc, .int .u64 rd]) (by simp [results, Tryz.results126, go_sem, r0, r1, r2, r3]) rfl ⟨rfl, bl_put hbl ⟨ra, rb, rc, rd⟩ (by omega)⟩


end Go.Proofs.YtcledgljbmepaaaGreatDoor
