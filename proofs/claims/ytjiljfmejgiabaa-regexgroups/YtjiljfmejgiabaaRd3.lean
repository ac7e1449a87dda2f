/- The reader: which signs are plain; digit, escaped, told. -/
import Derived.Test.YtjiljfmejgiabaaRd2
namespace Go.Proofs.Ytjiljfmejgiabaa
open Go.RowKit

theorem visibleC (n : Nat) (w : World) (hn : n < 256) : Calls Try.prog 46 #[.int .u8 (n : Int)] w fun e w' => e = .returned (.bool (decide (32 ≤ n ∧ n ≤ 126))) ∧ w' = w := by
  by_cases h1 : 32 ≤ n
  · by_cases h2 : n ≤ 126
    · rw [decide_eq_true (⟨h1, h2⟩ : 32 ≤ n ∧ n ≤ 126)]
      have h1z : (32 : Int) ≤ (n : Int) := by omega
      have h2z : (n : Int) ≤ 126 := by omega
      go_enter Try.func46, Try.ntmps46; go_wp2; go_ret; exact ⟨by simp, rfl⟩
    · rw [decide_eq_false (fun h : 32 ≤ n ∧ n ≤ 126 => h2 h.2)]
      have h1z : (32 : Int) ≤ (n : Int) := by omega
      have h2z : ¬ (n : Int) ≤ 126 := by omega
      go_enter Try.func46, Try.ntmps46; go_wp2; go_ret; exact ⟨by simp, rfl⟩
  · rw [decide_eq_false (fun h : 32 ≤ n ∧ n ≤ 126 => h1 h.1)]
    have h1z : ¬ (32 : Int) ≤ (n : Int) := by omega
    go_enter Try.func46, Try.ntmps46; go_wp2; go_ret; exact ⟨rfl, rfl⟩

theorem ext48 (S : ByteArray) (z : Int) (w : World) : (callFunc 48 #[.string S, .int .u8 z]).run Try.prog w = .ok (.value (.int .i64 (Lib.indexByte S.data.toList z.toNat.toUInt8))) w := by
  rw [run_callFunc_indexByte Try.func48 (by kernel_rfl) (by kernel_rfl) (by kernel_rfl) (by kernel_rfl), Lib.run_indexByteString]
  rfl
theorem lite47 (S : ByteArray) (z : Int) (w : World) : Calls Try.prog 47 #[.string S, .int .u8 z] w fun e w' => e = .returned (.int .i64 (Lib.indexByte S.data.toList z.toNat.toUInt8)) ∧ w' = w := by
  have hx := ext48 S z
  go_enter Try.func47, Try.ntmps47
  go_wp2
  go_ret
  exact ⟨rfl, rfl⟩
theorem idxC (S : ByteArray) (z : Int) (w : World) : Calls Try.prog 45 #[.string S, .int .u8 z] w fun e w' => e = .returned (.int .i64 (Lib.indexByte S.data.toList z.toNat.toUInt8)) ∧ w' = w := by
  have G := hid (lite47 S z)
  go_enter Try.func45, Try.ntmps45
  go_wp2_with (go_at_call 47; refine (G.out _).mono ?_; rintro e w1 ⟨rfl, hw⟩; subst w1)
  go_ret
  exact ⟨rfl, rfl⟩

abbrev atomS : ByteArray := ⟨#[46, 42, 43, 63, 40, 41, 91, 93, 124, 92, 47]⟩
abbrev classS : ByteArray := ⟨#[93, 91, 92, 94, 45, 47]⟩
abbrev bothS : ByteArray := ⟨#[46, 42, 43, 63, 40, 41, 91, 93, 124, 92, 47, 93, 91, 92, 94, 45, 47]⟩
/-- a list of signs tells what a function tells -/
def Tells (S : ByteArray) (tell : UInt8 → Bool) : Prop := ∀ n, n < 256 → decide (Lib.indexByte S.data.toList (UInt8.ofNat n) < 0) = !tell (UInt8.ofNat n)
theorem tells_atom : Tells atomS tellA := by
  have h : ∀ b : Fin 256, decide (Lib.indexByte atomS.data.toList (UInt8.ofNat b) < 0) = !tellA (UInt8.ofNat b) := by decide +kernel
  exact fun n hn => h ⟨n, hn⟩
theorem tells_class : Tells classS tellC := by
  have h : ∀ b : Fin 256, decide (Lib.indexByte classS.data.toList (UInt8.ofNat b) < 0) = !tellC (UInt8.ofNat b) := by decide +kernel
  exact fun n hn => h ⟨n, hn⟩
theorem tells_both : Tells bothS escD := by
  have h : ∀ b : Fin 256, decide (Lib.indexByte bothS.data.toList (UInt8.ofNat b) < 0) = !escD (UInt8.ofNat b) := by decide +kernel
  exact fun n hn => h ⟨n, hn⟩
theorem toU8 (n : Nat) : ((n : Int)).toNat.toUInt8 = UInt8.ofNat n := rfl
def plainB (n : Nat) (tell : UInt8 → Bool) : Bool := decide (32 ≤ n ∧ n ≤ 126) && !tell (UInt8.ofNat n)

theorem plainC (n : Nat) (S : ByteArray) (tell : UInt8 → Bool) (w : World) (hn : n < 256) (ht : Tells S tell) : Calls Try.prog 42 #[.int .u8 (n : Int), .string S] w fun e w' => e = .returned (.bool (plainB n tell)) ∧ w' = w := by
  have GV := hid (visibleC n w hn)
  have GI := hid (idxC S (n : Int) w)
  rw [toU8] at GI
  have hle := Lib.indexByte_ge S.data.toList (UInt8.ofNat n)
  have hh : Hid (decide (Lib.indexByte S.data.toList (UInt8.ofNat n) < 0) = !tell (UInt8.ofNat n)) := hid (ht n hn)
  unfold plainB
  generalize Lib.indexByte S.data.toList (UInt8.ofNat n) = z at GI hh hle
  cases hv : decide (32 ≤ n ∧ n ≤ 126) with
  | false =>
    rw [hv] at GV
    clear hv
    go_enter Try.func42, Try.ntmps42
    go_wp2_with (go_at_call 46; refine GV.out.mono ?_; rintro e w1 ⟨rfl, hw⟩; subst w1)
    go_ret
    exact ⟨rfl, rfl⟩
  | true =>
    rw [hv] at GV
    rw [← hh.out]
    clear hv
    go_enter Try.func42, Try.ntmps42
    go_wp2_with (first
      | (go_at_call 46; refine GV.out.mono ?_; rintro e w1 ⟨rfl, hw⟩; subst w1)
      | (go_at_call 45; refine GI.out.mono ?_; rintro e w1 ⟨rfl, hw⟩; subst w1))
    go_ret
    exact ⟨rfl, rfl⟩

/-- what is told from p on -/
def Said (p : Int) (res : Option (Nat × Txt)) (w : World) (rb : Nat) (v : Value) (s : Txt) : Ending → World → Prop := fun e w' =>
  (match res with
    | some (b, q) => e = .returned (.int .u8 (b : Int)) ∧ At w' rb v s q
    | none => e = .panicked [{ v := .iface 43 (.int .i64 p), recovered := false }]) ∧ Kept (oneBlk rb) w w'

theorem hexF_nat (c : UInt8) : hexF c = if 48 ≤ c.toNat ∧ c.toNat ≤ 57 then some (c.toNat - 48) else if 97 ≤ c.toNat ∧ c.toNat ≤ 102 then some (c.toNat - 87) else if 65 ≤ c.toNat ∧ c.toNat ≤ 70 then some (c.toNat - 55) else none := rfl
theorem ret_u8 {a b : Int} (h : a = b) : Ending.returned (.int .u8 a) = .returned (.int .u8 b) := by rw [h]
def hexP : Txt → Option (Nat × Txt)
  | [] => none
  | c :: r => match hexF c with
    | some a => some (a, r)
    | none => none

set_option maxHeartbeats 1000000 in
theorem digitC {w : World} {rb : Nat} {v : Value} {s q : Txt} (h : At w rb v s q) (hs : s.length ≤ 200) (p : Int) :
    Calls Try.prog 44 #[.pointer (some ⟨rb, 0, none⟩), .int .i64 p] w (Said p (hexP q) w rb v s) := by
  cases q with
  | nil =>
    have G := hid (nextNo h hs p)
    clear h
    go_enter Try.func44, Try.ntmps44
    go_wp2_with (go_at_call 40; refine G.out.mono ?_; rintro e w1 ⟨rfl, hb1⟩)
    exact ⟨rfl, rfl, Kept.of_below hb1⟩
  | cons c r =>
    have G := hid (nextYes h hs p)
    have hn := c.toNat_lt
    show Calls _ _ _ _ (Said p (match hexF c with | some a => some (a, r) | none => none) w rb v s)
    rw [hexF_nat]
    generalize c.toNat = n at G hn ⊢
    clear h
    by_cases h1 : 48 ≤ n ∧ n ≤ 57
    · rw [if_pos h1]
      obtain ⟨ha, hb⟩ := h1
      have hz : (48 : Int) ≤ (n : Int) := by omega
      have hz' : (n : Int) ≤ 57 := by omega
      go_enter Try.func44, Try.ntmps44
      go_wp2_with (go_at_call 40; refine G.out.mono ?_; rintro e w1 ⟨rfl, hat, hk⟩; have hat := hid hat)
      go_ret
      exact ⟨⟨ret_u8 (by omega), hat.out⟩, hk⟩
    rw [if_neg h1]
    have hd1 : 48 ≤ n → ¬ n ≤ 57 := fun a b => h1 ⟨a, b⟩
    by_cases h2 : 97 ≤ n ∧ n ≤ 102
    · rw [if_pos h2]
      obtain ⟨ha, hb⟩ := h2
      clear h1 hd1
      have hz : (97 : Int) ≤ (n : Int) := by omega
      have hz' : (n : Int) ≤ 102 := by omega
      go_enter Try.func44, Try.ntmps44
      go_wp2_with (go_at_call 40; refine G.out.mono ?_; rintro e w1 ⟨rfl, hat, hk⟩; have hat := hid hat)
      go_ret
      exact ⟨⟨ret_u8 (by omega), hat.out⟩, hk⟩
    rw [if_neg h2]
    by_cases h3 : 65 ≤ n ∧ n ≤ 70
    · rw [if_pos h3]
      obtain ⟨ha, hb⟩ := h3
      clear h1 hd1 h2
      have hz : (65 : Int) ≤ (n : Int) := by omega
      have hz' : (n : Int) ≤ 70 := by omega
      go_enter Try.func44, Try.ntmps44
      go_wp2_with (go_at_call 40; refine G.out.mono ?_; rintro e w1 ⟨rfl, hat, hk⟩; have hat := hid hat)
      go_ret
      exact ⟨⟨ret_u8 (by omega), hat.out⟩, hk⟩
    rw [if_neg h3]
    have hcase : n < 48 ∨ (58 ≤ n ∧ n < 65) ∨ (71 ≤ n ∧ n < 97) ∨ 103 ≤ n := by omega
    clear h1 h2 h3 hd1
    rcases hcase with h | ⟨h, h'⟩ | ⟨h, h'⟩ | h
    all_goals
      go_enter Try.func44, Try.ntmps44
      go_wp2_with (go_at_call 40; refine G.out.mono ?_; rintro e w1 ⟨rfl, hat, hk⟩)
      exact ⟨rfl, rfl, hk⟩

theorem Said.low {p : Int} {res : Option (Nat × Txt)} {w u : World} {rb : Nat} {v : Value} {s : Txt} {e : Ending} {w' : World} (hk : Kept (oneBlk rb) w u) (h : Said p res u rb v s e w') : Said p res w rb v s e w' := ⟨h.1, hk.trans h.2⟩
theorem Said.no {p : Int} {w : World} {rb : Nat} {v : Value} {s : Txt} {e : Ending} {w' : World} (h : Said p none w rb v s e w') : e = .panicked [{ v := .iface 43 (.int .i64 p), recovered := false }] ∧ Kept (oneBlk rb) w w' := h
theorem Said.yes {p : Int} {b : Nat} {q : Txt} {w : World} {rb : Nat} {v : Value} {s : Txt} {e : Ending} {w' : World} (h : Said p (some (b, q)) w rb v s e w') : e = .returned (.int .u8 (b : Int)) ∧ At w' rb v s q ∧ Kept (oneBlk rb) w w' := ⟨h.1.1, h.1.2, h.2⟩

end Go.Proofs.Ytjiljfmejgiabaa
