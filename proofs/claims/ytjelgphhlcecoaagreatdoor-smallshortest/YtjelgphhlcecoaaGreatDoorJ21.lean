/- The reader: which signs are plain; digit, escaped, told. Sets of bytes word by word: or, and, not, one; how many bits a word has. Or, Not of package bytes. bit, One of package bytes. -/
import Derived.Test.YtjelgphhlcecoaaGreatDoorJ20
import Derived.Test.YtjelgphhlcecoaaGreatDoorJ1
import Derived.Test.YtjelgphhlcecoaaGreatDoorJ2
import Derived.Laws.BitsAllLaws
import Derived.Laws.Bits128
import Derived.BigQuiet
namespace Go.Proofs.YtjelgphhlcecoaaGreatDoor
open Go.RowKit

set_option maxRecDepth 20000 in
theorem visibleC (n : Nat) (w : World) (hn : n < 256) : Calls Tryz.prog 129 #[.int .u8 (n : Int)] w fun e w' => e = .returned (.bool (decide (32 ≤ n ∧ n ≤ 126))) ∧ w' = w := by
  by_cases h1 : 32 ≤ n
  · by_cases h2 : n ≤ 126
    · rw [decide_eq_true (⟨h1, h2⟩ : 32 ≤ n ∧ n ≤ 126)]
      have h1z : (32 : Int) ≤ (n : Int) := by omega
      have h2z : (n : Int) ≤ 126 := by omega
      go_enter Tryz.func129, Tryz.ntmps129; go_wp2; go_ret; exact ⟨by simp, rfl⟩
    · rw [decide_eq_false (fun h : 32 ≤ n ∧ n ≤ 126 => h2 h.2)]
      have h1z : (32 : Int) ≤ (n : Int) := by omega
      have h2z : ¬ (n : Int) ≤ 126 := by omega
      go_enter Tryz.func129, Tryz.ntmps129; go_wp2; go_ret; exact ⟨by simp, rfl⟩
  · rw [decide_eq_false (fun h : 32 ≤ n ∧ n ≤ 126 => h1 h.1)]
    have h1z : ¬ (32 : Int) ≤ (n : Int) := by omega
    go_enter Tryz.func129, Tryz.ntmps129; go_wp2; go_ret; exact ⟨rfl, rfl⟩

set_option maxRecDepth 20000 in
theorem ext48 (S : ByteArray) (z : Int) (w : World) : (callFunc 94 #[.string S, .int .u8 z]).run Tryz.prog w = .ok (.value (.int .i64 (Lib.indexByte S.data.toList z.toNat.toUInt8))) w := by
  rw [run_callFunc_indexByte Tryz.func94 (by kernel_rfl) (by kernel_rfl) (by kernel_rfl) (by kernel_rfl), Lib.run_indexByteString]
  rfl
set_option maxRecDepth 20000 in
theorem lite47 (S : ByteArray) (z : Int) (w : World) : Calls Tryz.prog 74 #[.string S, .int .u8 z] w fun e w' => e = .returned (.int .i64 (Lib.indexByte S.data.toList z.toNat.toUInt8)) ∧ w' = w := by
  have hx := ext48 S z
  go_enter Tryz.func74, Tryz.ntmps74
  go_wp2
  go_ret
  exact ⟨rfl, rfl⟩
set_option maxRecDepth 20000 in
theorem idxC (S : ByteArray) (z : Int) (w : World) : Calls Tryz.prog 57 #[.string S, .int .u8 z] w fun e w' => e = .returned (.int .i64 (Lib.indexByte S.data.toList z.toNat.toUInt8)) ∧ w' = w := by
  have G := hid (lite47 S z)
  go_enter Tryz.func57, Tryz.ntmps57
  go_wp2_with (go_at_call 74; refine (G.out _).mono ?_; rintro e w1 ⟨rfl, hw⟩; subst w1)
  go_ret
  exact ⟨rfl, rfl⟩

abbrev atomS : ByteArray := ⟨#[46, 42, 43, 63, 40, 41, 91, 93, 124, 92, 47]⟩
abbrev classS : ByteArray := ⟨#[93, 91, 92, 94, 45, 47]⟩
abbrev bothS : ByteArray := ⟨#[46, 42, 43, 63, 40, 41, 91, 93, 124, 92, 47, 93, 91, 92, 94, 45, 47]⟩
/-- a list of signs tells what a function tells -/
def Tells (S : ByteArray) (tell : UInt8 → Bool) : Prop := ∀ n, n < 256 → decide (Lib.indexByte S.data.toList (UInt8.ofNat n) < 0) = !tell (UInt8.ofNat n)
theorem tells_atom : Tells atomS tellA := by
  have h : ∀ b : Fin 256, decide (Lib.indexByte atomS.data.toList (UInt8.ofNat b) < 0) = !tellA (UInt8.ofNat b) := by decide +kernel
  exact fun n hn => h ⟨n, hn⟩
theorem tells_class : Tells classS tellC := by
  have h : ∀ b : Fin 256, decide (Lib.indexByte classS.data.toList (UInt8.ofNat b) < 0) = !tellC (UInt8.ofNat b) := by decide +kernel
  exact fun n hn => h ⟨n, hn⟩
theorem tells_both : Tells bothS escD := by
  have h : ∀ b : Fin 256, decide (Lib.indexByte bothS.data.toList (UInt8.ofNat b) < 0) = !escD (UInt8.ofNat b) := by decide +kernel
  exact fun n hn => h ⟨n, hn⟩
theorem toU8 (n : Nat) : ((n : Int)).toNat.toUInt8 = UInt8.ofNat n := rfl
def plainB (n : Nat) (tell : UInt8 → Bool) : Bool := decide (32 ≤ n ∧ n ≤ 126) && !tell (UInt8.ofNat n)

set_option maxRecDepth 20000 in
theorem plainC (n : Nat) (S : ByteArray) (tell : UInt8 → Bool) (w : World) (hn : n < 256) (ht : Tells S tell) : Calls Tryz.prog 117 #[.int .u8 (n : Int), .string S] w fun e w' => e = .returned (.bool (plainB n tell)) ∧ w' = w := by
  have GV := hid (visibleC n w hn)
  have GI := hid (idxC S (n : Int) w)
  rw [toU8] at GI
  have hle := Lib.indexByte_ge S.data.toList (UInt8.ofNat n)
  have hh : Hid (decide (Lib.indexByte S.data.toList (UInt8.ofNat n) < 0) = !tell (UInt8.ofNat n)) := hid (ht n hn)
  unfold plainB
  generalize Lib.indexByte S.data.toList (UInt8.ofNat n) = z at GI hh hle
  cases hv : decide (32 ≤ n ∧ n ≤ 126) with
  | false =>
    rw [hv] at GV
    clear hv
    go_enter Tryz.func117, Tryz.ntmps117
    go_wp2_with (go_at_call 129; refine GV.out.mono ?_; rintro e w1 ⟨rfl, hw⟩; subst w1)
    go_ret
    exact ⟨rfl, rfl⟩
  | true =>
    rw [hv] at GV
    rw [← hh.out]
    clear hv
    go_enter Tryz.func117, Tryz.ntmps117
    go_wp2_with (first
      | (go_at_call 129; refine GV.out.mono ?_; rintro e w1 ⟨rfl, hw⟩; subst w1)
      | (go_at_call 57; refine GI.out.mono ?_; rintro e w1 ⟨rfl, hw⟩; subst w1))
    go_ret
    exact ⟨rfl, rfl⟩

/-- what is told from p on -/
def Said (p : Int) (res : Option (Nat × Txt)) (w : World) (rb : Nat) (v : Value) (s : Txt) : Ending → World → Prop := fun e w' =>
  (match res with
    | some (b, q) => e = .returned (.int .u8 (b : Int)) ∧ At w' rb v s q
    | none => e = .panicked [{ v := .iface 87 (.int .i64 p), recovered := false }]) ∧ Kept (oneBlk rb) w w'

theorem hexF_nat (c : UInt8) : hexF c = if 48 ≤ c.toNat ∧ c.toNat ≤ 57 then some (c.toNat - 48) else if 97 ≤ c.toNat ∧ c.toNat ≤ 102 then some (c.toNat - 87) else if 65 ≤ c.toNat ∧ c.toNat ≤ 70 then some (c.toNat - 55) else none := rfl
theorem ret_u8 {a b : Int} (h : a = b) : Ending.returned (.int .u8 a) = .returned (.int .u8 b) := by rw [h]
def hexP : Txt → Option (Nat × Txt)
  | [] => none
  | c :: r => match hexF c with
    | some a => some (a, r)
    | none => none

set_option maxRecDepth 20000 in
set_option maxHeartbeats 1000000 in
theorem digitC {w : World} {rb : Nat} {v : Value} {s q : Txt} (h : At w rb v s q) (hs : s.length ≤ 200) (p : Int) :
    Calls Tryz.prog 128 #[.pointer (some ⟨rb, 0, none⟩), .int .i64 p] w (Said p (hexP q) w rb v s) := by
  cases q with
  | nil =>
    have G := hid (nextNo h hs p)
    clear h
    go_enter Tryz.func128, Tryz.ntmps128
    go_wp2_with (go_at_call 115; refine G.out.mono ?_; rintro e w1 ⟨rfl, hb1⟩)
    exact ⟨rfl, rfl, Kept.of_below hb1⟩
  | cons c r =>
    have G := hid (nextYes h hs p)
    have hn := c.toNat_lt
    show Calls _ _ _ _ (Said p (match hexF c with | some a => some (a, r) | none => none) w rb v s)
    rw [hexF_nat]
    generalize c.toNat = n at G hn ⊢
    clear h
    by_cases h1 : 48 ≤ n ∧ n ≤ 57
    · rw [if_pos h1]
      obtain ⟨ha, hb⟩ := h1
      have hz : (48 : Int) ≤ (n : Int) := by omega
      have hz' : (n : Int) ≤ 57 := by omega
      go_enter Tryz.func128, Tryz.ntmps128
      go_wp2_with (go_at_call 115; refine G.out.mono ?_; rintro e w1 ⟨rfl, hat, hk⟩; have hat := hid hat)
      go_ret
      exact ⟨⟨ret_u8 (by omega), hat.out⟩, hk⟩
    rw [if_neg h1]
    have hd1 : 48 ≤ n → ¬ n ≤ 57 := fun a b => h1 ⟨a, b⟩
    by_cases h2 : 97 ≤ n ∧ n ≤ 102
    · rw [if_pos h2]
      obtain ⟨ha, hb⟩ := h2
      clear h1 hd1
      have hz : (97 : Int) ≤ (n : Int) := by omega
      have hz' : (n : Int) ≤ 102 := by omega
      go_enter Tryz.func128, Tryz.ntmps128
      go_wp2_with (go_at_call 115; refine G.out.mono ?_; rintro e w1 ⟨rfl, hat, hk⟩; have hat := hid hat)
      go_ret
      exact ⟨⟨ret_u8 (by omega), hat.out⟩, hk⟩
    rw [if_neg h2]
    by_cases h3 : 65 ≤ n ∧ n ≤ 70
    · rw [if_pos h3]
      obtain ⟨ha, hb⟩ := h3
      clear h1 hd1 h2
      have hz : (65 : Int) ≤ (n : Int) := by omega
      have hz' : (n : Int) ≤ 70 := by omega
      go_enter Tryz.func128, Tryz.ntmps128
      go_wp2_with (go_at_call 115; refine G.out.mono ?_; rintro e w1 ⟨rfl, hat, hk⟩; have hat := hid hat)
      go_ret
      exact ⟨⟨ret_u8 (by omega), hat.out⟩, hk⟩
    rw [if_neg h3]
    have hcase : n < 48 ∨ (58 ≤ n ∧ n < 65) ∨ (71 ≤ n ∧ n < 97) ∨ 103 ≤ n := by omega
    clear h1 h2 h3 hd1
    rcases hcase with h | ⟨h, h'⟩ | ⟨h, h'⟩ | h
    all_goals
      go_enter Tryz.func128, Tryz.ntmps128
      go_wp2_with (go_at_call 115; refine G.out.mono ?_; rintro e w1 ⟨rfl, hat, hk⟩)
      exact ⟨rfl, rfl, hk⟩

theorem Said.low {p : Int} {res : Option (Nat × Txt)} {w u : World} {rb : Nat} {v : Value} {s : Txt} {e : Ending} {w' : World} (hk : Kept (oneBlk rb) w u) (h : Said p res u rb v s e w') : Said p res w rb v s e w' := ⟨h.1, hk.trans h.2⟩
theorem Said.no {p : Int} {w : World} {rb : Nat} {v : Value} {s : Txt} {e : Ending} {w' : World} (h : Said p none w rb v s e w') : e = .panicked [{ v := .iface 87 (.int .i64 p), recovered := false }] ∧ Kept (oneBlk rb) w w' := h
theorem Said.yes {p : Int} {b : Nat} {q : Txt} {w : World} {rb : Nat} {v : Value} {s : Txt} {e : Ending} {w' : World} (h : Said p (some (b, q)) w rb v s e w') : e = .returned (.int .u8 (b : Int)) ∧ At w' rb v s q ∧ Kept (oneBlk rb) w w' := ⟨h.1.1, h.1.2, h.2⟩

end Go.Proofs.YtjelgphhlcecoaaGreatDoor
namespace Go.Proofs.YtjelgphhlcecoaaGreatDoor

theorem or_words (S T : W4) (hS : Fit4 S) (hT : Fit4 T) : orB S T = ⟨S.a ||| T.a, S.b ||| T.b, S.c ||| T.c, S.d ||| T.d⟩ := by
  have lt : ∀ m n : Nat, m < 18446744073709551616 → n < 18446744073709551616 → m ||| n < 18446744073709551616 := fun m n hm hn => Nat.or_lt_two_pow (n := 64) hm hn
  refine (mkB_eq ⟨lt _ _ hS.a hT.a, lt _ _ hS.b hT.b, lt _ _ hS.c hT.c, lt _ _ hS.d hT.d⟩ fun x hx => ?_).symm
  unfold hasB
  have h4 : x / 64 = 0 ∨ x / 64 = 1 ∨ x / 64 = 2 ∨ x / 64 = 3 := by omega
  rcases h4 with h | h | h | h <;> rw [h] <;> exact Nat.testBit_or _ _ _
theorem and_words (S T : W4) (hS : Fit4 S) : andB S T = ⟨S.a &&& T.a, S.b &&& T.b, S.c &&& T.c, S.d &&& T.d⟩ := by
  have lt : ∀ m n : Nat, m < 18446744073709551616 → m &&& n < 18446744073709551616 := fun m n hm => Nat.lt_of_le_of_lt Nat.and_le_left hm
  refine (mkB_eq ⟨lt _ _ hS.a, lt _ _ hS.b, lt _ _ hS.c, lt _ _ hS.d⟩ fun x hx => ?_).symm
  unfold hasB
  have h4 : x / 64 = 0 ∨ x / 64 = 1 ∨ x / 64 = 2 ∨ x / 64 = 3 := by omega
  rcases h4 with h | h | h | h <;> rw [h] <;> exact Nat.testBit_and _ _ _
theorem not_bit (n j : Nat) (hn : n < 18446744073709551616) (hj : j < 64) : (18446744073709551615 - n).testBit j = !n.testBit j := by
  have := Nat.testBit_two_pow_sub_succ (n := 64) (x := n) hn j
  rw [show (2 : Nat) ^ 64 - (n + 1) = 18446744073709551615 - n by omega] at this
  rw [this]
  simp [hj]
theorem not_words (S : W4) (hS : Fit4 S) : notB S = ⟨18446744073709551615 - S.a, 18446744073709551615 - S.b, 18446744073709551615 - S.c, 18446744073709551615 - S.d⟩ := by
  have lt : ∀ n : Nat, 18446744073709551615 - n < 18446744073709551616 := fun n => by omega
  refine (mkB_eq ⟨lt _, lt _, lt _, lt _⟩ fun x hx => ?_).symm
  unfold hasB
  have h4 : x / 64 = 0 ∨ x / 64 = 1 ∨ x / 64 = 2 ∨ x / 64 = 3 := by omega
  rcases h4 with h | h | h | h <;> rw [h]
  · exact not_bit _ _ hS.a (by omega)
  · exact not_bit _ _ hS.b (by omega)
  · exact not_bit _ _ hS.c (by omega)
  · exact not_bit _ _ hS.d (by omega)
theorem xor_all (n : Nat) (hn : n < 18446744073709551616) : n ^^^ 18446744073709551615 = 18446744073709551615 - n := by
  refine word_ext (Nat.xor_lt_two_pow (n := 64) hn (by decide)) (by omega) fun j hj => ?_
  rw [Nat.testBit_xor, not_bit n j hn hj]
  have : (18446744073709551615 : Nat).testBit j = true := by
    have h := not_bit 0 j (by omega) hj
    rw [Nat.zero_testBit] at h
    exact h
  rw [this]
  cases n.testBit j <;> rfl
theorem one_word (x : Nat) (hx : x < 256) : spanB x x = noneB.set (x / 64) (2 ^ (x % 64)) := by
  have h0 : noneB.w (x / 64) = 0 := by
    have h4 : x / 64 = 0 ∨ x / 64 = 1 ∨ x / 64 = 2 ∨ x / 64 = 3 := by omega
    rcases h4 with h | h | h | h <;> rw [h] <;> rfl
  have h1 : putB noneB x = noneB.set (x / 64) (2 ^ (x % 64)) := by
    unfold putB
    rw [noneB_has, h0]
    simp
  rw [← h1]
  refine (mkB_eq (putB_fit noneB_fit x) fun y hy => ?_).symm
  rw [putB_has _ x y hx hy, noneB_has, Bool.false_or, Bool.eq_iff_iff]
  simp only [Bool.and_eq_true, decide_eq_true_eq]
  omega

/-! ### how many bits -/
end Go.Proofs.YtjelgphhlcecoaaGreatDoor
namespace Go.Proofs.YtjelgphhlcecoaaGreatDoor
open Go.RowKit

/-- the first k words of the one, the rest of the other -/
def mixW (R S : W4) (k : Nat) : W4 := ⟨if 0 < k then R.a else S.a, if 1 < k then R.b else S.b, if 2 < k then R.c else S.c, if 3 < k then R.d else S.d⟩

set_option maxRecDepth 20000 in
theorem index4 (x0 x1 x2 x3 : Int) (i : Nat) (v : Int) (w : World) (hv : [x0, x1, x2, x3][i]? = some v) :
    (Instr.index 97 (.agg #[.int .u64 x0, .int .u64 x1, .int .u64 x2, .int .u64 x3]) (.int .i64 (i : Int))).run Tryz.prog w = .ok (.int .u64 v) w := by
  have hi : i = 0 ∨ i = 1 ∨ i = 2 ∨ i = 3 := by
    have : i < 4 := by
      rcases Nat.lt_or_ge i 4 with h | h
      · exact h
      · rw [List.getElem?_eq_none (by simpa using h)] at hv; cases hv
    omega
  rcases hi with rfl | rfl | rfl | rfl
  all_goals
    simp at hv
    subst hv
    simp [Instr.index, run_underlying Tryz.underlying97, asIntOf, go_sem, part, isAgg, run_underlying Tryz.underlying95]

set_option maxRecDepth 20000 in
set_option maxHeartbeats 1000000 in
theorem orC (sa sb sc sd ta tb tc td : Nat) (w : World) (hS : Fit4 ⟨sa, sb, sc, sd⟩) (hT : Fit4 ⟨ta, tb, tc, td⟩) :
    Calls Tryz.prog 114 #[valB ⟨sa, sb, sc, sd⟩, valB ⟨ta, tb, tc, td⟩] w fun e w' => e = .returned (valB (orB ⟨sa, sb, sc, sd⟩ ⟨ta, tb, tc, td⟩)) ∧ Below w.heap.size w w' := by
  rw [or_words _ _ hS hT]
  have k0 := u64_or_nat sa ta hS.1 hT.1
  have k1 := u64_or_nat sb tb hS.2 hT.2
  have k2 := u64_or_nat sc tc hS.3 hT.3
  have k3 := u64_or_nat sd td hS.4 hT.4
  simp only
  generalize sa ||| ta = ra at k0 ⊢
  generalize sb ||| tb = rb at k1 ⊢
  generalize sc ||| tc = rc at k2 ⊢
  generalize sd ||| td = rd at k3 ⊢
  clear hS hT
  have ix0 : ∀ u, (Instr.index 97 (.agg #[.int .u64 (ta : Int), .int .u64 (tb : Int), .int .u64 (tc : Int), .int .u64 (td : Int)]) (.int .i64 0)).run Tryz.prog u = .ok (.int .u64 (ta : Int)) u := fun u => index4 ta tb tc td 0 ta u rfl
  have ix1 : ∀ u, (Instr.index 97 (.agg #[.int .u64 (ta : Int), .int .u64 (tb : Int), .int .u64 (tc : Int), .int .u64 (td : Int)]) (.int .i64 1)).run Tryz.prog u = .ok (.int .u64 (tb : Int)) u := fun u => index4 ta tb tc td 1 tb u rfl
  have ix2 : ∀ u, (Instr.index 97 (.agg #[.int .u64 (ta : Int), .int .u64 (tb : Int), .int .u64 (tc : Int), .int .u64 (td : Int)]) (.int .i64 2)).run Tryz.prog u = .ok (.int .u64 (tc : Int)) u := fun u => index4 ta tb tc td 2 tc u rfl
  have ix3 : ∀ u, (Instr.index 97 (.agg #[.int .u64 (ta : Int), .int .u64 (tb : Int), .int .u64 (tc : Int), .int .u64 (td : Int)]) (.int .i64 3)).run Tryz.prog u = .ok (.int .u64 (td : Int)) u := fun u => index4 ta tb tc td 3 td u rfl
  go_enter Tryz.func114, Tryz.ntmps114
  go_wp2
  go_loopw [8] (fun i wr => ∃ k : Nat, k ≤ 4 ∧ i = .int .i64 k ∧ Hid (Blk wr w.heap.size (mixW ⟨ra, rb, rc, rd⟩ ⟨sa, sb, sc, sd⟩ k)) ∧ Hid (Blk wr (w.heap.size + 2) noneB) ∧ Below w.heap.size w wr) (fun i _ => 4 - (intOf i).toNat)
  case atStart => exact ⟨0, Nat.zero_le _, rfl, hid (three_blocks w _ _ _).1, hid (three_blocks w _ _ _).2.2, bl_step (bl_step (al' w _) (al' _ _)) (al' _ _)⟩
  case round =>
    obtain ⟨k, hk, rfl, bS0, bR0, hbl⟩ := hrel
    have hk5 : k = 0 ∨ k = 1 ∨ k = 2 ∨ k = 3 ∨ k = 4 := by omega
    rcases hk5 with rfl | rfl | rfl | rfl | rfl
    · have bS0' : Blk wr w.heap.size ⟨sa, sb, sc, sd⟩ := bS0.out
      obtain ⟨s0, s1, s2, s3, s4, s5, s6, s7⟩ := bS0'.cells
      have bS1 : Blk (wr.setCell ⟨w.heap.size, 0, none⟩ (.int .u64 (ra : Int))) w.heap.size ⟨ra, sb, sc, sd⟩ := heap_setCell bS0'
      have bR1 : Blk (wr.setCell ⟨w.heap.size, 0, none⟩ (.int .u64 (ra : Int))) (w.heap.size + 2) noneB := (Below.heap_setCell _ _ _ _ (by simp)).trans bR0.out
      have bS1 := hid bS1
      have bR1 := hid bR1
      clear bS0'
      go_wp2
      go_roundw
      case rel => exact ⟨1, by omega, rfl, bS1, bR1, bl_set hbl _ _ _ (Nat.le_refl _)⟩
      case measure => simp [intOf]
    · have bS0' : Blk wr w.heap.size ⟨ra, sb, sc, sd⟩ := bS0.out
      obtain ⟨s0, s1, s2, s3, s4, s5, s6, s7⟩ := bS0'.cells
      have bS1 : Blk (wr.setCell ⟨w.heap.size, 1, none⟩ (.int .u64 (rb : Int))) w.heap.size ⟨ra, rb, sc, sd⟩ := heap_setCell bS0'
      have bR1 : Blk (wr.setCell ⟨w.heap.size, 1, none⟩ (.int .u64 (rb : Int))) (w.heap.size + 2) noneB := (Below.heap_setCell _ _ _ _ (by simp)).trans bR0.out
      have bS1 := hid bS1
      have bR1 := hid bR1
      clear bS0'
      go_wp2
      go_roundw
      case rel => exact ⟨2, by omega, rfl, bS1, bR1, bl_set hbl _ _ _ (Nat.le_refl _)⟩
      case measure => simp [intOf]
    · have bS0' : Blk wr w.heap.size ⟨ra, rb, sc, sd⟩ := bS0.out
      obtain ⟨s0, s1, s2, s3, s4, s5, s6, s7⟩ := bS0'.cells
      have bS1 : Blk (wr.setCell ⟨w.heap.size, 2, none⟩ (.int .u64 (rc : Int))) w.heap.size ⟨ra, rb, rc, sd⟩ := heap_setCell bS0'
      have bR1 : Blk (wr.setCell ⟨w.heap.size, 2, none⟩ (.int .u64 (rc : Int))) (w.heap.size + 2) noneB := (Below.heap_setCell _ _ _ _ (by simp)).trans bR0.out
      have bS1 := hid bS1
      have bR1 := hid bR1
      clear bS0'
      go_wp2
      go_roundw
      case rel => exact ⟨3, by omega, rfl, bS1, bR1, bl_set hbl _ _ _ (Nat.le_refl _)⟩
      case measure => simp [intOf]
    · have bS0' : Blk wr w.heap.size ⟨ra, rb, rc, sd⟩ := bS0.out
      obtain ⟨s0, s1, s2, s3, s4, s5, s6, s7⟩ := bS0'.cells
      have bS1 : Blk (wr.setCell ⟨w.heap.size, 3, none⟩ (.int .u64 (rd : Int))) w.heap.size ⟨ra, rb, rc, rd⟩ := heap_setCell bS0'
      have bR1 : Blk (wr.setCell ⟨w.heap.size, 3, none⟩ (.int .u64 (rd : Int))) (w.heap.size + 2) noneB := (Below.heap_setCell _ _ _ _ (by simp)).trans bR0.out
      have bS1 := hid bS1
      have bR1 := hid bR1
      clear bS0'
      go_wp2
      go_roundw
      case rel => exact ⟨4, by omega, rfl, bS1, bR1, bl_set hbl _ _ _ (Nat.le_refl _)⟩
      case measure => simp [intOf]
    · obtain ⟨o0, o1, o2, o3, o4, o5, o6, o7⟩ := Blk.cells (show Blk wr w.heap.size ⟨ra, rb, rc, rd⟩ from bS0.out)
      obtain ⟨r0, r1, r2, r3, r4, r5, r6, r7⟩ := Blk.cells (sa := 0) (sb := 0) (sc := 0) (sd := 0) bR0.out
      go_wp2
      refine bodyPost_ret (v := .agg #[.int .u64 ra, .int .u64 rb, .int .u64 rc, .int .u64 rd]) (by simp [results, Tryz.results114, go_sem, r0, r1, r2, r3]) rfl ⟨rfl, bl_put hbl ⟨ra, rb, rc, rd⟩ (by omega)⟩

theorem not_u64 (n : Nat) (hn : n < 18446744073709551616) : bits .xor .u64 (if IntKind.u64.signed = true then -1 else IntKind.u64.max) (n : Int) = ((18446744073709551615 - n : Nat) : Int) := by
  rw [show (if IntKind.u64.signed = true then -1 else IntKind.u64.max) = ((18446744073709551615 : Nat) : Int) by decide, u64_xor_nat _ _ (by omega) hn, Nat.xor_comm, xor_all n hn]
set_option maxRecDepth 20000 in
set_option maxHeartbeats 1000000 in
theorem notC (sa sb sc sd : Nat) (w : World) (hS : Fit4 ⟨sa, sb, sc, sd⟩) :
    Calls Tryz.prog 50 #[valB ⟨sa, sb, sc, sd⟩] w fun e w' => e = .returned (valB (notB ⟨sa, sb, sc, sd⟩)) ∧ Below w.heap.size w w' := by
  rw [not_words _ hS]
  have k0 := not_u64 sa hS.1
  have k1 := not_u64 sb hS.2
  have k2 := not_u64 sc hS.3
  have k3 := not_u64 sd hS.4
  simp only
  generalize 18446744073709551615 - sa = ra at k0 ⊢
  generalize 18446744073709551615 - sb = rb at k1 ⊢
  generalize 18446744073709551615 - sc = rc at k2 ⊢
  generalize 18446744073709551615 - sd = rd at k3 ⊢
  clear hS
  have ix0 : ∀ u, (Instr.index 97 (.agg #[.int .u64 (sa : Int), .int .u64 (sb : Int), .int .u64 (sc : Int), .int .u64 (sd : Int)]) (.int .i64 0)).run Tryz.prog u = .ok (.int .u64 (sa : Int)) u := fun u => index4 sa sb sc sd 0 sa u rfl
  have ix1 : ∀ u, (Instr.index 97 (.agg #[.int .u64 (sa : Int), .int .u64 (sb : Int), .int .u64 (sc : Int), .int .u64 (sd : Int)]) (.int .i64 1)).run Tryz.prog u = .ok (.int .u64 (sb : Int)) u := fun u => index4 sa sb sc sd 1 sb u rfl
  have ix2 : ∀ u, (Instr.index 97 (.agg #[.int .u64 (sa : Int), .int .u64 (sb : Int), .int .u64 (sc : Int), .int .u64 (sd : Int)]) (.int .i64 2)).run Tryz.prog u = .ok (.int .u64 (sc : Int)) u := fun u => index4 sa sb sc sd 2 sc u rfl
  have ix3 : ∀ u, (Instr.index 97 (.agg #[.int .u64 (sa : Int), .int .u64 (sb : Int), .int .u64 (sc : Int), .int .u64 (sd : Int)]) (.int .i64 3)).run Tryz.prog u = .ok (.int .u64 (sd : Int)) u := fun u => index4 sa sb sc sd 3 sd u rfl
  go_enter Tryz.func50, Tryz.ntmps50
  go_wp2
  go_loopw [7] (fun i wr => ∃ k : Nat, k ≤ 4 ∧ i = .int .i64 k ∧ Hid (Blk wr (w.heap.size + 2) (mixW ⟨ra, rb, rc, rd⟩ ⟨0, 0, 0, 0⟩ k)) ∧ Hid (Blk wr (w.heap.size + 1) noneB) ∧ Below w.heap.size w wr) (fun i _ => 4 - (intOf i).toNat)
  case atStart => exact ⟨0, Nat.zero_le _, rfl, hid (three_blocks w _ _ _).2.2, hid (three_blocks w _ _ _).2.1, bl_step (bl_step (al' w _) (al' _ _)) (al' _ _)⟩
  case round =>
    obtain ⟨k, hk, rfl, bS0, bR0, hbl⟩ := hrel
    have hk5 : k = 0 ∨ k = 1 ∨ k = 2 ∨ k = 3 ∨ k = 4 := by omega
    rcases hk5 with rfl | rfl | rfl | rfl | rfl
    · have bS0' : Blk wr (w.heap.size + 2) ⟨0, 0, 0, 0⟩ := bS0.out
      obtain ⟨s0, s1, s2, s3, s4, s5, s6, s7⟩ := bS0'.cells
      have bS1 : Blk (wr.setCell ⟨w.heap.size + 2, 0, none⟩ (.int .u64 (ra : Int))) (w.heap.size + 2) ⟨ra, 0, 0, 0⟩ := heap_setCell bS0'
      have bR1 : Blk (wr.setCell ⟨w.heap.size + 2, 0, none⟩ (.int .u64 (ra : Int))) (w.heap.size + 1) noneB := (Below.heap_setCell _ _ _ _ (by simp)).trans bR0.out
      have bS1 := hid bS1
      have bR1 := hid bR1
      clear bS0'
      go_wp2
      go_roundw
      case rel => exact ⟨1, by omega, rfl, bS1, bR1, bl_set hbl _ _ _ (by omega)⟩
      case measure => simp [intOf]
    · have bS0' : Blk wr (w.heap.size + 2) ⟨ra, 0, 0, 0⟩ := bS0.out
      obtain ⟨s0, s1, s2, s3, s4, s5, s6, s7⟩ := bS0'.cells
      have bS1 : Blk (wr.setCell ⟨w.heap.size + 2, 1, none⟩ (.int .u64 (rb : Int))) (w.heap.size + 2) ⟨ra, rb, 0, 0⟩ := heap_setCell bS0'
      have bR1 : Blk (wr.setCell ⟨w.heap.size + 2, 1, none⟩ (.int .u64 (rb : Int))) (w.heap.size + 1) noneB := (Below.heap_setCell _ _ _ _ (by simp)).trans bR0.out
      have bS1 := hid bS1
      have bR1 := hid bR1
      clear bS0'
      go_wp2
      go_roundw
      case rel => exact ⟨2, by omega, rfl, bS1, bR1, bl_set hbl _ _ _ (by omega)⟩
      case measure => simp [intOf]
    · have bS0' : Blk wr (w.heap.size + 2) ⟨ra, rb, 0, 0⟩ := bS0.out
      obtain ⟨s0, s1, s2, s3, s4, s5, s6, s7⟩ := bS0'.cells
      have bS1 : Blk (wr.setCell ⟨w.heap.size + 2, 2, none⟩ (.int .u64 (rc : Int))) (w.heap.size + 2) ⟨ra, rb, rc, 0⟩ := heap_setCell bS0'
      have bR1 : Blk (wr.setCell ⟨w.heap.size + 2, 2, none⟩ (.int .u64 (rc : Int))) (w.heap.size + 1) noneB := (Below.heap_setCell _ _ _ _ (by simp)).trans bR0.out
      have bS1 := hid bS1
      have bR1 := hid bR1
      clear bS0'
      go_wp2
      go_roundw
      case rel => exact ⟨3, by omega, rfl, bS1, bR1, bl_set hbl _ _ _ (by omega)⟩
      case measure => simp [intOf]
    · have bS0' : Blk wr (w.heap.size + 2) ⟨ra, rb, rc, 0⟩ := bS0.out
      obtain ⟨s0, s1, s2, s3, s4, s5, s6, s7⟩ := bS0'.cells
      have bS1 : Blk (wr.setCell ⟨w.heap.size + 2, 3, none⟩ (.int .u64 (rd : Int))) (w.heap.size + 2) ⟨ra, rb, rc, rd⟩ := heap_setCell bS0'
      have bR1 : Blk (wr.setCell ⟨w.heap.size + 2, 3, none⟩ (.int .u64 (rd : Int))) (w.heap.size + 1) noneB := (Below.heap_setCell _ _ _ _ (by simp)).trans bR0.out
      have bS1 := hid bS1
      have bR1 := hid bR1
      clear bS0'
      go_wp2
      go_roundw
      case rel => exact ⟨4, by omega, rfl, bS1, bR1, bl_set hbl _ _ _ (by omega)⟩
      case measure => simp [intOf]
    · obtain ⟨o0, o1, o2, o3, o4, o5, o6, o7⟩ := Blk.cells (show Blk wr (w.heap.size + 2) ⟨ra, rb, rc, rd⟩ from bS0.out)
      obtain ⟨r0, r1, r2, r3, r4, r5, r6, r7⟩ := Blk.cells (sa := 0) (sb := 0) (sc := 0) (sd := 0) bR0.out
      go_wp2
      refine bodyPost_ret (v := .agg #[.int .u64 ra, .int .u64 rb, .int .u64 rc, .int .u64 rd]) (by simp [results, Tryz.results50, go_sem, r0, r1, r2, r3]) rfl ⟨rfl, bl_put hbl ⟨ra, rb, rc, rd⟩ (by omega)⟩


end Go.Proofs.YtjelgphhlcecoaaGreatDoor
namespace Go.Proofs.YtjelgphhlcecoaaGreatDoor
open Go.RowKit

set_option maxRecDepth 20000 in
/-- the word of a byte: one bit -/
theorem bitC (x : Nat) (w : World) (hx : x < 256) :
    Calls Tryz.prog 73 #[.int .u8 (x : Int)] w fun e w' => e = .returned (.int .u64 ((2 ^ (x % 64) : Nat) : Int)) ∧ w' = w := by
  have hp := wrap_pow (j := x % 64) (by omega)
  have hr : (x : Int) % 64 = ((x % 64 : Nat) : Int) := by omega
  have hrl : x % 64 < 64 := by omega
  generalize hm : 2 ^ (x % 64) = m at hp ⊢
  generalize x % 64 = r at hr hrl hp hm
  go_enter Tryz.func73, Tryz.ntmps73
  go_wp2
  go_ret
  exact ⟨rfl, rfl⟩

set_option maxRecDepth 20000 in
set_option maxHeartbeats 1000000 in
theorem oneC (x : Nat) (w : World) (hx : x < 256) :
    Calls Tryz.prog 109 #[.int .u8 (x : Int)] w fun e w' => e = .returned (valB (spanB x x)) ∧ Below w.heap.size w w' := by
  rw [one_word x hx]
  have GB := hid (fun u => bitC x u hx)
  have hq : (x : Int) / 64 = ((x / 64 : Nat) : Int) := by omega
  have hql : x / 64 = 0 ∨ x / 64 = 1 ∨ x / 64 = 2 ∨ x / 64 = 3 := by omega
  generalize hm : 2 ^ (x % 64) = m at GB ⊢
  generalize x / 64 = q at hq hql ⊢
  clear hm
  rcases hql with rfl | rfl | rfl | rfl
  · go_enter Tryz.func109, Tryz.ntmps109
    go_wp2_with (go_at_call 73; refine (GB.out _).mono ?_; rintro e u1 ⟨rfl, hu⟩; subst u1)
    exact bodyPost_ret (v := .agg #[.int .u64 (m : Int), .int .u64 0, .int .u64 0, .int .u64 0]) (by simp [results, Tryz.results109, go_sem]) rfl ⟨rfl, bl_step (al' w _) (al' _ _)⟩
  · go_enter Tryz.func109, Tryz.ntmps109
    go_wp2_with (go_at_call 73; refine (GB.out _).mono ?_; rintro e u1 ⟨rfl, hu⟩; subst u1)
    exact bodyPost_ret (v := .agg #[.int .u64 0, .int .u64 (m : Int), .int .u64 0, .int .u64 0]) (by simp [results, Tryz.results109, go_sem]) rfl ⟨rfl, bl_step (al' w _) (al' _ _)⟩
  · go_enter Tryz.func109, Tryz.ntmps109
    go_wp2_with (go_at_call 73; refine (GB.out _).mono ?_; rintro e u1 ⟨rfl, hu⟩; subst u1)
    exact bodyPost_ret (v := .agg #[.int .u64 0, .int .u64 0, .int .u64 (m : Int), .int .u64 0]) (by simp [results, Tryz.results109, go_sem]) rfl ⟨rfl, bl_step (al' w _) (al' _ _)⟩
  · go_enter Tryz.func109, Tryz.ntmps109
    go_wp2_with (go_at_call 73; refine (GB.out _).mono ?_; rintro e u1 ⟨rfl, hu⟩; subst u1)
    exact bodyPost_ret (v := .agg #[.int .u64 0, .int .u64 0, .int .u64 0, .int .u64 (m : Int)]) (by simp [results, Tryz.results109, go_sem]) rfl ⟨rfl, bl_step (al' w _) (al' _ _)⟩

end Go.Proofs.YtjelgphhlcecoaaGreatDoor
