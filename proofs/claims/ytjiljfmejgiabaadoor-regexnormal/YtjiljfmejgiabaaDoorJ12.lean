/- The reference: in, alone. byteText: a byte as it is told. -/
import Derived.Test.YtjiljfmejgiabaaDoorJ10
import Derived.Test.YtjiljfmejgiabaaDoorJ11
import Derived.Deep.RegionHeld3
namespace Go.Proofs.YtjiljfmejgiabaaDoor
open Go.RowKit

def inS (s : ByteArray) (c : UInt8) : Bool := s.data.toList.contains c
theorem in_yes {s : ByteArray} {c : UInt8} {k : Nat} (h : k < s.size) (e : (s[k].toNat : Int) = (c.toNat : Int)) : inS s c = true := by
  unfold inS
  have : s[k] = c := UInt8.toNat_inj.1 (by omega)
  rw [List.contains_iff_mem, ← this]
  have h' : k < s.data.toList.length := by simpa using h
  exact List.mem_of_getElem (l := s.data.toList) (i := k) (h := h') (by rw [Array.getElem_toList]; rfl)
theorem in_no {s : ByteArray} {c : UInt8} (h : ∀ k (hk : k < s.size), ¬ (s[k].toNat : Int) = (c.toNat : Int)) : inS s c = false := by
  unfold inS
  rw [← Bool.not_eq_true, List.contains_iff_mem]
  intro hm
  obtain ⟨k, hk, e⟩ := List.mem_iff_getElem.1 hm
  have hk' : k < s.size := by simpa using hk
  apply h k hk'
  have : s[k] = c := by rw [← e, Array.getElem_toList]; rfl
  rw [this]

set_option maxHeartbeats 1000000 in
theorem inC (s : ByteArray) (c : UInt8) (w : World) (hs : s.size ≤ 1000000) : Calls Tryd.prog 53 #[.string s, .int .u8 (c.toNat : Int)] w fun e w' => e = .returned (.bool (inS s c)) ∧ w' = w := by
  have hyes := hid (fun k (h : k < s.size) e => @in_yes s c k h e)
  have hno := hid (@in_no s c)
  generalize inS s c = R at hyes hno ⊢
  generalize (c.toNat : Int) = z at hyes hno ⊢
  go_enter Tryd.func53, Tryd.ntmps53
  go_wp2
  go_loopw [5] (fun i wr => ∃ k : Nat, k ≤ s.size ∧ i = .int .i64 k ∧ Hid (∀ j (hj : j < s.size), j < k → ¬ (s[j].toNat : Int) = z) ∧ Hid (wr = w)) (fun i _ => s.size - (intOf i).toNat)
  case atStart => exact ⟨0, Nat.zero_le _, rfl, hid (fun j _ h => absurd h (Nat.not_lt_zero _)), hid rfl⟩
  case round =>
    obtain ⟨k, hk, rfl, hlow, hwr⟩ := hrel
    have hwr' := hwr.out
    subst hwr'
    by_cases hlt : k < s.size
    · have hltz : (k : Int) < (s.size : Int) := by omega
      by_cases he : (s[k].toNat : Int) = z
      · have hR := hyes.out k hlt he
        subst hR
        go_wp2
        go_ret
        exact ⟨rfl, rfl⟩
      · have hlow' : Hid (∀ j (hj : j < s.size), j < k + 1 → ¬ (s[j].toNat : Int) = z) := hid (fun j hj h => by
          by_cases e : j = k
          · subst e; exact he
          · exact hlow.out j hj (by omega))
        go_wp2
        go_roundw
        case rel => exact ⟨k + 1, by omega, by go_num, hlow', by first | exact hid rfl | exact hid trivial⟩
        case measure => simp [intOf]; omega
    · have hltz : ¬ (k : Int) < (s.size : Int) := by omega
      have hR := hno.out (fun j hj => hlow.out j hj (by omega))
      subst hR
      go_wp2
      go_ret
      exact ⟨rfl, rfl⟩

/-- the digits, one of them cut out -/
abbrev digits16 : ByteArray := ⟨#[48, 49, 50, 51, 52, 53, 54, 55, 56, 57, 97, 98, 99, 100, 101, 102]⟩
theorem digit_all : ∀ q : Fin 16, digits16.extract q.val (q.val + 1) = strT [digL q.val] := by decide +kernel
theorem digit_at (q : Nat) (hq : q < 16) : digits16.extract q (q + 1) = strT [digL q] := digit_all ⟨q, hq⟩
theorem digit_run (q : Nat) (hq : q < 16) (w : World) : (Instr.slice 9 (.string ⟨#[48, 49, 50, 51, 52, 53, 54, 55, 56, 57, 97, 98, 99, 100, 101, 102]⟩) (some (.int .i64 (q : Int))) (some (.int .i64 ((q : Int) + 1))) none).run Tryd.prog w = .ok (.string (strT [digL q])) w := by
  rw [run_slice_string_if w 9 _ .i64 .i64 _ _ Tryd.underlying9, if_pos (by
    have : (digits16.size : Int) = 16 := by decide
    constructor
    · omega
    · show (q : Int) + 1 ≤ (digits16.size : Int)
      omega), if_pos (by omega)]
  rw [show ((q : Int)).toNat = q by omega, show ((q : Int) + 1).toNat = q + 1 by omega]
  rw [← digit_at q hq]
theorem conv_one (b : Nat) (hb : b < 256) (w : World) : (convert 56 9 (.slice (some ⟨w.heap.size, 0, none⟩) 1 1)).run Tryd.prog (w.alloc (.cells #[.int .u8 (b : Int)] 5)) = .ok (.string (strT [UInt8.ofNat b])) (w.alloc (.cells #[.int .u8 (b : Int)] 5)) := by
  refine run_convert_bytes_back _ 56 9 5 _ 1 [UInt8.ofNat b] Tryd.underlying56 Tryd.underlying5 Tryd.underlying9 ?_
  intro j hj
  have hj0 : j = 0 := by simp at hj; omega
  subst hj0
  simp [Addr.add, ofNat_toNat hb]

set_option maxHeartbeats 2000000 in
theorem refAlone (b : Nat) (left : ByteArray) (w : World) (hb : b < 256) (hs : left.size ≤ 1000000) :
    Calls Tryd.prog 36 #[.int .i64 (b : Int), .string left] w fun e w' => e = .returned (.string (strT (aloneL b (inS left)))) ∧ Below w.heap.size w w' := by
  by_cases h10 : b = 10
  · subst h10
    rw [show strT (aloneL 10 (inS left)) = ⟨#[92, 110]⟩ from rfl]
    go_enter Tryd.func36, Tryd.ntmps36; go_wp2; go_ret; exact ⟨rfl, Below.refl _ _⟩
  by_cases h9 : b = 9
  · subst h9
    rw [show strT (aloneL 9 (inS left)) = ⟨#[92, 116]⟩ from rfl]
    go_enter Tryd.func36, Tryd.ntmps36; go_wp2; go_ret; exact ⟨rfl, Below.refl _ _⟩
  by_cases h13 : b = 13
  · subst h13
    rw [show strT (aloneL 13 (inS left)) = ⟨#[92, 114]⟩ from rfl]
    go_enter Tryd.func36, Tryd.ntmps36; go_wp2; go_ret; exact ⟨rfl, Below.refl _ _⟩
  have c1 : ((b : Int) == 10) = false := beq_eq_false_iff_ne.2 (by omega)
  have c2 : ((b : Int) == 9) = false := beq_eq_false_iff_ne.2 (by omega)
  have c3 : ((b : Int) == 13) = false := beq_eq_false_iff_ne.2 (by omega)
  by_cases hx : b < 32 ∨ 126 < b
  · have e : strT (aloneL b (inS left)) = ⟨#[92, 120]⟩ ++ strT [digL (b / 16)] ++ strT [digL (b % 16)] := by
      unfold aloneL
      rw [if_neg h10, if_neg h9, if_neg h13, if_pos hx, show (⟨#[92, 120]⟩ : ByteArray) = strT [92, 120] from rfl, strT_app, strT_app]
      rfl
    rw [e]
    have hq : (b : Int) / 16 = ((b / 16 : Nat) : Int) := by omega
    have hr : (b : Int) % 16 = ((b % 16 : Nat) : Int) := by omega
    have hq1 : b / 16 < 16 := by omega
    have hr1 : b % 16 < 16 := by omega
    have g1 := digit_run (b / 16) hq1
    have g2 := digit_run (b % 16) hr1
    have hA1 : (strT [digL (b / 16)]).size = 1 := by rw [strT_size]; rfl
    have hB1 : (strT [digL (b % 16)]).size = 1 := by rw [strT_size]; rfl
    generalize strT [digL (b / 16)] = A at g1 hA1 ⊢
    generalize strT [digL (b % 16)] = B at g2 hB1 ⊢
    have h2 : (⟨#[92, 120]⟩ : ByteArray).size = 2 := rfl
    have k1 := fun u => run_cat ⟨#[92, 120]⟩ A u (by omega)
    have k2 := fun u => run_cat (⟨#[92, 120]⟩ ++ A) B u (by rw [ByteArray.size_append]; omega)
    generalize b / 16 = q at hq hq1 g1
    generalize b % 16 = r at hr hr1 g2
    have w1 : IntKind.i64.wrap (q : Int) = (q : Int) := by rw [IntKind.wrap_i64]; omega
    have w2 : IntKind.i64.wrap ((q : Int) + 1) = (q : Int) + 1 := by rw [IntKind.wrap_i64]; omega
    have w3 : IntKind.i64.wrap (r : Int) = (r : Int) := by rw [IntKind.wrap_i64]; omega
    have w4 : IntKind.i64.wrap ((r : Int) + 1) = (r : Int) + 1 := by rw [IntKind.wrap_i64]; omega
    clear e h10 h9 h13
    by_cases h32 : b < 32
    · have h32z : (b : Int) < 32 := by omega
      clear hx
      go_enter Tryd.func36, Tryd.ntmps36
      go_wp2_with fail
      go_quiet (fail)
      go_wp2
      go_ret
      exact ⟨rfl, ⟨rfl, rfl, rfl, Nat.le_refl _, fun _ _ => rfl⟩⟩
    · have h32z : ¬ (b : Int) < 32 := by omega
      have h126 : (126 : Int) < (b : Int) := by omega
      clear hx
      go_enter Tryd.func36, Tryd.ntmps36
      go_wp2_with fail
      go_quiet (fail)
      go_wp2
      go_ret
      exact ⟨rfl, ⟨rfl, rfl, rfl, Nat.le_refl _, fun _ _ => rfl⟩⟩
  · have h32z : ¬ (b : Int) < 32 := by omega
    have h126 : ¬ (126 : Int) < (b : Int) := by omega
    have hb8 : IntKind.u8.wrap (b : Int) = (b : Int) := by rw [IntKind.wrap_u8]; omega
    have hconv := conv_one b hb w
    have GI := hid (fun u => inC left (UInt8.ofNat b) u hs)
    rw [ofNat_toNat hb] at GI
    have e : aloneL b (inS left) = if inS left (UInt8.ofNat b) then [92, UInt8.ofNat b] else [UInt8.ofNat b] := by
      unfold aloneL
      rw [if_neg h10, if_neg h9, if_neg h13, if_neg hx]
    rw [e]
    clear e hx h10 h9 h13
    cases hi : inS left (UInt8.ofNat b) with
    | true =>
      rw [hi] at GI
      rw [if_pos rfl, show strT [92, UInt8.ofNat b] = ⟨#[92]⟩ ++ strT [UInt8.ofNat b] from (strT_app [92] [UInt8.ofNat b]).symm]
      have hS1 : (strT [UInt8.ofNat b]).size = 1 := by rw [strT_size]; rfl
      generalize strT [UInt8.ofNat b] = S at hconv hS1 ⊢
      have h1 : (⟨#[92]⟩ : ByteArray).size = 1 := rfl
      have k1 := fun u => run_cat ⟨#[92]⟩ S u (by omega)
      clear hi
      go_enter Tryd.func36, Tryd.ntmps36
      go_wp2_with (go_at_call 53; refine (GI.out _).mono ?_; rintro e u1 ⟨rfl, hu⟩; subst u1)
      go_ret
      exact ⟨rfl, al' w _⟩
    | false =>
      rw [hi] at GI
      rw [if_neg Bool.false_ne_true]
      generalize strT [UInt8.ofNat b] = S at hconv ⊢
      clear hi
      go_enter Tryd.func36, Tryd.ntmps36
      go_wp2_with (go_at_call 53; refine (GI.out _).mono ?_; rintro e u1 ⟨rfl, hu⟩; subst u1)
      go_ret
      exact ⟨rfl, al' w _⟩


end Go.Proofs.YtjiljfmejgiabaaDoor
namespace Go.Proofs.YtjiljfmejgiabaaDoor
open Go.RowKit

theorem digit_at16 : ∀ q : Fin 16, ∀ h : q.val < digits16.size, (digits16[q.val]'h) = digL q.val := by decide +kernel
theorem idx_digit (q : Nat) (hq : q < 16) (w : World) : (Instr.index 9 (.string ⟨#[48, 49, 50, 51, 52, 53, 54, 55, 56, 57, 97, 98, 99, 100, 101, 102]⟩) (.int .u8 (q : Int))).run Tryd.prog w = .ok (.int .u8 ((digL q).toNat : Int)) w := by
  have h16 : digits16.size = 16 := by decide
  have h := digit_at16 ⟨q, hq⟩ (by rw [h16]; exact hq)
  have h' : q < digits16.size := by rw [h16]; exact hq
  rw [← h]
  simp [Instr.index, run_underlying Tryd.underlying9, asIntOf, go_sem, h16, hq]
theorem conv_two (b : Nat) (hb : b < 256) (w : World) : (convert 56 9 (.slice (some ⟨w.heap.size, 0, none⟩) 2 2)).run Tryd.prog (w.alloc (.cells #[.int .u8 92, .int .u8 (b : Int)] 5)) = .ok (.string (strT [92, UInt8.ofNat b])) (w.alloc (.cells #[.int .u8 92, .int .u8 (b : Int)] 5)) := by
  refine run_convert_bytes_back _ 56 9 5 _ 2 [92, UInt8.ofNat b] Tryd.underlying56 Tryd.underlying5 Tryd.underlying9 ?_
  intro j hj
  have hj0 : j = 0 ∨ j = 1 := by simp at hj; omega
  rcases hj0 with rfl | rfl
  · simp [Addr.add]
  · simp [Addr.add, ofNat_toNat hb]
theorem conv_four (x y : UInt8) (w : World) : (convert 56 9 (.slice (some ⟨w.heap.size, 0, none⟩) 4 4)).run Tryd.prog (w.alloc (.cells #[.int .u8 92, .int .u8 120, .int .u8 (x.toNat : Int), .int .u8 (y.toNat : Int)] 5)).drew = .ok (.string (strT [92, 120, x, y])) (w.alloc (.cells #[.int .u8 92, .int .u8 120, .int .u8 (x.toNat : Int), .int .u8 (y.toNat : Int)] 5)).drew := by
  refine run_convert_bytes_back _ 56 9 5 _ 4 [92, 120, x, y] Tryd.underlying56 Tryd.underlying5 Tryd.underlying9 ?_
  intro j hj
  have hj0 : j = 0 ∨ j = 1 ∨ j = 2 ∨ j = 3 := by simp at hj; omega
  rcases hj0 with rfl | rfl | rfl | rfl <;> simp [Addr.add, go_sem]

set_option maxHeartbeats 2000000 in
theorem byteTextC (b : Nat) (S : ByteArray) (tell : UInt8 → Bool) (w : World) (hb : b < 256) (hT : Tells S tell) :
    Calls Tryd.prog 31 #[.int .u8 (b : Int), .string S] w fun e w' => e = .returned (.string (strT (aloneL b tell))) ∧ Below w.heap.size w w' := by
  by_cases h10 : b = 10
  · subst h10
    rw [show strT (aloneL 10 tell) = ⟨#[92, 110]⟩ from rfl]
    go_enter Tryd.func31, Tryd.ntmps31; go_wp2; go_ret; exact ⟨rfl, Below.refl _ _⟩
  by_cases h9 : b = 9
  · subst h9
    rw [show strT (aloneL 9 tell) = ⟨#[92, 116]⟩ from rfl]
    go_enter Tryd.func31, Tryd.ntmps31; go_wp2; go_ret; exact ⟨rfl, Below.refl _ _⟩
  by_cases h13 : b = 13
  · subst h13
    rw [show strT (aloneL 13 tell) = ⟨#[92, 114]⟩ from rfl]
    go_enter Tryd.func31, Tryd.ntmps31; go_wp2; go_ret; exact ⟨rfl, Below.refl _ _⟩
  have c1 : ((b : Int) == 10) = false := beq_eq_false_iff_ne.2 (by omega)
  have c2 : ((b : Int) == 9) = false := beq_eq_false_iff_ne.2 (by omega)
  have c3 : ((b : Int) == 13) = false := beq_eq_false_iff_ne.2 (by omega)
  have GP := hid (fun u => plainC b S tell u hb hT)
  have GV := hid (fun u => visibleC b u hb)
  by_cases hx : b < 32 ∨ 126 < b
  · have e : aloneL b tell = [92, 120, digL (b / 16), digL (b % 16)] := by
      unfold aloneL
      rw [if_neg h10, if_neg h9, if_neg h13, if_pos hx]
    rw [e]
    have hv : decide (32 ≤ b ∧ b ≤ 126) = false := decide_eq_false (by omega)
    have hp : plainB b tell = false := by unfold plainB; rw [hv]; rfl
    rw [hp] at GP
    rw [hv] at GV
    have hq : (b : Int) / 16 = ((b / 16 : Nat) : Int) := by omega
    have hr : (b : Int) % 16 = ((b % 16 : Nat) : Int) := by omega
    have g1 := idx_digit (b / 16) (by omega)
    have g2 := idx_digit (b % 16) (by omega)
    have hcv := hid (fun u => conv_four (digL (b / 16)) (digL (b % 16)) u)
    have hq1 : b / 16 < 16 := by omega
    have hr1 : b % 16 < 16 := by omega
    clear e hv hp h10 h9 h13 hx
    have hcv1 := hcv.out w
    generalize strT [92, 120, digL (b / 16), digL (b % 16)] = R at hcv1 ⊢
    generalize digL (b / 16) = X at g1 hcv1
    generalize digL (b % 16) = Y at g2 hcv1
    clear hcv
    generalize b / 16 = q at hq hq1 g1
    generalize b % 16 = r at hr hr1 g2
    have hr3 : (b : Int).tmod 16 = (r : Int) := by rw [Int.tmod_eq_emod_of_nonneg (by omega)]; exact hr
    have hq2 : (q : Int) < 16 := by omega
    have hr2 : (r : Int) < 16 := by omega
    have wq : IntKind.u8.wrap (q : Int) = (q : Int) := by rw [IntKind.wrap_u8]; omega
    have wr : IntKind.u8.wrap (r : Int) = (r : Int) := by rw [IntKind.wrap_u8]; omega
    go_enter Tryd.func31, Tryd.ntmps31
    go_wp2_with (first
      | (go_at_call 44; refine (GP.out _).mono ?_; rintro e u1 ⟨rfl, hu⟩; subst u1)
      | (go_at_call 45; refine (GV.out _).mono ?_; rintro e u1 ⟨rfl, hu⟩; subst u1))
    go_region_with (fail)
    all_goals
      go_wp2
      go_ret
      exact ⟨rfl, (al' w _).drew⟩
  · have hv : decide (32 ≤ b ∧ b ≤ 126) = true := decide_eq_true (by omega)
    have hp : plainB b tell = !tell (UInt8.ofNat b) := by unfold plainB; rw [hv]; rfl
    have e : aloneL b tell = if tell (UInt8.ofNat b) then [92, UInt8.ofNat b] else [UInt8.ofNat b] := by
      unfold aloneL
      rw [if_neg h10, if_neg h9, if_neg h13, if_neg hx]
    rw [e]
    rw [hp] at GP
    rw [hv] at GV
    have hc1 := conv_one b hb w
    have hc2 := conv_two b hb w
    clear e hv hp h10 h9 h13 hx
    cases ht : tell (UInt8.ofNat b) with
    | true =>
      rw [ht] at GP
      rw [if_pos rfl]
      generalize strT [92, UInt8.ofNat b] = R at hc2 ⊢
      clear ht hc1
      go_enter Tryd.func31, Tryd.ntmps31
      go_wp2_with (first
        | (go_at_call 44; refine (GP.out _).mono ?_; rintro e u1 ⟨rfl, hu⟩; subst u1)
        | (go_at_call 45; refine (GV.out _).mono ?_; rintro e u1 ⟨rfl, hu⟩; subst u1))
      go_ret
      exact ⟨rfl, al' w _⟩
    | false =>
      rw [ht] at GP
      rw [if_neg Bool.false_ne_true]
      generalize strT [UInt8.ofNat b] = R at hc1 ⊢
      clear ht hc2
      go_enter Tryd.func31, Tryd.ntmps31
      go_wp2_with (first
        | (go_at_call 44; refine (GP.out _).mono ?_; rintro e u1 ⟨rfl, hu⟩; subst u1)
        | (go_at_call 45; refine (GV.out _).mono ?_; rintro e u1 ⟨rfl, hu⟩; subst u1))
      go_ret
      exact ⟨rfl, al' w _⟩

end Go.Proofs.YtjiljfmejgiabaaDoor
