/- What is asked of the program's own functions on sets of bytes; wakes. -/
import Derived.Test.YtpkndedppfdekaaDoorRefParts
import Derived.Test.YtpkndedppfdekaaDoorWakeMath
namespace Go.Proofs.YtpkndedppfdekaaDoor
open Go.RowKit

/-- the contracts of package bytes, in worlds in which something holds (the tables of math/bits lie as they were laid) -/
structure BytesOK (OK : World → Prop) : Prop where
  keep : ∀ (u u' : World), OK u → Below u.heap.size u u' → OK u'
  one : ∀ (x : Nat) (u : World), x < 256 → OK u → Calls Tryd.prog 11 #[.int .u8 (x : Int)] u fun e w' => e = .returned (valB (spanB x x)) ∧ Below u.heap.size u w'
  span : ∀ (f t : Nat) (u : World), f < 256 → t < 256 → OK u → Calls Tryd.prog 9 #[.int .u8 (f : Int), .int .u8 (t : Int)] u fun e w' => e = .returned (valB (spanB f t)) ∧ Below u.heap.size u w'
  has : ∀ (S : W4) (x : Nat) (u : World), Fit4 S → x < 256 → OK u → Calls Tryd.prog 22 #[valB S, .int .u8 (x : Int)] u fun e w' => e = .returned (.bool (hasB S x)) ∧ Below u.heap.size u w'
  or : ∀ (S T : W4) (u : World), Fit4 S → Fit4 T → OK u → Calls Tryd.prog 12 #[valB S, valB T] u fun e w' => e = .returned (valB (orB S T)) ∧ Below u.heap.size u w'
  and : ∀ (S T : W4) (u : World), Fit4 S → Fit4 T → OK u → Calls Tryd.prog 14 #[valB S, valB T] u fun e w' => e = .returned (valB (andB S T)) ∧ Below u.heap.size u w'
  not : ∀ (S : W4) (u : World), Fit4 S → OK u → Calls Tryd.prog 16 #[valB S] u fun e w' => e = .returned (valB (notB S)) ∧ Below u.heap.size u w'
  count : ∀ (S : W4) (u : World), Fit4 S → OK u → Calls Tryd.prog 18 #[valB S] u fun e w' => e = .returned (.int .i64 ((countB S : Nat) : Int)) ∧ Below u.heap.size u w'
  least : ∀ (S : W4) (u : World), Fit4 S → OK u → Calls Tryd.prog 20 #[valB S] u fun e w' => e = .returned (.int .i64 (leastB S)) ∧ Below u.heap.size u w'
  parts : ∀ (v : Value) (l : List W4) (u : World), l.length ≤ 1000 → Sets u v l → OK u → Calls Tryd.prog 24 #[v] u fun e w' => ∃ v', e = .returned v' ∧ OwnS w' u.heap.size v' (partsB l) ∧ Below u.heap.size u w'

theorem OwnS.shape {w : World} {B : Nat} {v : Value} {l : List W4} (h : OwnS w B v l) : ∃ a cap, v = .slice a l.length cap := by
  rcases h.2 with ⟨rfl, h0⟩ | ⟨g, cap, cur, rfl, _⟩
  · exact ⟨none, 0, by rw [h0]⟩
  · exact ⟨_, cap, rfl⟩
theorem one_a : spanB 97 97 = ⟨0, 8589934592, 0, 0⟩ := by
  have h : ∀ x : Fin 256, hasB ⟨0, 8589934592, 0, 0⟩ x = (decide (97 ≤ x.val) && decide (x.val ≤ 97)) := by decide +kernel
  exact (mkB_eq ⟨by decide, by decide, by decide, by decide⟩ fun x hx => h ⟨x, hx⟩).symm
abbrev litS : Array Value := #[.int .u64 0, .int .u64 60129542144, .int .u64 0, .int .u64 0, .int .u64 0, .int .u64 120259084288, .int .u64 0, .int .u64 0]
theorem sets_lit (u : World) : Sets (u.alloc (.cells litS 25)) (.slice (some ⟨u.heap.size, 0, none⟩) 2 2) [⟨0, 60129542144, 0, 0⟩, ⟨0, 120259084288, 0, 0⟩] := by
  refine ⟨_, 2, rfl, by simp, fun h => (by cases h), fun S hS => ?_, fun j hj => ?_⟩
  · simp at hS
    rcases hS with rfl | rfl
    · exact ⟨by decide, by decide, by decide, by decide⟩
    · exact ⟨by decide, by decide, by decide, by decide⟩
  · have hj' : j = 0 ∨ j = 1 := by simp at hj; omega
    rcases hj' with rfl | rfl
    · exact ⟨_, _, rfl, by simp, by simp, by simp, by simp, by simp⟩
    · exact ⟨_, _, rfl, by simp, by simp, by simp, by simp, by simp⟩

set_option maxHeartbeats 1000000 in
theorem wakesC {OK : World → Prop} (H : BytesOK OK) (w : World) (hw : OK w) : Calls Tryd.prog 8 #[] w fun e w' => e = .returned (.bool true) ∧ Below w.heap.size w w' := by
  have G1 : Hid (∀ u, OK u → Calls Tryd.prog 9 #[.int .u8 97, .int .u8 99] u fun e w' => e = .returned (.agg #[.int .u64 0, .int .u64 60129542144, .int .u64 0, .int .u64 0]) ∧ Below u.heap.size u w') := fun u hu => by
    have := H.span 97 99 u (by omega) (by omega) hu
    rwa [span_ac] at this
  have G2 : Hid (∀ u, OK u → Calls Tryd.prog 9 #[.int .u8 98, .int .u8 100] u fun e w' => e = .returned (.agg #[.int .u64 0, .int .u64 120259084288, .int .u64 0, .int .u64 0]) ∧ Below u.heap.size u w') := fun u hu => by
    have := H.span 98 100 u (by omega) (by omega) hu
    rwa [span_bd] at this
  have G3 : Hid (∀ v u, Sets u v [⟨0, 60129542144, 0, 0⟩, ⟨0, 120259084288, 0, 0⟩] → OK u → Calls Tryd.prog 24 #[v] u fun e w' => ∃ a c, e = .returned (.slice a 4 c) ∧ Below u.heap.size u w') := fun v u h hu => by
    refine (H.parts v _ u (by simp) h hu).mono fun e w' ⟨v', he, hO, hb⟩ => ?_
    have hl := parts_wakes
    rw [span_ac, span_bd] at hl
    obtain ⟨a, c, rfl⟩ := hO.shape
    rw [hl] at he
    exact ⟨a, c, he, hb⟩
  have G4 : Hid (∀ u, OK u → Calls Tryd.prog 11 #[.int .u8 97] u fun e w' => e = .returned (.agg #[.int .u64 0, .int .u64 8589934592, .int .u64 0, .int .u64 0]) ∧ Below u.heap.size u w') := fun u hu => by
    have := H.one 97 u (by omega) hu
    rwa [one_a] at this
  have hf : Fit4 ⟨0, 8589934592, 0, 0⟩ := ⟨by decide, by decide, by decide, by decide⟩
  have G5 : Hid (∀ u, OK u → Calls Tryd.prog 22 #[.agg #[.int .u64 0, .int .u64 8589934592, .int .u64 0, .int .u64 0], .int .u8 97] u fun e w' => e = .returned (.bool true) ∧ Below u.heap.size u w') := fun u hu => by
    have := H.has ⟨0, 8589934592, 0, 0⟩ 97 u hf (by omega) hu
    rwa [show hasB ⟨0, 8589934592, 0, 0⟩ 97 = true by decide +kernel] at this
  have G6 : Hid (∀ u, OK u → Calls Tryd.prog 22 #[.agg #[.int .u64 0, .int .u64 8589934592, .int .u64 0, .int .u64 0], .int .u8 98] u fun e w' => e = .returned (.bool false) ∧ Below u.heap.size u w') := fun u hu => by
    have := H.has ⟨0, 8589934592, 0, 0⟩ 98 u hf (by omega) hu
    rwa [show hasB ⟨0, 8589934592, 0, 0⟩ 98 = false by decide +kernel] at this
  have HK := hid H.keep
  have hw0 := hid hw
  clear hw hf
  go_enter Tryd.func8, Tryd.ntmps8
  go_wp2_with (first
    | (go_at_call_of 9 (Value.int .u8 97); refine (G1.out _ hw0.out).mono ?_; rintro e w1 ⟨rfl, hb1⟩; have k1 := hid (HK.out _ _ hw0.out hb1))
    | (go_at_call_of 9 (Value.int .u8 98); refine (G2.out _ k1.out).mono ?_; rintro e w2 ⟨rfl, hb2⟩; have k2 := hid (HK.out _ _ (HK.out _ _ k1.out hb2) (al' w2 (.cells litS 25))))
    | (go_at_call 24; refine (G3.out _ _ (sets_lit w2) k2.out).mono ?_; rintro e w3 ⟨a3, c3, rfl, hb3⟩; have k3 := hid (HK.out _ _ k2.out hb3))
    | (go_at_call 11; refine (G4.out w5 k5.out).mono ?_; rintro e w6 ⟨rfl, hb6⟩; have k6 := hid (HK.out _ _ k5.out hb6))
    | (go_at_call 11; refine (G4.out w3 k3.out).mono ?_; rintro e w4 ⟨rfl, hb4⟩; have k4 := hid (HK.out _ _ k3.out hb4))
    | (go_at_call_of 22 (Value.int .u8 97); refine (G5.out _ k4.out).mono ?_; rintro e w5 ⟨rfl, hb5⟩; have k5 := hid (HK.out _ _ k4.out hb5))
    | (go_at_call_of 22 (Value.int .u8 98); refine (G6.out _ k6.out).mono ?_; rintro e w7 ⟨rfl, hb7⟩))
  go_ret
  exact ⟨rfl, bl_step (bl_step (bl_step (bl_step (bl_step (bl_step (bl_step hb1 hb2) (al' w2 _)) hb3) hb4) hb5) hb6) hb7⟩

end Go.Proofs.YtpkndedppfdekaaDoor
