/- What is asked of package regex; wakes; RegexRight. -/
import Derived.Test.YtjiljfmejgiabaaTxt
import Derived.Test.YtjiljfmejgiabaaNull
namespace Go.Proofs.Ytjiljfmejgiabaa
open Go.RowKit

/-- the contracts of package regex, in worlds in which something holds -/
structure RegexOK (OK : World → Prop) : Prop where
  keep : ∀ (u u' : World), OK u → Below u.heap.size u u' → OK u'
  right : ∀ (v : Value) (l : List Cel) (u : World), Cels u v l → OK u → Calls Try.prog 6 #[v] u fun e w' => e = .returned (.bool (rightB l)) ∧ Below u.heap.size u w'
  nullNo : ∀ (v : Value) (l : List Cel) (u : World), Cels u v l → rightB l = false → OK u → Calls Try.prog 9 #[v] u fun e w' => e = .returned (.bool false) ∧ Below u.heap.size u w'
  nullYes : ∀ (v : Value) (t : Rx) (u : World), Cels u v (post t) → t.ok → (post t).length ≤ 60 → OK u → Calls Try.prog 9 #[v] u fun e w' => e = .returned (.bool t.null) ∧ Below u.heap.size u w'
  long : ∀ (s : Txt) (u : World), 200 < s.length → OK u → Calls Try.prog 11 #[.string (strT s)] u fun e w' => ∃ a c, e = .returned (.tuple #[.slice a 0 c, .int .i64 0, .int .i64 3]) ∧ Below u.heap.size u w'
  bad : ∀ (s : Txt) (u : World), s.length ≤ 200 → (∀ t, rowsP s ≠ some (t, [])) → OK u → Calls Try.prog 11 #[.string (strT s)] u fun e w' => ∃ a c n, e = .returned (.tuple #[.slice a 0 c, .int .i64 n, .int .i64 1]) ∧ Below u.heap.size u w'
  full : ∀ (s : Txt) (t : Rx) (u : World), s.length ≤ 200 → rowsP s = some (t, []) → 60 < (post t).length → OK u → Calls Try.prog 11 #[.string (strT s)] u fun e w' => ∃ a c, e = .returned (.tuple #[.slice a 0 c, .int .i64 0, .int .i64 3]) ∧ Below u.heap.size u w'
  good : ∀ (s : Txt) (t : Rx) (u : World), s.length ≤ 200 → rowsP s = some (t, []) → (post t).length ≤ 60 → OK u → Calls Try.prog 11 #[.string (strT s)] u fun e w' => ∃ v, e = .returned (.tuple #[v, .int .i64 0, .int .i64 0]) ∧ Cels w' v (post t) ∧ Below u.heap.size u w'
  wake : ∀ (u : World), OK u → Calls Try.prog 11 #[.string ⟨#[40, 97]⟩] u fun e w' => ∃ a c, e = .returned (.tuple #[.slice a 0 c, .int .i64 2, .int .i64 1]) ∧ Below u.heap.size u w'

theorem Cels.shape {w : World} {v : Value} {l : List Cel} (h : Cels w v l) : ∃ a c, v = .slice a l.length c := by
  obtain ⟨a, c, e, _⟩ := h
  exact ⟨a, c, e⟩
def wakeT : Rx := .or (.set (spanB 97 97)) (.star (.set (spanB 98 98)))
theorem wake_reads : rowsP [97, 124, 98, 42] = some (wakeT, []) := by rfl

set_option maxHeartbeats 1000000 in
theorem wakesC {OK : World → Prop} (H : RegexOK OK) (w : World) (hw : OK w) : Calls Try.prog 5 #[] w fun e w' => e = .returned (.bool true) ∧ Below w.heap.size w w' := by
  have G1 : Hid (∀ u, OK u → Calls Try.prog 11 #[.string ⟨#[97, 124, 98, 42]⟩] u fun e w' => ∃ a c, e = .returned (.tuple #[.slice a 4 c, .int .i64 0, .int .i64 0]) ∧ Below u.heap.size u w') := hid (fun u hu => (H.good [97, 124, 98, 42] wakeT u (by decide) wake_reads (by decide) hu).mono fun e w' ⟨v, he, hc, hb⟩ => by
    obtain ⟨a, c, rfl⟩ := hc.shape
    exact ⟨a, c, he, hb⟩)
  have G2 := hid H.wake
  have HK := hid H.keep
  have hw0 := hid hw
  clear hw
  go_enter Try.func5, Try.ntmps5
  go_wp2_with (first
    | (go_at_call 11; refine (G2.out w1 k1.out).mono ?_; rintro e w2 ⟨a2, c2, rfl, hb2⟩)
    | (go_at_call 11; refine (G1.out w hw0.out).mono ?_; rintro e w1 ⟨a1, c1, rfl, hb1⟩; have k1 := hid (HK.out _ _ hw0.out hb1)))
  go_ret
  exact ⟨rfl, bl_step hb1 hb2⟩

set_option maxHeartbeats 2000000 in
theorem rightWalk {OK : World → Prop} (H : RegexOK OK) (v : Value) (l : List Cel) (w : World) (hl : l.length * 40 ≤ 140737488351232) (hA : Cels w v l) (hw : OK w) :
    Calls Try.prog 3 #[v] w fun e w' => e = .returned (.bool true) ∧ Below w.heap.size w w' := by
  have GW := hid (wakesC H w hw)
  have HK := hid (fun u (hb : Below w.heap.size w u) => H.keep w u hw hb)
  have hA0 := hid (fun u (hb : Below w.heap.size w u) => hA.keep hb)
  have GC := hid (fun u (hb : Below w.heap.size w u) => copiedC v l u hl (hA.keep hb))
  have GR := hid (fun v' u (hc : Cels u v' l) (hb : Below w.heap.size w u) => H.right v' l u hc (H.keep w u hw hb))
  have GR' := hid (fun u (hb : Below w.heap.size w u) => rightC v l u (hA.keep hb))
  obtain ⟨n, GN, GN'⟩ : ∃ n : Bool, Hid (∀ v' u, Cels u v' l → Below w.heap.size w u → Calls Try.prog 9 #[v'] u fun e w' => e = .returned (.bool n) ∧ Below u.heap.size u w') ∧ Hid (∀ u, Below w.heap.size w u → Calls Try.prog 10 #[v] u fun e w' => e = .returned (.bool n) ∧ w' = u) := by
    cases hr : rightB l with
    | false => exact ⟨false, hid (fun v' u hc hb => H.nullNo v' l u hc hr (H.keep w u hw hb)), hid (fun u hb => nullNo v l u (hA.keep hb) hr)⟩
    | true =>
      obtain ⟨t, ho, rfl, h60⟩ := right_tree hr
      exact ⟨t.null, hid (fun v' u hc hb => H.nullYes v' t u hc ho h60 (H.keep w u hw hb)), hid (fun u hb => nullYes v t u (hA.keep hb) ho h60)⟩
  generalize rightB l = r at GR GR'
  obtain ⟨av, cv, rfl⟩ := hA.shape
  clear hA hw
  go_enter Try.func3, Try.ntmps3
  go_wp2_with (first
    | (go_at_call 5; refine GW.out.mono ?_; rintro e w1 ⟨rfl, hb1⟩)
    | (go_at_call 7; refine (GC.out w3 hb3).mono ?_; rintro e w4 ⟨v4, rfl, -, hC4, hb4'⟩; have hb4 := bl_step hb3 hb4'; have hC4 := hid hC4)
    | (go_at_call 7; refine (GC.out w1 hb1).mono ?_; rintro e w2 ⟨v2, rfl, -, hC2, hb2'⟩; have hb2 := bl_step hb1 hb2'; have hC2 := hid hC2)
    | (go_at_call 6; refine (GR.out _ w2 hC2.out hb2).mono ?_; rintro e w3 ⟨rfl, hb3'⟩; have hb3 := bl_step hb2 hb3')
    | (go_at_call 8; refine (GR'.out w3 hb3).mono ?_; rintro e u3 ⟨rfl, hu⟩; subst u3)
    | (go_at_call 9; refine (GN.out _ w4 hC4.out hb4).mono ?_; rintro e w5 ⟨rfl, hb5'⟩; have hb5 := bl_step hb4 hb5')
    | (go_at_call 10; refine (GN'.out w5 hb5).mono ?_; rintro e u5 ⟨rfl, hu⟩; subst u5))
  go_ret
  exact ⟨by first | rfl | simp, hb5⟩

/-- what Parse answers to a text: no cells and an error, or a rule -/
theorem parse_ways {OK : World → Prop} (H : RegexOK OK) (s : Txt) : (∃ z : Int, z ≠ 0 ∧ 0 ≤ z ∧ z ≤ 3 ∧ ∀ u, OK u → Calls Try.prog 11 #[.string (strT s)] u fun e w' => ∃ a c n, e = .returned (.tuple #[.slice a 0 c, .int .i64 n, .int .i64 z]) ∧ Below u.heap.size u w') ∨
    ∃ t : Rx, rowsP s = some (t, []) ∧ s.length ≤ 200 ∧ (post t).length ≤ 60 := by
  by_cases hs : 200 < s.length
  · exact Or.inl ⟨3, by omega, by omega, by omega, fun u hu => (H.long s u hs hu).mono fun e w' ⟨a, c, he, hb⟩ => ⟨a, c, 0, he, hb⟩⟩
  · by_cases ht : ∃ t, rowsP s = some (t, [])
    · obtain ⟨t, ht⟩ := ht
      by_cases h60 : 60 < (post t).length
      · exact Or.inl ⟨3, by omega, by omega, by omega, fun u hu => (H.full s t u (by omega) ht h60 hu).mono fun e w' ⟨a, c, he, hb⟩ => ⟨a, c, 0, he, hb⟩⟩
      · exact Or.inr ⟨t, ht, by omega, by omega⟩
    · exact Or.inl ⟨1, by omega, by omega, by omega, fun u hu => H.bad s u (by omega) (fun t e => ht ⟨t, e⟩) hu⟩
theorem strT_list (s : ByteArray) : strT s.data.toList = s := by
  apply ByteArray.ext
  simp [strT]

end Go.Proofs.Ytjiljfmejgiabaa
