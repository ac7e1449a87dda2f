/- The walk of RegexGroups, over what is asked of package regex. -/
import Derived.Test.YtjiljfmejgiabaaConP
namespace Go.Proofs.Ytjiljfmejgiabaa
open Go.RowKit

theorem fit_lit {op : Int} (h1 : -9223372036854775808 ≤ op) (h2 : op ≤ 9223372036854775807) : FitC ⟨op, noneB⟩ := ⟨h1, h2, noneB_fit⟩
theorem cels_lit (u : World) (op : Int) (h1 : -9223372036854775808 ≤ op) (h2 : op ≤ 9223372036854775807) : Cels (u.alloc (.cells #[.int .i64 op, .int .u64 0, .int .u64 0, .int .u64 0, .int .u64 0] 33)) (.slice (some ⟨u.heap.size, 0, none⟩) 1 1) [⟨op, noneB⟩] := by
  refine ⟨_, 1, rfl, Nat.le_refl _, fun h => (by cases h), fun c hc => ?_, fun j hj => ?_⟩
  · rw [List.mem_singleton] at hc; subst hc; exact fit_lit h1 h2
  · have hj' : j = 0 := by simp at hj; omega
    subst hj'
    exact ⟨_, _, rfl, by simp, by simp, by simp [noneB], by simp [noneB], by simp [noneB], by simp [noneB]⟩
theorem post_fit {t : Rx} (h : t.fit) : ∀ c ∈ post t, FitC c := by
  induction t with
  | set S => intro c hc; simp [post] at hc; subst hc; exact ⟨(by decide : (-9223372036854775808 : Int) ≤ 1), (by decide : (1 : Int) ≤ 9223372036854775807), h⟩
  | eps => intro c hc; simp [post] at hc; subst hc; exact fit_lit (by decide) (by decide)
  | cat a b ha hb =>
    intro c hc
    simp [post] at hc
    rcases hc with hc | hc | rfl
    · exact ha h.1 c hc
    · exact hb h.2 c hc
    · exact fit_lit (by decide) (by decide)
  | or a b ha hb =>
    intro c hc
    simp [post] at hc
    rcases hc with hc | hc | rfl
    · exact ha h.1 c hc
    · exact hb h.2 c hc
    · exact fit_lit (by decide) (by decide)
  | star a ha =>
    intro c hc
    simp [post] at hc
    rcases hc with hc | rfl
    · exact ha h c hc
    · exact fit_lit (by decide) (by decide)
  | plus a ha =>
    intro c hc
    simp [post] at hc
    rcases hc with hc | rfl
    · exact ha h c hc
    · exact fit_lit (by decide) (by decide)
  | opt a ha =>
    intro c hc
    simp [post] at hc
    rcases hc with hc | rfl
    · exact ha h c hc
    · exact fit_lit (by decide) (by decide)
/-- whatever the text: three answers -/
theorem parse_some {OK : World → Prop} (H : RegexOK OK) (s : Txt) (u : World) (hu : OK u) : Calls Try.prog 11 #[.string (strT s)] u fun e w' => ∃ v n z, e = .returned (.tuple #[v, .int .i64 n, .int .i64 z]) ∧ Below u.heap.size u w' := by
  rcases parse_ways H s with ⟨z, _, _, _, G⟩ | ⟨t, ht, hl, h60⟩
  · exact (G u hu).mono fun e w' ⟨a, c, n, he, hb⟩ => ⟨_, n, z, he, hb⟩
  · exact (H.good s t u hl ht h60 hu).mono fun e w' ⟨v, he, _, hb⟩ => ⟨v, 0, 0, he, hb⟩

set_option maxHeartbeats 4000000 in
theorem groupsErr {OK : World → Prop} (H : RegexOK OK) (S T : Txt) (w : World) (hw : OK w) (z : Int) (hz0 : z ≠ 0) (hz1 : 0 ≤ z) (hz2 : z ≤ 3)
    (G : ∀ u, OK u → Calls Try.prog 11 #[.string (strT S)] u fun e w' => ∃ a c n, e = .returned (.tuple #[.slice a 0 c, .int .i64 n, .int .i64 z]) ∧ Below u.heap.size u w') :
    Calls Try.prog 4 #[.string (strT S), .string (strT T)] w fun e w' => e = .returned (.bool true) ∧ Below w.heap.size w w' := by
  have GW := hid (wakesC H w hw)
  have GP := hid (fun u (hb : Below w.heap.size w u) => G u (H.keep w u hw hb))
  have GQ := hid (fun u (hb : Below w.heap.size w u) => parse_some H T u (H.keep w u hw hb))
  generalize strT S = s at GP
  generalize strT T = t at GQ
  clear hw G
  rcases (show z = 1 ∨ z = 2 ∨ z = 3 by omega) with rfl | rfl | rfl
  all_goals
    go_enter Try.func4, Try.ntmps4
    go_wp2_with (first
      | (go_at_call 5; refine GW.out.mono ?_; rintro e w1 ⟨rfl, hb1⟩)
      | (go_at_call 11; refine (GQ.out w2 hb2).mono ?_; rintro e w3 ⟨v3, n3, z3, rfl, hb3'⟩; have hb3 := bl_step hb2 hb3')
      | (go_at_call 11; refine (GP.out w1 hb1).mono ?_; rintro e w2 ⟨a2, c2, n2, rfl, hb2'⟩; have hb2 := bl_step hb1 hb2'))
    go_ret
    exact ⟨by first | rfl | simp, hb3⟩
set_option maxHeartbeats 4000000 in
theorem groupsErr2 {OK : World → Prop} (H : RegexOK OK) (S T : Txt) (w : World) (hw : OK w) (t1 : Rx) (h1 : rowsP S = some (t1, [])) (l1 : S.length ≤ 200) (c1 : (post t1).length ≤ 60) (z : Int) (hz0 : z ≠ 0) (hz1 : 0 ≤ z) (hz2 : z ≤ 3)
    (G : ∀ u, OK u → Calls Try.prog 11 #[.string (strT T)] u fun e w' => ∃ a c n, e = .returned (.tuple #[.slice a 0 c, .int .i64 n, .int .i64 z]) ∧ Below u.heap.size u w') :
    Calls Try.prog 4 #[.string (strT S), .string (strT T)] w fun e w' => e = .returned (.bool true) ∧ Below w.heap.size w w' := by
  have GW := hid (wakesC H w hw)
  have GP := hid (fun u (hb : Below w.heap.size w u) => H.good S t1 u l1 h1 c1 (H.keep w u hw hb))
  have GQ := hid (fun u (hb : Below w.heap.size w u) => G u (H.keep w u hw hb))
  generalize strT S = s at GP
  generalize strT T = t at GQ
  clear hw G h1
  rcases (show z = 1 ∨ z = 2 ∨ z = 3 by omega) with rfl | rfl | rfl
  all_goals
    go_enter Try.func4, Try.ntmps4
    go_wp2_with (first
      | (go_at_call 5; refine GW.out.mono ?_; rintro e w1 ⟨rfl, hb1⟩)
      | (go_at_call 11; refine (GQ.out w2 hb2).mono ?_; rintro e w3 ⟨a3, c3, n3, rfl, hb3'⟩; have hb3 := bl_step hb2 hb3')
      | (go_at_call 11; refine (GP.out w1 hb1).mono ?_; rintro e w2 ⟨v2, rfl, hC2, hb2'⟩; have hb2 := bl_step hb1 hb2'; clear hC2))
    go_ret
    exact ⟨by first | rfl | simp, hb3⟩
set_option maxHeartbeats 4000000 in
theorem groupsLong {OK : World → Prop} (H : RegexOK OK) (S T : Txt) (w : World) (hw : OK w) (t1 t2 : Rx) (h1 : rowsP S = some (t1, [])) (l1 : S.length ≤ 200) (c1 : (post t1).length ≤ 60) (h2 : rowsP T = some (t2, [])) (l2 : T.length ≤ 200) (c2 : (post t2).length ≤ 60)
    (hc : 190 < S.length + T.length ∨ 60 ≤ (post t1).length + (post t2).length) :
    Calls Try.prog 4 #[.string (strT S), .string (strT T)] w fun e w' => e = .returned (.bool true) ∧ Below w.heap.size w w' := by
  have GW := hid (wakesC H w hw)
  have GP : Hid (∀ u, Below w.heap.size w u → Calls Try.prog 11 #[.string (strT S)] u fun e w' => ∃ a c, e = .returned (.tuple #[.slice a (post t1).length c, .int .i64 0, .int .i64 0]) ∧ Below u.heap.size u w') := hid (fun u hb => (H.good S t1 u l1 h1 c1 (H.keep w u hw hb)).mono fun e w' ⟨v, he, hC, hb'⟩ => by obtain ⟨a, c, rfl⟩ := hC.shape; exact ⟨a, c, he, hb'⟩)
  have GQ : Hid (∀ u, Below w.heap.size w u → Calls Try.prog 11 #[.string (strT T)] u fun e w' => ∃ a c, e = .returned (.tuple #[.slice a (post t2).length c, .int .i64 0, .int .i64 0]) ∧ Below u.heap.size u w') := hid (fun u hb => (H.good T t2 u l2 h2 c2 (H.keep w u hw hb)).mono fun e w' ⟨v, he, hC, hb'⟩ => by obtain ⟨a, c, rfl⟩ := hC.shape; exact ⟨a, c, he, hb'⟩)
  have z1 := strT_size S
  have z2 := strT_size T
  generalize strT S = s at GP z1
  generalize strT T = t at GQ z2
  generalize (post t1).length = n1 at GP c1 hc
  generalize (post t2).length = n2 at GQ c2 hc
  clear hw h1 h2
  by_cases hl : 190 < S.length + T.length
  · have hlz : (190 : Int) < (s.size : Int) + (t.size : Int) := by omega
    clear hc hl
    go_enter Try.func4, Try.ntmps4
    go_wp2_with (first
      | (go_at_call 5; refine GW.out.mono ?_; rintro e w1 ⟨rfl, hb1⟩)
      | (go_at_call 11; refine (GQ.out w2 hb2).mono ?_; rintro e w3 ⟨a3, c3, rfl, hb3'⟩; have hb3 := bl_step hb2 hb3')
      | (go_at_call 11; refine (GP.out w1 hb1).mono ?_; rintro e w2 ⟨a2, c2, rfl, hb2'⟩; have hb2 := bl_step hb1 hb2'))
    go_ret
    exact ⟨by first | rfl | simp, hb3⟩
  · have hlz : ¬ (190 : Int) < (s.size : Int) + (t.size : Int) := by omega
    have hcz : (60 : Int) ≤ (n1 : Int) + (n2 : Int) := by omega
    clear hc hl
    go_enter Try.func4, Try.ntmps4
    go_wp2_with (first
      | (go_at_call 5; refine GW.out.mono ?_; rintro e w1 ⟨rfl, hb1⟩)
      | (go_at_call 11; refine (GQ.out w2 hb2).mono ?_; rintro e w3 ⟨a3, c3, rfl, hb3'⟩; have hb3 := bl_step hb2 hb3')
      | (go_at_call 11; refine (GP.out w1 hb1).mono ?_; rintro e w2 ⟨a2, c2, rfl, hb2'⟩; have hb2 := bl_step hb1 hb2'))
    go_ret
    exact ⟨by first | rfl | simp, hb3⟩

end Go.Proofs.Ytjiljfmejgiabaa
