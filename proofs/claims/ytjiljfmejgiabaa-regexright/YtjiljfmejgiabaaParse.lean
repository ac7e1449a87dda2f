/- Parse. -/
import Derived.Test.YtjiljfmejgiabaaRead
namespace Go.Proofs.Ytjiljfmejgiabaa
open Go.RowKit

theorem parseLong (s : Txt) (w : World) (hs : 200 < s.length) : Calls Try.prog 11 #[.string (strT s)] w fun e w' => ∃ a c, e = .returned (.tuple #[.slice a 0 c, .int .i64 0, .int .i64 3]) ∧ Below w.heap.size w w' := by
  have hS := strT_size s
  have hz : (200 : Int) < ((strT s).size : Int) := by omega
  generalize strT s = S at hS hz
  clear hS hs
  go_enter Try.func11, Try.ntmps11
  go_wp2
  refine bodyPost_ret (v := .tuple #[.slice none 0 0, .int .i64 0, .int .i64 3]) (by simp [results, Try.results11, go_sem]) rfl ⟨none, 0, rfl, Below.refl _ _⟩

theorem parseBad (s : Txt) (w : World) (hs : s.length ≤ 200) (hr : ∀ t, rowsP s ≠ some (t, [])) : Calls Try.prog 11 #[.string (strT s)] w fun e w' => ∃ a c n, e = .returned (.tuple #[.slice a 0 c, .int .i64 n, .int .i64 1]) ∧ (s = [40, 97] → n = 2) ∧ Below w.heap.size w w' := by
  have G := hid (readBad s w hs hr)
  have hS := strT_size s
  have hz : ¬ (200 : Int) < ((strT s).size : Int) := by omega
  have hzz : (strT s).size ≤ 200 := by omega
  generalize strT s = S at hS hz G hzz
  clear hr hS
  go_enter Try.func11, Try.ntmps11
  go_wp2_with (go_at_call 19; refine G.out.mono ?_; rintro e w1 ⟨n, rfl, hn, hb⟩)
  refine bodyPost_ret (v := .tuple #[.slice none 0 0, .int .i64 n, .int .i64 1]) (by simp [results, Try.results11, go_sem]) rfl ⟨none, 0, n, rfl, hn, hb⟩

theorem parseFull (s : Txt) (t : Rx) (w : World) (hs : s.length ≤ 200) (hr : rowsP s = some (t, [])) (hl : 60 < (post t).length) : Calls Try.prog 11 #[.string (strT s)] w fun e w' => ∃ a c, e = .returned (.tuple #[.slice a 0 c, .int .i64 0, .int .i64 3]) ∧ Below w.heap.size w w' := by
  have G0 := readOk s t w hs hr
  have hS := strT_size s
  have hz : ¬ (200 : Int) < ((strT s).size : Int) := by omega
  have hzz : (strT s).size ≤ 200 := by omega
  have G : Hid (Calls Try.prog 19 #[.string (strT s)] w fun e w' => ∃ a c, e = .returned (.tuple #[.slice a (post t).length c, .int .i64 0, .int .i64 0]) ∧ Below w.heap.size w w') := hid (G0.mono fun e w' ⟨v, he, hc, hb⟩ => by
    obtain ⟨a, c, hv, _⟩ := hc
    subst hv
    exact ⟨a, c, he, hb⟩)
  generalize strT s = S at hS hz G hzz
  have hlz : (60 : Int) < ((post t).length : Int) := by omega
  generalize (post t).length = L at G hlz
  clear hr hS G0 hl
  go_enter Try.func11, Try.ntmps11
  go_wp2_with (go_at_call 19; refine G.out.mono ?_; rintro e w1 ⟨a, c, rfl, hb⟩)
  refine bodyPost_ret (v := .tuple #[.slice none 0 0, .int .i64 0, .int .i64 3]) (by simp [results, Try.results11, go_sem]) rfl ⟨none, 0, rfl, hb⟩

theorem parseGood (s : Txt) (t : Rx) (w : World) (hs : s.length ≤ 200) (hr : rowsP s = some (t, [])) (hl : (post t).length ≤ 60) : Calls Try.prog 11 #[.string (strT s)] w fun e w' => ∃ v, e = .returned (.tuple #[v, .int .i64 0, .int .i64 0]) ∧ Cels w' v (post t) ∧ Below w.heap.size w w' := by
  have G0 := readOk s t w hs hr
  have hS := strT_size s
  have hz : ¬ (200 : Int) < ((strT s).size : Int) := by omega
  have hzz : (strT s).size ≤ 200 := by omega
  have G : Hid (Calls Try.prog 19 #[.string (strT s)] w fun e w' => ∃ a c, e = .returned (.tuple #[.slice a (post t).length c, .int .i64 0, .int .i64 0]) ∧ Hid (Cels w' (.slice a (post t).length c) (post t)) ∧ Below w.heap.size w w') := hid (G0.mono fun e w' ⟨v, he, hc, hb⟩ => by
    have hc' := hc
    obtain ⟨a, c, hv, _⟩ := hc
    subst hv
    exact ⟨a, c, he, hid hc', hb⟩)
  generalize strT s = S at hS hz G hzz
  have hlz : ¬ (60 : Int) < ((post t).length : Int) := by omega
  clear hr hS G0
  go_enter Try.func11, Try.ntmps11
  go_wp2_with (go_at_call 19; refine G.out.mono ?_; rintro e w1 ⟨a, c, rfl, hC, hb⟩)
  refine bodyPost_ret (v := .tuple #[.slice a (post t).length c, .int .i64 0, .int .i64 0]) (by simp [results, Try.results11, go_sem]) rfl ⟨_, rfl, hC.out, hb⟩
theorem parseWake (w : World) : Calls Try.prog 11 #[.string ⟨#[40, 97]⟩] w fun e w' => ∃ a c, e = .returned (.tuple #[.slice a 0 c, .int .i64 2, .int .i64 1]) ∧ Below w.heap.size w w' := by
  have h : rowsP [40, 97] = none := rfl
  refine (parseBad [40, 97] w (by decide) (fun t e => by rw [h] at e; cases e)).mono ?_
  rintro e w' ⟨a, c, n, he, hn, hb⟩
  have := hn rfl
  subst this
  exact ⟨a, c, he, hb⟩

end Go.Proofs.Ytjiljfmejgiabaa
