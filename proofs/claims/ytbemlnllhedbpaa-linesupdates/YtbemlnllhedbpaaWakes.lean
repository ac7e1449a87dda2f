/- wakes, long of layer 3; the arguments of its laws, opened. -/
import Derived.Test.YtbemlnllhedbpaaStarts
import Derived.Test.YtbemlnllhedbpaaSame
namespace Go.Proofs.Ytbemlnllhedbpaa
open Go.ChangeShapes Go.WideShapes Go.ChangeAt Go.RowKit
open Go.ChangeMaps (open_string shut_string)

theorem bl_step {w u w1 : World} (h : Below w.heap.size w u) (hb : Below u.heap.size u w1) : Below w.heap.size w w1 := h.trans (hb.mono h.size)
/-- where the lines of a text begin -/
def st (s : ByteArray) : List Int := stN s s.size
theorem st_len (s : ByteArray) : (st s).length ≤ s.size + 1 := (stN_len s _).2
theorem startsC (s : ByteArray) (w : World) (hs : s.size ≤ 1000000) :
    Calls Try.prog 11 #[.string s] w fun e w' => ∃ v, e = .returned v ∧ Nums w' v (st s) ∧ Below w.heap.size w w' :=
  (starts11 s w hs).mono fun _ _ ⟨v, he, h, hb⟩ => ⟨v, he, Nums.of_row h, hb⟩
theorem refStartsC (s : ByteArray) (w : World) (hs : s.size ≤ 1000000) :
    Calls Try.prog 12 #[.string s] w fun e w' => ∃ v, e = .returned v ∧ Nums w' v (st s) ∧ Below w.heap.size w w' :=
  (refStarts12 s w hs).mono fun _ _ ⟨v, he, h, hb⟩ => ⟨v, he, Nums.of_row h, hb⟩
theorem st_wakes : st ⟨#[97, 10, 98, 10]⟩ = [0, 2, 4] := by decide +kernel
theorem Nums.lit3 (w : World) (a b c : Int) : Nums (w.alloc (.cells #[.int .i64 a, .int .i64 b, .int .i64 c] 3)) (.slice (some ⟨w.heap.size, 0, none⟩) 3 3) [a, b, c] :=
  Nums.of_row (base := 0) (World.ownsRow_lit w #[.int .i64 a, .int .i64 b, .int .i64 c] 3 (Nat.zero_le _) (by unfold maxLen; omega) rfl)

theorem wakesC (w : World) : Calls Try.prog 8 #[] w fun e w' => e = .returned (.bool true) ∧ Below w.heap.size w w' := by
  have G : Hid (∀ u, Calls Try.prog 11 #[.string ⟨#[97, 10, 98, 10]⟩] u fun e w' => ∃ v, e = .returned v ∧ Nums w' v [0, 2, 4] ∧ Below u.heap.size u w') := fun u => by
    have := startsC ⟨#[97, 10, 98, 10]⟩ u (by decide)
    rwa [st_wakes] at this
  have GS : Hid (∀ va vb u, Nums u va [0, 2, 4] → Nums u vb [0, 2, 4] → Calls Try.prog 10 #[va, vb] u fun e w' => e = .returned (.bool true) ∧ Below u.heap.size u w') := fun va vb u ha hb => by
    have := same10 va vb [0, 2, 4] [0, 2, 4] u (by decide) (by decide) ha hb
    rwa [decide_eq_true rfl] at this
  go_enter Try.func8, Try.ntmps8
  go_wp2_with (first
    | (go_at_call 11; refine (G.out _).mono ?_; rintro e w1 ⟨v, rfl, hn, hb1⟩)
    | (go_at_call 10; refine (GS.out _ _ _ (hn.keep ((Below.refl _ _).alloc (Nat.le_refl _) _)) (Nums.lit3 _ _ _ _)).mono ?_; rintro e w2 ⟨rfl, hb2⟩))
  go_ret
  exact ⟨rfl, bl_step (bl_step hb1 ((Below.refl _ _).alloc (Nat.le_refl _) _)) hb2⟩

theorem longC (s : ByteArray) (w : World) (hs : s.size ≤ 9223372036854775807) : Calls Try.prog 9 #[.string s] w fun e w' => e = .returned (.bool (decide (4000 < s.size))) ∧ w' = w := by
  by_cases h : 4000 < s.size
  · have h' : (4000 : Int) < s.size := by omega
    go_enter Try.func9, Try.ntmps9
    go_wp2
    go_ret
    first | exact ⟨rfl, rfl⟩ | exact ⟨by rw [decide_eq_true h, ← decide_eq_true h']; rfl, rfl⟩
  · have h' : ¬ (4000 : Int) < s.size := by omega
    go_enter Try.func9, Try.ntmps9
    go_wp2
    go_ret
    exact ⟨rfl, rfl⟩

theorem open_s {H : Type} {enc : TypeId × Value → H} {W : World} {base : Nat} {args : Array Value} {ds : List (DataW H)} {p : List MemPlace}
    (hval : ∀ (j : Nat) t v, #[9][j]? = some t → args[j]? = some v → Value.okWide Try.prog W .any base t v)
    (hA : DataW.TrodAll enc Try.prog W 0 (fun _ => true) true [9] args.toList ds p) :
    ∃ (s : ByteArray) (d0 : DataW H), args = #[.string s] ∧ ds = [d0] ∧ s.size ≤ 9223372036854775807 := by
  obtain ⟨v0, d0, rfl, rfl, h0⟩ := trodAll_one hA
  obtain ⟨s, rfl, rfl, rfl, hs⟩ := open_string Try.underlying9 (hval 0 9 v0 rfl rfl) h0
  unfold maxLen at hs
  exact ⟨s, _, rfl, rfl, by omega⟩
theorem open_si {H : Type} {enc : TypeId × Value → H} {W : World} {base : Nat} {args : Array Value} {ds : List (DataW H)} {p : List MemPlace}
    (hval : ∀ (j : Nat) t v, #[9, 3][j]? = some t → args[j]? = some v → Value.okWide Try.prog W .any base t v)
    (hA : DataW.TrodAll enc Try.prog W 0 (fun _ => true) true [9, 3] args.toList ds p) :
    ∃ (s : ByteArray) (a : Int) (d0 d1 : DataW H), args = #[.string s, .int .i64 a] ∧ ds = [d0, d1] ∧ s.size ≤ 9223372036854775807 ∧ -9223372036854775808 ≤ a ∧ a ≤ 9223372036854775807 := by
  obtain ⟨v0, v1, d0, d1, p0, p1, rfl, rfl, rfl, h0, h1⟩ := trodAll_two hA
  obtain ⟨s, rfl, rfl, rfl, hs⟩ := open_string Try.underlying9 (hval 0 9 v0 rfl rfl) h0
  obtain ⟨a, rfl, rfl, rfl, wa⟩ := open_int Try.underlying3 (hval 1 3 v1 rfl rfl) h1
  have ba := bounds_i64 wa
  unfold maxLen at hs
  exact ⟨s, a, _, _, rfl, rfl, by omega, ba.1, ba.2⟩

end Go.Proofs.Ytbemlnllhedbpaa
