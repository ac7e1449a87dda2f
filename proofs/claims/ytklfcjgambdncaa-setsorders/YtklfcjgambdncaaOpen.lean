/- The arguments of layer 4's laws, opened. -/
import Derived.Test.YtklfcjgambdncaaNums
namespace Go.Proofs.Ytklfcjgambdncaa
open Go.ChangeShapes Go.WideShapes Go.ChangeAt Go.RowKit

theorem open_n {H : Type} {enc : TypeId × Value → H} {W : World} {base : Nat} {args : Array Value} {ds : List (DataW H)} {p : List MemPlace}
    (hval : ∀ (j : Nat) t v, #[22][j]? = some t → args[j]? = some v → Value.okWide Try.prog W .any base t v)
    (hA : DataW.TrodAll enc Try.prog W 0 (fun _ => true) true [22] args.toList ds p) :
    ∃ (l : List Int) (v : Value) (d0 : DataW H), args = #[v] ∧ ds = [d0] ∧ Nums W v l ∧ l.length ≤ 9223372036854775807 := by
  obtain ⟨v0, d0, rfl, rfl, h0⟩ := trodAll_one hA
  obtain ⟨l, ao, cap, hv, hN, hl, _⟩ := open_nums (hval 0 22 v0 rfl rfl) h0
  exact ⟨l, v0, _, rfl, rfl, hN, hl⟩
theorem open_ni {H : Type} {enc : TypeId × Value → H} {W : World} {base : Nat} {args : Array Value} {ds : List (DataW H)} {p : List MemPlace}
    (hval : ∀ (j : Nat) t v, #[22, 3][j]? = some t → args[j]? = some v → Value.okWide Try.prog W .any base t v)
    (hA : DataW.TrodAll enc Try.prog W 0 (fun _ => true) true [22, 3] args.toList ds p) :
    ∃ (l : List Int) (v : Value) (n : Int) (d0 d1 : DataW H), args = #[v, .int .i64 n] ∧ ds = [d0, d1] ∧ Nums W v l ∧ l.length ≤ 9223372036854775807 := by
  obtain ⟨v0, v1, d0, d1, p0, p1, rfl, rfl, rfl, h0, h1⟩ := trodAll_two hA
  obtain ⟨l, ao, cap, hv, hN, hl, _⟩ := open_nums (hval 0 22 v0 rfl rfl) h0
  obtain ⟨n, rfl, rfl, rfl, wn⟩ := open_int Try.underlying3 (hval 1 3 v1 rfl rfl) h1
  exact ⟨l, v0, n, _, _, rfl, rfl, hN, hl⟩
theorem open_nn {H : Type} {enc : TypeId × Value → H} {W : World} {base : Nat} {args : Array Value} {ds : List (DataW H)} {p : List MemPlace}
    (hval : ∀ (j : Nat) t v, #[22, 22][j]? = some t → args[j]? = some v → Value.okWide Try.prog W .any base t v)
    (hA : DataW.TrodAll enc Try.prog W 0 (fun _ => true) true [22, 22] args.toList ds p) :
    ∃ (la lb : List Int) (va vb : Value) (d0 d1 : DataW H), args = #[va, vb] ∧ ds = [d0, d1] ∧ Nums W va la ∧ Nums W vb lb ∧ la.length ≤ 9223372036854775807 ∧ lb.length ≤ 9223372036854775807 := by
  obtain ⟨v0, v1, d0, d1, p0, p1, rfl, rfl, rfl, h0, h1⟩ := trodAll_two hA
  obtain ⟨l, ao, cap, hv, hN, hl, _⟩ := open_nums (hval 0 22 v0 rfl rfl) h0
  obtain ⟨l', ao', cap', hv', hN', hl', _⟩ := open_nums (hval 1 22 v1 rfl rfl) h1
  exact ⟨l, l', v0, v1, _, _, rfl, rfl, hN, hN', hl, hl'⟩
theorem open_nnn {H : Type} {enc : TypeId × Value → H} {W : World} {base : Nat} {args : Array Value} {ds : List (DataW H)} {p : List MemPlace}
    (hval : ∀ (j : Nat) t v, #[22, 22, 22][j]? = some t → args[j]? = some v → Value.okWide Try.prog W .any base t v)
    (hA : DataW.TrodAll enc Try.prog W 0 (fun _ => true) true [22, 22, 22] args.toList ds p) :
    ∃ (la lb lc : List Int) (va vb vc : Value) (d0 d1 d2 : DataW H), args = #[va, vb, vc] ∧ ds = [d0, d1, d2] ∧ Nums W va la ∧ Nums W vb lb ∧ Nums W vc lc ∧ la.length ≤ 9223372036854775807 ∧ lb.length ≤ 9223372036854775807 ∧ lc.length ≤ 9223372036854775807 := by
  obtain ⟨v0, v1, v2, d0, d1, d2, p0, p1, p2, rfl, rfl, rfl, h0, h1, h2⟩ := trodAll_three hA
  obtain ⟨l, ao, cap, hv, hN, hl, _⟩ := open_nums (hval 0 22 v0 rfl rfl) h0
  obtain ⟨l', ao', cap', hv', hN', hl', _⟩ := open_nums (hval 1 22 v1 rfl rfl) h1
  obtain ⟨l2, ao2, cap2, hv2, hN2, hl2, _⟩ := open_nums (hval 2 22 v2 rfl rfl) h2
  exact ⟨l, l', l2, v0, v1, v2, _, _, _, rfl, rfl, hN, hN', hN2, hl, hl', hl2⟩

end Go.Proofs.Ytklfcjgambdncaa
