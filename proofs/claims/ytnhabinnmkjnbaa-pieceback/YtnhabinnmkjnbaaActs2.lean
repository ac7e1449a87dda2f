/- A list of acts, opened; the contract of long at any list. -/
import Derived.Test.YtnhabinnmkjnbaaDo
namespace Go.Proofs.Ytnhabinnmkjnbaa
open Go.ChangeShapes Go.WideShapes Go.ChangeAt Go.RowKit
open Go.ChangeMaps (open_string shut_string)

theorem longNil (s : ByteArray) (ao : Option Addr) (cap : Nat) (w : World) (hs : s.size ≤ 9223372036854775807) :
    Calls Try.prog 9 #[.string s, .slice ao 0 cap] w fun e w' => e = .returned (.bool (longA s.size [])) ∧ w' = w := by
  by_cases h1 : 4000 < s.size
  · have hv : Hid (longA s.size [] = true) := by unfold Hid longA; simp [h1]
    have h1' : (4000 : Int) < s.size := by omega
    go_enter Try.func9, Try.ntmps9
    go_wp2
    go_ret
    exact ⟨by rw [hv.out]; rfl, rfl⟩
  · have h1' : ¬ (4000 : Int) < s.size := by omega
    have hv : Hid (longA s.size [] = false) := by unfold Hid longA; simp [h1]
    go_enter Try.func9, Try.ntmps9
    go_wp2
    go_loop [16] (fun i => i = .int .i64 0) (fun _ => 0)
    case atStart => exact rfl
    case round =>
      subst hrel
      go_wp2
      go_ret
      exact ⟨by rw [hv.out]; rfl, rfl⟩

theorem longActs (s : ByteArray) (acts : List Act) (ao : Option Addr) (cap : Nat) (w : World) (hs : s.size ≤ 9223372036854775807) (hl : acts.length ≤ 9223372036854775807) (hA : ActsAt w ao acts) :
    Calls Try.prog 9 #[.string s, .slice ao acts.length cap] w fun e w' => e = .returned (.bool (longA s.size acts)) ∧ w' = w := by
  cases acts with
  | nil => exact longNil s ao cap w hs
  | cons e r =>
    obtain ⟨b, off, rfl, _, h⟩ := hA (by simp)
    exact longIs s (e :: r) b off cap w hs hl h

theorem ActsAt.keep {w w' : World} {ao : Option Addr} {acts : List Act} (h : ActsAt w ao acts) (hb : Below w.heap.size w w') : ActsAt w' ao acts := fun hne => by
  obtain ⟨b, off, rfl, hlt, h⟩ := h hne
  exact ⟨b, off, rfl, Nat.lt_of_lt_of_le hlt hb.size, h.keepB hb hlt⟩

theorem Try.cells36 : Try.prog.cellsOf 36 = 4 := by kernel_rfl
theorem act_cells {w : World} {a : Addr} {cs : List Value} (h : w.cells? 0 a 4 = some cs) : (∃ c0 c1 c2 c3, cs = [c0, c1, c2, c3]) ∧ ∀ i, i < 4 → w.cell? (a.add i) = cs[i]? := by
  obtain ⟨_, hl, hc⟩ := World.cells?_some h
  refine ⟨?_, hc⟩
  match cs, hl with
  | [c0, c1, c2, c3], _ => exact ⟨c0, c1, c2, c3, rfl⟩

/-- a slice of acts, opened -/
theorem open_acts {H : Type} {enc : TypeId × Value → H} {W : World} {v : Value} {d : DataW H} {p : List MemPlace} {base : Nat} (hv : Value.okWide Try.prog W .any base 22 v)
    (h : DataW.Trod enc Try.prog W 0 (fun _ => true) true 22 v d p) :
    ∃ (acts : List Act) (ao : Option Addr) (cap : Nat), v = .slice ao acts.length cap ∧ ActsAt W ao acts ∧ (∀ x ∈ acts, x.e.a ≤ 9223372036854775807) ∧ acts.length ≤ 9223372036854775807 := by
  obtain ⟨ao, len, cap, rfl⟩ := okWide_slice Try.underlying22 hv
  obtain ⟨fuel, hf⟩ := h
  rcases Deep.open_slice Try.underlying22 hf with ⟨hcs, _⟩ | ⟨a, len', cap', m, n, D, Pl, hcs, _, hl, hm, hmm, _, hx⟩
  · simp [Value.cells] at hcs
    obtain ⟨rfl, rfl, rfl⟩ := hcs
    exact ⟨[], none, 0, rfl, fun h => absurd rfl h, fun e he => absurd he (by simp), by simp⟩
  · simp [Value.cells] at hcs
    obtain ⟨rfl, rfl, rfl⟩ := hcs
    have hm' : m = cap := by simpa using hmm
    have hone : ∀ i, i < len → ∃ e : Int × Int × Int × ByteArray, W.cell? (a.add (i * 4)) = some (.int .i64 e.1) ∧ W.cell? (a.add (i * 4 + 1)) = some (.int .i64 e.2.1) ∧ W.cell? (a.add (i * 4 + 2)) = some (.int .i64 e.2.2.1) ∧ W.cell? (a.add (i * 4 + 3)) = some (.string e.2.2.2) ∧ e.2.1 ≤ 9223372036854775807 := by
      intro i hi
      obtain ⟨cs', hc, ht⟩ := hx i (by omega)
      rw [Try.cells36] at hc
      obtain ⟨hcl, hce⟩ := act_cells hc
      obtain ⟨z0, z1, q, _, _, s0, s1⟩ := trod_struct2 Try.underlying36 ht
      obtain ⟨c0, c1, c2, c3, rfl⟩ := hcl
      obtain ⟨ek, e3, _, wk⟩ := DataW.trod_int Try.underlying3 s0
      simp [Try.cells3] at e3
      obtain ⟨y0, y1, y2, q2, _, _, t0, t1, t2⟩ := Deep.trod_struct3 Try.underlying34 s1
      obtain ⟨ea, e0, _, wa⟩ := DataW.trod_int Try.underlying3 t0
      obtain ⟨en, e1, _, wn⟩ := DataW.trod_int Try.underlying3 t1
      obtain ⟨et, e2, _, wt⟩ := DataW.trod_string Try.underlying9 t2
      simp [Try.cells3, Try.cells34] at e0 e1
      simp [Try.cells9, Try.cells34] at e2
      subst e0 e1 e2 e3
      have h0 := hce 0 (by omega)
      have h1 := hce 1 (by omega)
      have h2 := hce 2 (by omega)
      have h3 := hce 3 (by omega)
      rw [Deep.add_add] at h0 h1 h2 h3
      exact ⟨(ek, ea, en, et), h0, h1, h2, h3, bound_hi wa⟩
    obtain ⟨E, hE⟩ := Deep.choose_lt hone
    refine ⟨(List.range len).map (fun i => ⟨(E i).1, ⟨(E i).2.1, (E i).2.2.1, (E i).2.2.2⟩⟩), some a, cap, by simp, ?_, ?_, ?_⟩
    · intro hne
      have hp : 0 < len := by
        rcases Nat.eq_zero_or_pos len with h | h
        · subst h; exact absurd rfl hne
        · exact h
      obtain ⟨b, off, spot⟩ := a
      have hspot : spot = none := by simpa [Addr.add] using World.cell?_spot (hE 0 hp).1
      subst hspot
      refine ⟨b, off, rfl, ?_, fun j hj => ?_⟩
      · have k0 := (hE 0 hp).1
        rw [Go.WideShapes.add_plain] at k0
        exact World.block_lt_of_cell? W _ k0
      · have hj' : j < len := by simpa using hj
        obtain ⟨k0, k1, k2, k3, _⟩ := hE j hj'
        rw [Go.WideShapes.add_plain] at k0 k1 k2 k3
        simp only [List.getElem_map, List.getElem_range]
        exact ⟨k0, k1, k2, k3⟩
    · intro e he
      obtain ⟨i, hi, rfl⟩ := List.mem_map.1 he
      exact (hE i (List.mem_range.1 hi)).2.2.2.2
    · rw [List.length_map, List.length_range]
      exact Nat.le_trans hl (wide_lt hm)

theorem open_sacts {H : Type} {enc : TypeId × Value → H} {W : World} {base : Nat} {args : Array Value} {ds : List (DataW H)} {p : List MemPlace}
    (hval : ∀ (j : Nat) t v, #[9, 22][j]? = some t → args[j]? = some v → Value.okWide Try.prog W .any base t v)
    (hA : DataW.TrodAll enc Try.prog W 0 (fun _ => true) true [9, 22] args.toList ds p) :
    ∃ (s : ByteArray) (acts : List Act) (ao : Option Addr) (cap : Nat) (d0 d1 : DataW H), args = #[.string s, .slice ao acts.length cap] ∧ ds = [d0, d1] ∧ s.size ≤ 9223372036854775807 ∧ acts.length ≤ 9223372036854775807 ∧ ActsAt W ao acts ∧ (∀ x ∈ acts, x.e.a ≤ 9223372036854775807) := by
  obtain ⟨v0, v1, d0, d1, p0, p1, rfl, rfl, rfl, h0, h1⟩ := trodAll_two hA
  obtain ⟨s, rfl, rfl, rfl, hs⟩ := open_string Try.underlying9 (hval 0 9 v0 rfl rfl) h0
  obtain ⟨acts, ao, cap, rfl, hA0, hS, hl⟩ := open_acts (hval 1 22 v1 rfl rfl) h1
  exact ⟨s, acts, ao, cap, _, _, rfl, rfl, wide_lt hs, hl, hA0, hS⟩

end Go.Proofs.Ytnhabinnmkjnbaa
