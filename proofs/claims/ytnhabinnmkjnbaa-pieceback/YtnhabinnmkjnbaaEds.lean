/- Lists of edits in memory: Long over them; how a law's argument is opened. -/
import Derived.Test.YtnhabinnmkjnbaaActs
import Derived.Test.YtnhabinnmkjnbaaClose
import Derived.Deep.Slices
namespace Go.Proofs.Ytnhabinnmkjnbaa
open Go.RowKit
open Go.ChangeShapes Go.WideShapes Go.ChangeAt
open Go.ChangeMaps (open_string shut_string)

def longB (l : Nat) (ts : List ByteArray) : Bool := decide (5000 < l) || decide (100 < ts.length) || ts.any (fun t => decide (5000 < t.size))

set_option maxHeartbeats 400000 in
theorem long10 (s : ByteArray) (ts : List ByteArray) (b off cap : Nat) (w : World) (hs : s.size ≤ 9223372036854775807) (hl : ts.length ≤ 9223372036854775807)
    (hc : ∀ j (hj : j < ts.length), w.cell? ⟨b, off + j * 3 + 2, none⟩ = some (.string ts[j])) :
    Calls Try.prog 20 #[.string s, .slice (some ⟨b, off, none⟩) ts.length cap] w fun e w' => e = .returned (.bool (longB s.size ts)) ∧ w' = w := by
  by_cases h1 : 5000 < s.size
  · have hv : Hid (longB s.size ts = true) := by unfold Hid longB; simp [h1]
    have h1' : (5000 : Int) < s.size := by omega
    go_enter Try.func20, Try.ntmps20
    go_wp2
    go_ret
    exact ⟨by rw [hv.out]; rfl, rfl⟩
  · by_cases h2 : 100 < ts.length
    · have hv : Hid (longB s.size ts = true) := by unfold Hid longB; simp [h2]
      have h1' : ¬ (5000 : Int) < s.size := by omega
      have h2' : (100 : Int) < ts.length := by omega
      go_enter Try.func20, Try.ntmps20
      go_wp2
      go_ret
      exact ⟨by rw [hv.out]; rfl, rfl⟩
    · have h1' : ¬ (5000 : Int) < s.size := by omega
      have h2' : ¬ (100 : Int) < ts.length := by omega
      have hv : Hid (longB s.size ts = ts.any (fun t => decide (5000 < t.size))) := by unfold Hid longB; simp [h1, h2]
      go_enter Try.func20, Try.ntmps20
      go_wp2
      go_loop [5] (fun i => ∃ k : Nat, k ≤ ts.length ∧ i = .int .i64 k ∧ ∀ j (hj : j < ts.length), j < k → ¬ 5000 < ts[j].size) (fun i => ts.length - (intOf i).toNat)
      case atStart => exact ⟨0, Nat.zero_le _, rfl, fun j hj h => absurd h (Nat.not_lt_zero _)⟩
      case round =>
        obtain ⟨k, hk, rfl, hno⟩ := hrel
        by_cases hlt : k < ts.length
        · have hck := hc k hlt
          have HN : Hid (∀ j (hj : j < ts.length), j < k → ¬ 5000 < ts[j].size) := hno
          have HC : Hid (∀ j (hj : j < ts.length), w.cell? ⟨b, off + j * 3 + 2, none⟩ = some (.string ts[j])) := hc
          clear hno hc
          have hlt' : (k : Int) < ts.length := by omega
          by_cases hbig : (5000 : Int) < ts[k].size
          · have HA : Hid ((ts.any fun t => decide (5000 < t.size)) = true) := by
              unfold Hid; rw [List.any_eq_true]; exact ⟨ts[k], List.getElem_mem hlt, by simp; omega⟩
            go_wp2
            go_ret
            exact ⟨by rw [hv.out, HA.out]; rfl, rfl⟩
          · go_wp2
            go_round
            case rel => exact ⟨k + 1, by omega, by go_num, fun j hj h => by
              by_cases e : j = k
              · subst e; omega
              · exact HN.out j hj (by omega)⟩
            case measure => simp [intOf]; omega
        · have HA : Hid ((ts.any fun t => decide (5000 < t.size)) = false) := by
            unfold Hid; rw [List.any_eq_false]
            intro x hx
            obtain ⟨j, hj, rfl⟩ := List.getElem_of_mem hx
            have := hno j hj (by omega)
            simpa using this
          clear hno hc
          go_wp2
          go_ret
          exact ⟨by rw [hv.out, HA.out]; rfl, rfl⟩

/-- the edits es lie in memory, one behind the other -/
def Edits (w : World) (b off : Nat) (es : List Ed) : Prop :=
  ∀ j (h : j < es.length), w.cell? ⟨b, off + j * 3, none⟩ = some (.int .i64 es[j].a) ∧ w.cell? ⟨b, off + j * 3 + 1, none⟩ = some (.int .i64 es[j].n) ∧ w.cell? ⟨b, off + j * 3 + 2, none⟩ = some (.string es[j].t)

def EdsAt (w : World) (ao : Option Addr) (es : List Ed) : Prop := es ≠ [] → ∃ b off, ao = some ⟨b, off, none⟩ ∧ Edits w b off es

theorem Edits.keep {w w' : World} {b off : Nat} {es : List Ed} (h : Edits w b off es) (hb : Below w.heap.size w w') : Edits w' b off es := fun j hj =>
  ⟨keep_cell hb (h j hj).1, keep_cell hb (h j hj).2.1, keep_cell hb (h j hj).2.2⟩

theorem EdsAt.keep {w w' : World} {ao : Option Addr} {es : List Ed} (h : EdsAt w ao es) (hb : Below w.heap.size w w') : EdsAt w' ao es := fun hne => by
  obtain ⟨b, off, e, h⟩ := h hne
  exact ⟨b, off, e, h.keep hb⟩

set_option maxHeartbeats 400000 in
theorem long10_nil (s : ByteArray) (ao : Option Addr) (cap : Nat) (w : World) (hs : s.size ≤ 9223372036854775807) :
    Calls Try.prog 20 #[.string s, .slice ao 0 cap] w fun e w' => e = .returned (.bool (longB s.size [])) ∧ w' = w := by
  by_cases h1 : 5000 < s.size
  · have hv : Hid (longB s.size [] = true) := by unfold Hid longB; simp [h1]
    have h1' : (5000 : Int) < s.size := by omega
    go_enter Try.func20, Try.ntmps20
    go_wp2
    go_ret
    exact ⟨by rw [hv.out]; rfl, rfl⟩
  · have h1' : ¬ (5000 : Int) < s.size := by omega
    have hv : Hid (longB s.size [] = false) := by unfold Hid longB; simp [h1]
    go_enter Try.func20, Try.ntmps20
    go_wp2
    go_loop [5] (fun i => i = .int .i64 0) (fun _ => 0)
    case atStart => exact rfl
    case round =>
      subst hrel
      go_wp2
      go_ret
      exact ⟨by rw [hv.out]; rfl, rfl⟩

theorem long10_eds (s : ByteArray) (es : List Ed) (ao : Option Addr) (cap : Nat) (w : World) (hs : s.size ≤ 9223372036854775807) (hl : es.length ≤ 9223372036854775807) (hA : EdsAt w ao es) :
    Calls Try.prog 20 #[.string s, .slice ao es.length cap] w fun e w' => e = .returned (.bool (longB s.size (es.map Ed.t))) ∧ w' = w := by
  cases es with
  | nil => exact long10_nil s ao cap w hs
  | cons e r =>
    obtain ⟨b, off, rfl, h⟩ := hA (by simp)
    have k := long10 s ((e :: r).map Ed.t) b off cap w hs (by simpa using hl) (fun j hj => by
      rw [List.getElem_map]
      exact (h j (by simpa using hj)).2.2)
    rw [List.length_map] at k
    exact k

theorem longB_eds {l : Nat} {es : List Ed} (h : longB l (es.map Ed.t) = false) : l ≤ 5000 ∧ es.length ≤ 100 ∧ ∀ e ∈ es, e.t.size ≤ 5000 := by
  simp [longB] at h
  exact ⟨by omega, by omega, fun e he => h.2 e he⟩

theorem ed_cells {w : World} {a : Addr} {cs : List Value} (h : w.cells? 0 a 3 = some cs) : (∃ c0 c1 c2, cs = [c0, c1, c2]) ∧ ∀ i, i < 3 → w.cell? (a.add i) = cs[i]? := by
  obtain ⟨_, hl, hc⟩ := World.cells?_some h
  refine ⟨?_, hc⟩
  match cs, hl with
  | [c0, c1, c2], _ => exact ⟨c0, c1, c2, rfl⟩

theorem Try.cells3 : Try.prog.cellsOf 3 = 1 := by kernel_rfl

theorem Try.cells9 : Try.prog.cellsOf 9 = 1 := by kernel_rfl

theorem wide_lt {n : Nat} (h : n ≤ maxLen) : n ≤ 9223372036854775807 := by unfold maxLen at h; omega

theorem bound_hi {n : Int} (h : (Lit.int .i64 n).wf = true) : n ≤ 9223372036854775807 := (bounds_i64 h).2

/-- a slice of edits, opened -/
theorem open_eds {H : Type} {enc : TypeId × Value → H} {W : World} {v : Value} {d : DataW H} {p : List MemPlace} {base : Nat} (hv : Value.okWide Try.prog W .any base 50 v)
    (h : DataW.Trod enc Try.prog W 0 (fun _ => true) true 50 v d p) :
    ∃ (es : List Ed) (ao : Option Addr) (cap : Nat), v = .slice ao es.length cap ∧ EdsAt W ao es ∧ (ao = none → es = [] ∧ cap = 0) ∧ (∀ e ∈ es, e.a ≤ 9223372036854775807) ∧ es.length ≤ 9223372036854775807 := by
  obtain ⟨ao, len, cap, rfl⟩ := okWide_slice Try.underlying50 hv
  obtain ⟨fuel, hf⟩ := h
  rcases Deep.open_slice Try.underlying50 hf with ⟨hcs, _⟩ | ⟨a, len', cap', m, n, D, Pl, hcs, _, hl, hm, hmm, _, hx⟩
  · simp [Value.cells] at hcs
    obtain ⟨rfl, rfl, rfl⟩ := hcs
    exact ⟨[], none, 0, rfl, fun h => absurd rfl h, fun _ => ⟨rfl, rfl⟩, fun e he => absurd he (by simp), by simp⟩
  · simp [Value.cells] at hcs
    obtain ⟨rfl, rfl, rfl⟩ := hcs
    have hm' : m = cap := by simpa using hmm
    have hone : ∀ i, i < len → ∃ e : Int × Int × ByteArray, W.cell? (a.add (i * 3)) = some (.int .i64 e.1) ∧ W.cell? (a.add (i * 3 + 1)) = some (.int .i64 e.2.1) ∧ W.cell? (a.add (i * 3 + 2)) = some (.string e.2.2) ∧ e.1 ≤ 9223372036854775807 := by
      intro i hi
      obtain ⟨cs', hc, ht⟩ := hx i (by omega)
      rw [Try.cells34] at hc
      obtain ⟨hcl, hce⟩ := ed_cells hc
      obtain ⟨y0, y1, y2, q, _, _, t0, t1, t2⟩ := Deep.trod_struct3 Try.underlying34 ht
      obtain ⟨c0, c1, c2, rfl⟩ := hcl
      obtain ⟨ea, e0, _, wa⟩ := DataW.trod_int Try.underlying3 t0
      obtain ⟨en, e1, _, wn⟩ := DataW.trod_int Try.underlying3 t1
      obtain ⟨et, e2, _, wt⟩ := DataW.trod_string Try.underlying9 t2
      simp [Try.cells3] at e0 e1
      simp [Try.cells9] at e2
      subst e0 e1 e2
      have h0 := hce 0 (by omega)
      have h1 := hce 1 (by omega)
      have h2 := hce 2 (by omega)
      rw [Deep.add_add] at h0 h1 h2
      exact ⟨(ea, en, et), h0, h1, h2, bound_hi wa⟩
    obtain ⟨E, hE⟩ := Deep.choose_lt hone
    refine ⟨(List.range len).map (fun i => ⟨(E i).1, (E i).2.1, (E i).2.2⟩), some a, cap, by simp, ?_, fun h => (by cases h), ?_, ?_⟩
    · intro hne
      have hp : 0 < len := by
        rcases Nat.eq_zero_or_pos len with h | h
        · subst h; exact absurd rfl hne
        · exact h
      obtain ⟨b, off, spot⟩ := a
      have hspot : spot = none := by simpa [Addr.add] using World.cell?_spot (hE 0 hp).1
      subst hspot
      refine ⟨b, off, rfl, fun j hj => ?_⟩
      have hj' : j < len := by simpa using hj
      obtain ⟨k0, k1, k2, _⟩ := hE j hj'
      rw [Go.WideShapes.add_plain] at k0 k1 k2
      simp only [List.getElem_map, List.getElem_range]
      exact ⟨k0, k1, k2⟩
    · intro e he
      obtain ⟨i, hi, rfl⟩ := List.mem_map.1 he
      exact (hE i (List.mem_range.1 hi)).2.2.2
    · rw [List.length_map, List.length_range]
      exact Nat.le_trans hl (wide_lt hm)

theorem Edits.keepB {B : Nat} {w w' : World} {b off : Nat} {es : List Ed} (h : Edits w b off es) (hb : Below B w w') (hB : b < B) : Edits w' b off es := fun j hj =>
  ⟨(hb.cell (p := ⟨b, _, none⟩) hB).trans (h j hj).1, (hb.cell (p := ⟨b, _, none⟩) hB).trans (h j hj).2.1, (hb.cell (p := ⟨b, _, none⟩) hB).trans (h j hj).2.2⟩

end Go.Proofs.Ytnhabinnmkjnbaa
