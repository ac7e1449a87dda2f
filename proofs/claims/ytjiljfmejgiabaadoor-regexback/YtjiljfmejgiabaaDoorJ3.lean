/- Rules in memory: slices of cells. The table that bits.TrailingZeros64 reads. -/
import Derived.Test.YtjiljfmejgiabaaDoorJ2
import Derived.Test.YtjiljfmejgiabaaDoorCards
import Derived.Test.YtjiljfmejgiabaaDoorTie
import Derived.Laws.StructEq
import Derived.ChangeKeysEq
import Derived.Deep.DeepHandedRow
import Derived.Lib.LaidTab
import Derived.Shelf.Spec.TrailingZeros
import Derived.MakeChecks
namespace Go.Proofs.YtjiljfmejgiabaaDoor
open Go.RowKit

structure FitC (c : Cel) : Prop where
  lo : -9223372036854775808 ≤ c.op
  hi : c.op ≤ 9223372036854775807
  s : Fit4 c.s
/-- a cell lies at a place -/
def At5 (w : World) (b o : Nat) (c : Cel) : Prop := w.cell? ⟨b, o, none⟩ = some (.int .i64 c.op) ∧ w.cell? ⟨b, o + 1, none⟩ = some (.int .u64 (c.s.a : Int)) ∧ w.cell? ⟨b, o + 2, none⟩ = some (.int .u64 (c.s.b : Int)) ∧ w.cell? ⟨b, o + 3, none⟩ = some (.int .u64 (c.s.c : Int)) ∧ w.cell? ⟨b, o + 4, none⟩ = some (.int .u64 (c.s.d : Int))
theorem keep_cell {u w1 : World} (hb : Below u.heap.size u w1) {b o : Nat} {v : Value} (h : u.cell? ⟨b, o, none⟩ = some v) : w1.cell? ⟨b, o, none⟩ = some v :=
  (World.cell?_of_block (hb.block b (World.block_lt_of_cell? u _ h))).trans h
theorem At5.keep {w w' : World} {b o : Nat} {c : Cel} (h : At5 w b o c) (hb : Below w.heap.size w w') : At5 w' b o c := ⟨keep_cell hb h.1, keep_cell hb h.2.1, keep_cell hb h.2.2.1, keep_cell hb h.2.2.2.1, keep_cell hb h.2.2.2.2⟩
/-- a slice holds these cells, wherever it lies -/
def Cels (w : World) (v : Value) (l : List Cel) : Prop := ∃ a cap, v = .slice a l.length cap ∧ l.length ≤ cap ∧ (a = none → cap = 0) ∧ (∀ c ∈ l, FitC c) ∧ ∀ j (h : j < l.length), ∃ b o, a = some ⟨b, o, none⟩ ∧ b < w.heap.size ∧ At5 w b (o + j * 5) l[j]
theorem Cels.keep {w w' : World} {v : Value} {l : List Cel} (h : Cels w v l) (hb : Below w.heap.size w w') : Cels w' v l := by
  obtain ⟨a, cap, hv, hc, hn, hf, hat⟩ := h
  refine ⟨a, cap, hv, hc, hn, hf, fun j hj => ?_⟩
  obtain ⟨b, o, ha, hlt, h5⟩ := hat j hj
  exact ⟨b, o, ha, Nat.lt_of_lt_of_le hlt hb.size, h5.keep hb⟩

theorem Tryd.info42 : (Tryd.prog.info? 42).map (fun i => (i.zero, i.size, i.bytes)) = some (some (.int .u64 0), 1, 8) := by kernel_rfl
theorem Tryd.cells42 : Tryd.prog.cellsOf 42 = 1 := by kernel_rfl
theorem equal4 (d a b c e a' b' c' e' : Nat) (w : World) :
    (Op.equalIn (d + 2) 44 (valB ⟨a, b, c, e⟩) (valB ⟨a', b', c', e'⟩)).run Tryd.prog w = .ok (decide ((⟨a, b, c, e⟩ : W4) = ⟨a', b', c', e'⟩)) w := by
  obtain ⟨i0, hi, hz0, hz1, hz2⟩ := info_parts Tryd.info42
  have p0 : ∀ x0 x1 x2 x3 : Int, (part 42 #[.int .u64 x0, .int .u64 x1, .int .u64 x2, .int .u64 x3] 0).run Tryd.prog w = .ok (.int .u64 x0) w := fun _ _ _ _ => by simp [part, isAgg, run_underlying Tryd.underlying42]
  have p1 : ∀ x0 x1 x2 x3 : Int, (part 42 #[.int .u64 x0, .int .u64 x1, .int .u64 x2, .int .u64 x3] 1).run Tryd.prog w = .ok (.int .u64 x1) w := fun _ _ _ _ => by simp [part, isAgg, run_underlying Tryd.underlying42]
  have p2 : ∀ x0 x1 x2 x3 : Int, (part 42 #[.int .u64 x0, .int .u64 x1, .int .u64 x2, .int .u64 x3] 2).run Tryd.prog w = .ok (.int .u64 x2) w := fun _ _ _ _ => by simp [part, isAgg, run_underlying Tryd.underlying42]
  have p3 : ∀ x0 x1 x2 x3 : Int, (part 42 #[.int .u64 x0, .int .u64 x1, .int .u64 x2, .int .u64 x3] 3).run Tryd.prog w = .ok (.int .u64 x3) w := fun _ _ _ _ => by simp [part, isAgg, run_underlying Tryd.underlying42]
  rw [run_equalIn_array w (d + 1) _ _ Tryd.underlying44 hi, Tryd.cells42, show List.range 4 = [0, 1, 2, 3] from rfl]
  simp only [Op.eqItems, Sem.run_bind, Nat.mul_one, p0, run_equalIn_int w d 42 .u64 .u64 _ _ Tryd.underlying42, Result.andThen_ok]
  by_cases h0 : a = a'
  · by_cases h1 : b = b'
    · by_cases h2 : c = c'
      · by_cases h3 : e = e'
        · subst h0 h1 h2 h3; simp [p1, p2, p3, run_equalIn_int w d 42 .u64 .u64 _ _ Tryd.underlying42]
        · subst h0 h1 h2; simp [h3, p1, p2, p3, run_equalIn_int w d 42 .u64 .u64 _ _ Tryd.underlying42]; omega
      · subst h0 h1; simp [h2, p1, p2, p3, run_equalIn_int w d 42 .u64 .u64 _ _ Tryd.underlying42]; omega
    · subst h0; simp [h1, p1, p2, p3, run_equalIn_int w d 42 .u64 .u64 _ _ Tryd.underlying42]; omega
  · simp [h0, p1, p2, p3, run_equalIn_int w d 42 .u64 .u64 _ _ Tryd.underlying42]; omega

end Go.Proofs.YtjiljfmejgiabaaDoor
namespace Go.Proofs.YtjiljfmejgiabaaDoor
open Go.ChangeShapes Go.WideShapes Go.ChangeAt Go.RowKit

theorem gTab : Tryd.prog.globalNamed "math/bits.deBruijn64tab" = some 0 := by kernel_rfl
theorem gTabType : (Tryd.prog.globals[0]?).map (·.type) = some 77 := by kernel_rfl
theorem cellsTab : Tryd.prog.cellsOf 77 = 64 := by kernel_rfl
theorem cellsU8 : Tryd.prog.cellsOf 5 = 1 := by kernel_rfl
/-- the table lies as its initialiser lays it -/
def Tab (w : World) : Prop := TabAt 0 Lib.deBruijn64tab w
theorem Tab.keep {u u' : World} (h : Tab u) (hb : Below u.heap.size u u') : Tab u' := fun j hj => keep_cell hb (h j hj)
theorem laid_tab : (Rows.laid_math_bits_deBruijn64tab : DataW Unit) = Lib.tabData .u8 (Lib.deBruijn64tab.map fun (n : Nat) => (n : Int)) := by rfl
theorem table {W : World} (h : laidMetH Tryd.prog [("math/bits.deBruijn64tab", Rows.laid_math_bits_deBruijn64tab)] W) : Tab W := by
  rw [MakeChecks.laidMetH_plain _ _ _ (by kernel_rfl)] at h
  rw [laid_tab] at h
  have hT := Lib.tabIs_of_head (rest := []) gTab gTabType Tryd.underlying77 Tryd.underlying5 cellsU8 cellsTab h
  intro j hj
  rw [hT.cell gTab j (by simpa using hj)]
  simp [List.getD, List.getElem?_map, List.getElem?_eq_getElem hj]
def tab0 : Array Value := #[.int .u8 0, .int .u8 1, .int .u8 56, .int .u8 2, .int .u8 57, .int .u8 49, .int .u8 28, .int .u8 3, .int .u8 61, .int .u8 58, .int .u8 42, .int .u8 50, .int .u8 38, .int .u8 29, .int .u8 17, .int .u8 4, .int .u8 62, .int .u8 47, .int .u8 59, .int .u8 36, .int .u8 45, .int .u8 43, .int .u8 51, .int .u8 22, .int .u8 53, .int .u8 39, .int .u8 33, .int .u8 30, .int .u8 24, .int .u8 18, .int .u8 12, .int .u8 5, .int .u8 63, .int .u8 55, .int .u8 48, .int .u8 27, .int .u8 60, .int .u8 41, .int .u8 37, .int .u8 16, .int .u8 46, .int .u8 35, .int .u8 44, .int .u8 21, .int .u8 52, .int .u8 32, .int .u8 23, .int .u8 11, .int .u8 54, .int .u8 26, .int .u8 40, .int .u8 15, .int .u8 34, .int .u8 20, .int .u8 31, .int .u8 10, .int .u8 25, .int .u8 14, .int .u8 19, .int .u8 9, .int .u8 13, .int .u8 8, .int .u8 7, .int .u8 6]
def putTab (cs : Array Value) : Obj → Obj
  | .cells _ t frozen => .cells cs t frozen
  | o => o
/-- a world for the witness: the settled one, the table holding what its initialiser lays -/
noncomputable def laidWorld (os : Os) : World :=
  { World.holding Tryd.prog os ⟨#[], #[], []⟩ with heap := (World.holding Tryd.prog os ⟨#[], #[], []⟩).heap.modify 0 (putTab tab0) }

end Go.Proofs.YtjiljfmejgiabaaDoor
