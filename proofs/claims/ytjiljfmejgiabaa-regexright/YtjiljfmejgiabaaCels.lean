/- Rules in memory: slices of cells. -/
import Derived.Test.YtjiljfmejgiabaaBase
import Derived.Test.YtjiljfmejgiabaaRxMath
import Derived.Laws.StructEq
import Derived.ChangeKeysEq
namespace Go.Proofs.Ytjiljfmejgiabaa
open Go.RowKit

structure FitC (c : Cel) : Prop where
  lo : -9223372036854775808 ≤ c.op
  hi : c.op ≤ 9223372036854775807
  s : Fit4 c.s
/-- a cell lies at a place -/
def At5 (w : World) (b o : Nat) (c : Cel) : Prop := w.cell? ⟨b, o, none⟩ = some (.int .i64 c.op) ∧ w.cell? ⟨b, o + 1, none⟩ = some (.int .u64 (c.s.a : Int)) ∧ w.cell? ⟨b, o + 2, none⟩ = some (.int .u64 (c.s.b : Int)) ∧ w.cell? ⟨b, o + 3, none⟩ = some (.int .u64 (c.s.c : Int)) ∧ w.cell? ⟨b, o + 4, none⟩ = some (.int .u64 (c.s.d : Int))
theorem keep_cell {u w1 : World} (hb : Below u.heap.size u w1) {b o : Nat} {v : Value} (h : u.cell? ⟨b, o, none⟩ = some v) : w1.cell? ⟨b, o, none⟩ = some v :=
  (World.cell?_of_block (hb.block b (World.block_lt_of_cell? u _ h))).trans h
theorem At5.keep {w w' : World} {b o : Nat} {c : Cel} (h : At5 w b o c) (hb : Below w.heap.size w w') : At5 w' b o c := ⟨keep_cell hb h.1, keep_cell hb h.2.1, keep_cell hb h.2.2.1, keep_cell hb h.2.2.2.1, keep_cell hb h.2.2.2.2⟩
/-- a slice holds these cells, wherever it lies -/
def Cels (w : World) (v : Value) (l : List Cel) : Prop := ∃ a cap, v = .slice a l.length cap ∧ l.length ≤ cap ∧ (a = none → cap = 0) ∧ (∀ c ∈ l, FitC c) ∧ ∀ j (h : j < l.length), ∃ b o, a = some ⟨b, o, none⟩ ∧ b < w.heap.size ∧ At5 w b (o + j * 5) l[j]
theorem Cels.keep {w w' : World} {v : Value} {l : List Cel} (h : Cels w v l) (hb : Below w.heap.size w w') : Cels w' v l := by
  obtain ⟨a, cap, hv, hc, hn, hf, hat⟩ := h
  refine ⟨a, cap, hv, hc, hn, hf, fun j hj => ?_⟩
  obtain ⟨b, o, ha, hlt, h5⟩ := hat j hj
  exact ⟨b, o, ha, Nat.lt_of_lt_of_le hlt hb.size, h5.keep hb⟩

theorem Try.info29 : (Try.prog.info? 29).map (fun i => (i.zero, i.size, i.bytes)) = some (some (.int .u64 0), 1, 8) := by kernel_rfl
theorem Try.cells29 : Try.prog.cellsOf 29 = 1 := by kernel_rfl
theorem equal4 (d a b c e a' b' c' e' : Nat) (w : World) :
    (Op.equalIn (d + 2) 31 (valB ⟨a, b, c, e⟩) (valB ⟨a', b', c', e'⟩)).run Try.prog w = .ok (decide ((⟨a, b, c, e⟩ : W4) = ⟨a', b', c', e'⟩)) w := by
  obtain ⟨i0, hi, hz0, hz1, hz2⟩ := info_parts Try.info29
  have p0 : ∀ x0 x1 x2 x3 : Int, (part 29 #[.int .u64 x0, .int .u64 x1, .int .u64 x2, .int .u64 x3] 0).run Try.prog w = .ok (.int .u64 x0) w := fun _ _ _ _ => by simp [part, isAgg, run_underlying Try.underlying29]
  have p1 : ∀ x0 x1 x2 x3 : Int, (part 29 #[.int .u64 x0, .int .u64 x1, .int .u64 x2, .int .u64 x3] 1).run Try.prog w = .ok (.int .u64 x1) w := fun _ _ _ _ => by simp [part, isAgg, run_underlying Try.underlying29]
  have p2 : ∀ x0 x1 x2 x3 : Int, (part 29 #[.int .u64 x0, .int .u64 x1, .int .u64 x2, .int .u64 x3] 2).run Try.prog w = .ok (.int .u64 x2) w := fun _ _ _ _ => by simp [part, isAgg, run_underlying Try.underlying29]
  have p3 : ∀ x0 x1 x2 x3 : Int, (part 29 #[.int .u64 x0, .int .u64 x1, .int .u64 x2, .int .u64 x3] 3).run Try.prog w = .ok (.int .u64 x3) w := fun _ _ _ _ => by simp [part, isAgg, run_underlying Try.underlying29]
  rw [run_equalIn_array w (d + 1) _ _ Try.underlying31 hi, Try.cells29, show List.range 4 = [0, 1, 2, 3] from rfl]
  simp only [Op.eqItems, Sem.run_bind, Nat.mul_one, p0, run_equalIn_int w d 29 .u64 .u64 _ _ Try.underlying29, Result.andThen_ok]
  by_cases h0 : a = a'
  · by_cases h1 : b = b'
    · by_cases h2 : c = c'
      · by_cases h3 : e = e'
        · subst h0 h1 h2 h3; simp [p1, p2, p3, run_equalIn_int w d 29 .u64 .u64 _ _ Try.underlying29]
        · subst h0 h1 h2; simp [h3, p1, p2, p3, run_equalIn_int w d 29 .u64 .u64 _ _ Try.underlying29]; omega
      · subst h0 h1; simp [h2, p1, p2, p3, run_equalIn_int w d 29 .u64 .u64 _ _ Try.underlying29]; omega
    · subst h0; simp [h1, p1, p2, p3, run_equalIn_int w d 29 .u64 .u64 _ _ Try.underlying29]; omega
  · simp [h0, p1, p2, p3, run_equalIn_int w d 29 .u64 .u64 _ _ Try.underlying29]; omega

end Go.Proofs.Ytjiljfmejgiabaa
