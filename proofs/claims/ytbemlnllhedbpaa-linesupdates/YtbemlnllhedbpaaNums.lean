/- Where lines begin, as a list of numbers; rows of numbers. -/
import Derived.Test.YtbemlnllhedbpaaClose
import Derived.WalkKit
import Derived.WalkSpells
import Derived.Lib.SmallJoins
import Derived.BigQuiet
import Derived.Deep.QuietTactic
import Derived.Deep.RegionHeld3
namespace Go.Proofs.Ytbemlnllhedbpaa
open Go.RowKit

theorem Try.info3 : (Try.prog.info? 3).map (fun i => (i.zero, i.size, i.bytes)) = some (some (.int .i64 0), 1, 8) := by kernel_rfl


/-- is there a byte 10 at a place? -/
def nl (s : ByteArray) (k : Nat) : Bool := if h : k < s.size then decide (s[k] = 10) else false
theorem nl_at {s : ByteArray} {k : Nat} (h : k < s.size) : nl s k = decide (s[k] = 10) := by unfold nl; rw [dif_pos h]
theorem nl_out {s : ByteArray} {k : Nat} (h : ¬ k < s.size) : nl s k = false := by unfold nl; rw [dif_neg h]
theorem byte10 (b : UInt8) : b = 10 ↔ (b.toNat : Int) = 10 := by
  constructor
  · rintro rfl; rfl
  · intro h
    apply UInt8.toNat_inj.1
    have : b.toNat = 10 := by omega
    rw [this]; rfl
theorem nl_true {s : ByteArray} {k : Nat} (h : k < s.size) (hn : nl s k = true) : (s[k].toNat : Int) = 10 := by
  rw [nl_at h] at hn; exact (byte10 _).1 (of_decide_eq_true hn)
theorem nl_false {s : ByteArray} {k : Nat} (h : k < s.size) (hn : nl s k = false) : ¬ (s[k].toNat : Int) = 10 := by
  rw [nl_at h] at hn; exact fun e => of_decide_eq_false hn ((byte10 _).2 e)

/-- where lines begin, up to a place -/
def stN (s : ByteArray) : Nat → List Int
  | 0 => [0]
  | k + 1 => stN s k ++ (if nl s k then [(k : Int) + 1] else [])
def numCells (l : List Int) : List Value := l.map fun n => .int .i64 n
theorem stN_len (s : ByteArray) (k : Nat) : 0 < (stN s k).length ∧ (stN s k).length ≤ k + 1 := by
  induction k with
  | zero => exact ⟨Nat.one_pos, Nat.le_refl _⟩
  | succ k ih =>
    unfold stN
    rw [List.length_append]
    refine ⟨by omega, ?_⟩
    cases nl s k <;> simp <;> omega
theorem stN_le (s : ByteArray) (k : Nat) : ∀ x ∈ stN s k, 0 ≤ x ∧ x ≤ k := by
  induction k with
  | zero => intro x hx; simp [stN] at hx; subst hx; simp
  | succ k ih =>
    intro x hx
    unfold stN at hx
    rcases List.mem_append.1 hx with h | h
    · have := ih x h; omega
    · cases hn : nl s k <;> rw [hn] at h <;> simp at h; omega
theorem stN_yes {s : ByteArray} {k : Nat} (h : nl s k = true) : stN s (k + 1) = stN s k ++ [(k : Int) + 1] := by rw [stN, if_pos h]
theorem stN_no {s : ByteArray} {k : Nat} (h : nl s k = false) : stN s (k + 1) = stN s k := by rw [stN, if_neg (by rw [h]; exact Bool.false_ne_true), List.append_nil]
theorem numCells_snoc (l : List Int) (n : Int) : numCells (l ++ [n]) = numCells l ++ [.int .i64 n] := by unfold numCells; rw [List.map_append]; rfl
theorem numCells_len (l : List Int) : (numCells l).length = l.length := by unfold numCells; rw [List.length_map]
theorem numCells_at {l : List Int} {j : Nat} (h : j < l.length) : (numCells l)[j]? = some (.int .i64 (l[j]'h)) := by unfold numCells; rw [List.getElem?_map, List.getElem?_eq_getElem h]; rfl

/-- one number more: what is below stays -/
theorem below_app {B : Nat} {w0 wr w2 : World} {v : Value} {n : Nat} {xs : List Value} {o : Obj} (hown : wr.ownsRow B 3 1 v n xs) (hbl : Below B w0 wr) (hB : B ≤ w0.heap.size) (hg : (wr.alloc o).grownBy w2 v.ownBlock) : Below B w0 w2 :=
  (hbl.alloc (Nat.le_trans hB hbl.size) _).grown hg (by have := hbl.size; simp; omega) (fun k hk => (hown.lt k hk).1)

/-- a slice that holds numbers -/
def Nums (w : World) (v : Value) (l : List Int) : Prop := ∃ a cap, v = .slice a l.length cap ∧ ∀ j (h : j < l.length), ∃ b o, a = some ⟨b, o, none⟩ ∧ b < w.heap.size ∧ w.cell? ⟨b, o + j, none⟩ = some (.int .i64 l[j])

theorem Nums.of_row {w : World} {base : Nat} {v : Value} {l : List Int} (h : w.ownsRow base 3 1 v l.length (numCells l)) : Nums w v l := by
  rcases Joins.ownsRow_forms h with ⟨rfl, h0⟩ | ⟨g, cap, rfl⟩
  · exact ⟨none, 0, by rw [h0], fun j hj => absurd hj (by omega)⟩
  · refine ⟨_, cap, rfl, fun j hj => ⟨g, 0, rfl, (h.lt g rfl).2, ?_⟩⟩
    have := h.cells rfl j _ (numCells_at hj)
    by_cases h0 : j = 0
    · subst h0; simpa [Addr.add] using this
    · simpa [Addr.add, h0] using this
theorem Nums.keep {w w' : World} {v : Value} {l : List Int} (h : Nums w v l) (hb : Below w.heap.size w w') : Nums w' v l := by
  obtain ⟨a, cap, rfl, h⟩ := h
  refine ⟨a, cap, rfl, fun j hj => ?_⟩
  obtain ⟨b, o, ha, hlt, hc⟩ := h j hj
  exact ⟨b, o, ha, Nat.lt_of_lt_of_le hlt hb.size, (hb.cell hlt).trans hc⟩

end Go.Proofs.Ytbemlnllhedbpaa
