/- Rules in memory: slices of cells. The table that bits.TrailingZeros64 reads. A byte as it is told in a rule's text, and as it is read. The fewest sets that share nothing, hold all bytes, and of which each is wholly in, or wholly out of, each of a list. -/
import Derived.Test.YtcledgljbmepaaaGreatDoorJ1
import Derived.Test.YtcledgljbmepaaaGreatDoorCards
import Derived.Test.YtcledgljbmepaaaGreatDoorTie
import Derived.Laws.StructEq
import Derived.ChangeKeysEq
import Derived.Deep.DeepHandedRow
import Derived.Lib.LaidTab
import Derived.Shelf.Spec.TrailingZeros
import Derived.MakeChecks
namespace Go.Proofs.YtcledgljbmepaaaGreatDoor
open Go.RowKit

structure FitC (c : Cel) : Prop where
  lo : -9223372036854775808 ≤ c.op
  hi : c.op ≤ 9223372036854775807
  s : Fit4 c.s
/-- a cell lies at a place -/
def At5 (w : World) (b o : Nat) (c : Cel) : Prop := w.cell? ⟨b, o, none⟩ = some (.int .i64 c.op) ∧ w.cell? ⟨b, o + 1, none⟩ = some (.int .u64 (c.s.a : Int)) ∧ w.cell? ⟨b, o + 2, none⟩ = some (.int .u64 (c.s.b : Int)) ∧ w.cell? ⟨b, o + 3, none⟩ = some (.int .u64 (c.s.c : Int)) ∧ w.cell? ⟨b, o + 4, none⟩ = some (.int .u64 (c.s.d : Int))
theorem keep_cell {u w1 : World} (hb : Below u.heap.size u w1) {b o : Nat} {v : Value} (h : u.cell? ⟨b, o, none⟩ = some v) : w1.cell? ⟨b, o, none⟩ = some v :=
  (World.cell?_of_block (hb.block b (World.block_lt_of_cell? u _ h))).trans h
theorem At5.keep {w w' : World} {b o : Nat} {c : Cel} (h : At5 w b o c) (hb : Below w.heap.size w w') : At5 w' b o c := ⟨keep_cell hb h.1, keep_cell hb h.2.1, keep_cell hb h.2.2.1, keep_cell hb h.2.2.2.1, keep_cell hb h.2.2.2.2⟩
/-- a slice holds these cells, wherever it lies -/
def Cels (w : World) (v : Value) (l : List Cel) : Prop := ∃ a cap, v = .slice a l.length cap ∧ l.length ≤ cap ∧ (a = none → cap = 0) ∧ (∀ c ∈ l, FitC c) ∧ ∀ j (h : j < l.length), ∃ b o, a = some ⟨b, o, none⟩ ∧ b < w.heap.size ∧ At5 w b (o + j * 5) l[j]
theorem Cels.keep {w w' : World} {v : Value} {l : List Cel} (h : Cels w v l) (hb : Below w.heap.size w w') : Cels w' v l := by
  obtain ⟨a, cap, hv, hc, hn, hf, hat⟩ := h
  refine ⟨a, cap, hv, hc, hn, hf, fun j hj => ?_⟩
  obtain ⟨b, o, ha, hlt, h5⟩ := hat j hj
  exact ⟨b, o, ha, Nat.lt_of_lt_of_le hlt hb.size, h5.keep hb⟩

set_option maxRecDepth 20000 in
theorem Tryz.info108 : (Tryz.prog.info? 108).map (fun i => (i.zero, i.size, i.bytes)) = some (some (.int .u64 0), 1, 8) := by kernel_rfl
set_option maxRecDepth 20000 in
theorem Tryz.cells108 : Tryz.prog.cellsOf 108 = 1 := by kernel_rfl
set_option maxRecDepth 20000 in
theorem equal4 (d a b c e a' b' c' e' : Nat) (w : World) :
    (Op.equalIn (d + 2) 110 (valB ⟨a, b, c, e⟩) (valB ⟨a', b', c', e'⟩)).run Tryz.prog w = .ok (decide ((⟨a, b, c, e⟩ : W4) = ⟨a', b', c', e'⟩)) w := by
  obtain ⟨i0, hi, hz0, hz1, hz2⟩ := info_parts Tryz.info108
  have p0 : ∀ x0 x1 x2 x3 : Int, (part 108 #[.int .u64 x0, .int .u64 x1, .int .u64 x2, .int .u64 x3] 0).run Tryz.prog w = .ok (.int .u64 x0) w := fun _ _ _ _ => by simp [part, isAgg, run_underlying Tryz.underlying108]
  have p1 : ∀ x0 x1 x2 x3 : Int, (part 108 #[.int .u64 x0, .int .u64 x1, .int .u64 x2, .int .u64 x3] 1).run Tryz.prog w = .ok (.int .u64 x1) w := fun _ _ _ _ => by simp [part, isAgg, run_underlying Tryz.underlying108]
  have p2 : ∀ x0 x1 x2 x3 : Int, (part 108 #[.int .u64 x0, .int .u64 x1, .int .u64 x2, .int .u64 x3] 2).run Tryz.prog w = .ok (.int .u64 x2) w := fun _ _ _ _ => by simp [part, isAgg, run_underlying Tryz.underlying108]
  have p3 : ∀ x0 x1 x2 x3 : Int, (part 108 #[.int .u64 x0, .int .u64 x1, .int .u64 x2, .int .u64 x3] 3).run Tryz.prog w = .ok (.int .u64 x3) w := fun _ _ _ _ => by simp [part, isAgg, run_underlying Tryz.underlying108]
  rw [run_equalIn_array w (d + 1) _ _ Tryz.underlying110 hi, Tryz.cells108, show List.range 4 = [0, 1, 2, 3] from rfl]
  simp only [Op.eqItems, Sem.run_bind, Nat.mul_one, p0, run_equalIn_int w d 108 .u64 .u64 _ _ Tryz.underlying108, Result.andThen_ok]
  by_cases h0 : a = a'
  · by_cases h1 : b = b'
    · by_cases h2 : c = c'
      · by_cases h3 : e = e'
        · subst h0 h1 h2 h3; simp [p1, p2, p3, run_equalIn_int w d 108 .u64 .u64 _ _ Tryz.underlying108]
        · subst h0 h1 h2; simp [h3, p1, p2, p3, run_equalIn_int w d 108 .u64 .u64 _ _ Tryz.underlying108]; omega
      · subst h0 h1; simp [h2, p1, p2, p3, run_equalIn_int w d 108 .u64 .u64 _ _ Tryz.underlying108]; omega
    · subst h0; simp [h1, p1, p2, p3, run_equalIn_int w d 108 .u64 .u64 _ _ Tryz.underlying108]; omega
  · simp [h0, p1, p2, p3, run_equalIn_int w d 108 .u64 .u64 _ _ Tryz.underlying108]; omega

end Go.Proofs.YtcledgljbmepaaaGreatDoor
namespace Go.Proofs.YtcledgljbmepaaaGreatDoor
open Go.ChangeShapes Go.WideShapes Go.ChangeAt Go.RowKit

set_option maxRecDepth 20000 in
theorem gTab : Tryz.prog.globalNamed "math/bits.deBruijn64tab" = some 1 := by kernel_rfl
set_option maxRecDepth 20000 in
theorem gTabType : (Tryz.prog.globals[1]?).map (·.type) = some 185 := by kernel_rfl
set_option maxRecDepth 20000 in
theorem cellsTab : Tryz.prog.cellsOf 185 = 64 := by kernel_rfl
set_option maxRecDepth 20000 in
theorem cellsU8 : Tryz.prog.cellsOf 5 = 1 := by kernel_rfl
/-- the table lies as its initialiser lays it -/
def Tab (w : World) : Prop := TabAt 1 Lib.deBruijn64tab w
theorem Tab.keep {u u' : World} (h : Tab u) (hb : Below u.heap.size u u') : Tab u' := fun j hj => keep_cell hb (h j hj)
theorem laid_tab : (Rows.laid_math_bits_deBruijn64tab : DataW Unit) = Lib.tabData .u8 (Lib.deBruijn64tab.map fun (n : Nat) => (n : Int)) := by rfl
set_option maxRecDepth 20000 in
theorem table {W : World} (h : laidMetH Tryz.prog [("math/bits.deBruijn64tab", Rows.laid_math_bits_deBruijn64tab)] W) : Tab W := by
  rw [MakeChecks.laidMetH_plain _ _ _ (by kernel_rfl)] at h
  rw [laid_tab] at h
  have hT := Lib.tabIs_of_head (rest := []) gTab gTabType Tryz.underlying185 Tryz.underlying5 cellsU8 cellsTab h
  intro j hj
  rw [hT.cell gTab j (by simpa using hj)]
  simp [List.getD, List.getElem?_map, List.getElem?_eq_getElem hj]
def tab0 : Array Value := #[.int .u8 0, .int .u8 1, .int .u8 56, .int .u8 2, .int .u8 57, .int .u8 49, .int .u8 28, .int .u8 3, .int .u8 61, .int .u8 58, .int .u8 42, .int .u8 50, .int .u8 38, .int .u8 29, .int .u8 17, .int .u8 4, .int .u8 62, .int .u8 47, .int .u8 59, .int .u8 36, .int .u8 45, .int .u8 43, .int .u8 51, .int .u8 22, .int .u8 53, .int .u8 39, .int .u8 33, .int .u8 30, .int .u8 24, .int .u8 18, .int .u8 12, .int .u8 5, .int .u8 63, .int .u8 55, .int .u8 48, .int .u8 27, .int .u8 60, .int .u8 41, .int .u8 37, .int .u8 16, .int .u8 46, .int .u8 35, .int .u8 44, .int .u8 21, .int .u8 52, .int .u8 32, .int .u8 23, .int .u8 11, .int .u8 54, .int .u8 26, .int .u8 40, .int .u8 15, .int .u8 34, .int .u8 20, .int .u8 31, .int .u8 10, .int .u8 25, .int .u8 14, .int .u8 19, .int .u8 9, .int .u8 13, .int .u8 8, .int .u8 7, .int .u8 6]
def putTab (cs : Array Value) : Obj → Obj
  | .cells _ t frozen => .cells cs t frozen
  | o => o
/-- a world for the witness: the settled one, the table holding what its initialiser lays -/
noncomputable def laidWorld (os : Os) : World :=
  { World.holding Tryz.prog os ⟨#[], #[], []⟩ with heap := (World.holding Tryz.prog os ⟨#[], #[], []⟩).heap.modify 1 (putTab tab0) }

end Go.Proofs.YtcledgljbmepaaaGreatDoor
namespace Go.Proofs.YtcledgljbmepaaaGreatDoor

abbrev Txt := List UInt8
/-- left out of plain atoms (by itself, but \), of classes; told by \ -/
def leftA (c : UInt8) : Bool := [46, 42, 43, 63, 40, 41, 91, 93, 124, 47].contains c
def leftC (c : UInt8) : Bool := [91, 93, 94, 45, 47].contains c
def escD (c : UInt8) : Bool := [46, 42, 43, 63, 40, 41, 91, 93, 124, 92, 47, 45, 94].contains c
def hexF (c : UInt8) : Option Nat :=
  if 48 ≤ c ∧ c ≤ 57 then some (c.toNat - 48) else if 97 ≤ c ∧ c ≤ 102 then some (c.toNat - 87) else if 65 ≤ c ∧ c ≤ 70 then some (c.toNat - 55) else none
/-- behind a \ -/
def escF : Txt → Option (Nat × Txt)
  | [] => none
  | d :: r =>
    if d = 110 then some (10, r) else if d = 116 then some (9, r) else if d = 114 then some (13, r)
    else if d = 120 then
      match r with
      | x :: y :: q => match hexF x, hexF y with
        | some a, some b => some (16 * a + b, q)
        | _, _ => none
      | _ => none
    else if escD d then some (d.toNat, r) else none
def signF (left : UInt8 → Bool) : Txt → Option (Nat × Txt)
  | [] => none
  | c :: r => if c < 32 ∨ 126 < c then none else if c = 92 then escF r else if left c then none else some (c.toNat, r)
theorem escF_ext {s : Txt} {b : Nat} {q : Txt} (r : Txt) (h : escF s = some (b, q)) : escF (s ++ r) = some (b, q ++ r) := by
  cases s with
  | nil => cases h
  | cons d s =>
    simp only [List.cons_append, escF] at h ⊢
    split
    · rename_i h1; rw [if_pos h1] at h; injection h with h; injection h with h2 h3; subst h2 h3; rfl
    rename_i h1; rw [if_neg h1] at h
    split
    · rename_i h1; rw [if_pos h1] at h; injection h with h; injection h with h2 h3; subst h2 h3; rfl
    rename_i h1; rw [if_neg h1] at h
    split
    · rename_i h1; rw [if_pos h1] at h; injection h with h; injection h with h2 h3; subst h2 h3; rfl
    rename_i h1; rw [if_neg h1] at h
    split
    · rename_i h1; rw [if_pos h1] at h
      match s, h with
      | x :: y :: z, h =>
        simp only [List.cons_append] at h ⊢
        split at h
        · rename_i a b' ha hb
          injection h with h; injection h with h2 h3; subst h2 h3
          first | rfl | rw [ha, hb]
        · cases h
    rename_i h1; rw [if_neg h1] at h
    split
    · rename_i h1; rw [if_pos h1] at h; injection h with h; injection h with h2 h3; subst h2 h3; rfl
    · rename_i h1; rw [if_neg h1] at h; cases h
theorem signF_ext {left : UInt8 → Bool} {s : Txt} {b : Nat} {q : Txt} (r : Txt) (h : signF left s = some (b, q)) : signF left (s ++ r) = some (b, q ++ r) := by
  cases s with
  | nil => cases h
  | cons c s =>
    simp only [List.cons_append, signF] at h ⊢
    split
    · rename_i h1; rw [if_pos h1] at h; cases h
    rename_i h1; rw [if_neg h1] at h
    split
    · rename_i h1; rw [if_pos h1] at h; exact escF_ext r h
    rename_i h1; rw [if_neg h1] at h
    split
    · rename_i h1; rw [if_pos h1] at h; cases h
    · rename_i h1; rw [if_neg h1] at h; injection h with h; injection h with h2 h3; subst h2 h3; rfl
/-- what is read is shorter -/
theorem escF_lt {s : Txt} {b : Nat} {q : Txt} (h : escF s = some (b, q)) : q.length < s.length := by
  cases s with
  | nil => cases h
  | cons d s =>
    simp only [escF] at h
    split at h
    · injection h with h; injection h with h2 h3; subst h3; simp
    split at h
    · injection h with h; injection h with h2 h3; subst h3; simp
    split at h
    · injection h with h; injection h with h2 h3; subst h3; simp
    split at h
    · match s, h with
      | x :: y :: z, h =>
        simp only at h
        split at h
        · injection h with h; injection h with h2 h3; subst h3; simp; omega
        · cases h
    split at h
    · injection h with h; injection h with h2 h3; subst h3; simp
    · cases h
theorem signF_lt {left : UInt8 → Bool} {s : Txt} {b : Nat} {q : Txt} (h : signF left s = some (b, q)) : q.length < s.length := by
  cases s with
  | nil => cases h
  | cons c s =>
    simp only [signF] at h
    split at h
    · cases h
    split at h
    · have := escF_lt h; simp; omega
    split at h
    · cases h
    · injection h with h; injection h with h2 h3; subst h3; simp
def digL (n : Nat) : UInt8 := if n < 10 then UInt8.ofNat (48 + n) else UInt8.ofNat (87 + n)
/-- a byte as it is told: 'left' tells which must be told by \ -/
def aloneL (b : Nat) (left : UInt8 → Bool) : Txt :=
  if b = 10 then [92, 110] else if b = 9 then [92, 116] else if b = 13 then [92, 114]
  else if b < 32 ∨ 126 < b then [92, 120, digL (b / 16), digL (b % 16)]
  else if left (UInt8.ofNat b) then [92, UInt8.ofNat b] else [UInt8.ofNat b]
def tellA (c : UInt8) : Bool := leftA c || c == 92
def tellC (c : UInt8) : Bool := leftC c || c == 92
theorem aloneA_all : ∀ b : Fin 256, signF leftA (aloneL b tellA) = some (b.val, []) := by decide +kernel
theorem aloneC_all : ∀ b : Fin 256, signF leftC (aloneL b tellC) = some (b.val, []) := by decide +kernel
theorem aloneA (b : Nat) (h : b < 256) (r : Txt) : signF leftA (aloneL b tellA ++ r) = some (b, r) := by
  have := signF_ext r (aloneA_all ⟨b, h⟩)
  simpa using this
theorem aloneC (b : Nat) (h : b < 256) (r : Txt) : signF leftC (aloneL b tellC ++ r) = some (b, r) := by
  have := signF_ext r (aloneC_all ⟨b, h⟩)
  simpa using this
/-- how such a text begins: by none of the signs that mean something else there -/
theorem headA_all : ∀ b : Fin 256, (match aloneL b tellA with | c :: _ => !(leftA c) | [] => false) = true := by decide +kernel
theorem headC_all : ∀ b : Fin 256, (match aloneL b tellC with | c :: _ => !(leftC c) | [] => false) = true := by decide +kernel
theorem headA (b : Nat) (h : b < 256) : ∃ c r, aloneL b tellA = c :: r ∧ leftA c = false := by
  have := headA_all ⟨b, h⟩
  simp only at this
  split at this
  · rename_i c r e; exact ⟨c, r, e, by simpa using this⟩
  · cases this
theorem headC (b : Nat) (h : b < 256) : ∃ c r, aloneL b tellC = c :: r ∧ leftC c = false := by
  have := headC_all ⟨b, h⟩
  simp only at this
  split at this
  · rename_i c r e; exact ⟨c, r, e, by simpa using this⟩
  · cases this

end Go.Proofs.YtcledgljbmepaaaGreatDoor
namespace Go.Proofs.YtcledgljbmepaaaGreatDoor

/-- are two bytes in the same sets of a list? -/
def al (l : List W4) (a b : Nat) : Bool := l.all fun S => hasB S a == hasB S b
/-- the least byte of each part, up to a byte -/
def repN (l : List W4) : Nat → List Nat
  | 0 => []
  | k + 1 => repN l k ++ (if (repN l k).any (fun r => al l r k) then [] else [k])
theorem count_pos {S : W4} {x : Nat} (hx : hasB S x = true) : ∀ k, x < k → 0 < countN S k
  | 0, h => absurd h (by omega)
  | k + 1, h => by
    rw [countN_succ]
    by_cases e : x = k
    · subst e; rw [hx]; simp
    · have := count_pos hx k (by omega); omega
attribute [irreducible] repN

end Go.Proofs.YtcledgljbmepaaaGreatDoor
