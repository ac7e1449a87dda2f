/- Slices of things whose cells are told by a list, and back. A row of three of which the middle one is copied, beside a box: what a loop holds. topiarylaw12.copied: a grammar of its own. The reader in memory: its block, its rows, each in a block of its own; what never changes. -/
import Derived.Test.YtcledgljbmepaaaGreatJ15
import Derived.Deep.Strs
namespace Go.Proofs.YtcledgljbmepaaaGreat
open Go.RowKit Go.Maps Go.Sort

theorem flat_len {α : Type} {sz : Nat} (cs : α → List Value) (hc : ∀ x, (cs x).length = sz) : ∀ l : List α, (l.flatMap cs).length = l.length * sz
  | [] => by simp
  | a :: l => by rw [List.flatMap_cons, List.length_append, hc, flat_len cs hc l, List.length_cons, Nat.succ_mul]; omega
theorem flat_at {α : Type} {sz : Nat} (cs : α → List Value) (hc : ∀ x, (cs x).length = sz) : ∀ (l : List α) (j i : Nat) (h : j < l.length), i < sz → (l.flatMap cs)[j * sz + i]? = (cs l[j])[i]?
  | [], j, i, h, _ => absurd h (Nat.not_lt_zero _)
  | a :: l, 0, i, h, hi => by
    rw [List.flatMap_cons, Nat.zero_mul, Nat.zero_add, List.getElem?_append_left (by rw [hc]; exact hi)]
    rfl
  | a :: l, j + 1, i, h, hi => by
    have h1 : j < l.length := by simpa using h
    have e : (j + 1) * sz + i = (cs a).length + (j * sz + i) := by rw [hc, Nat.succ_mul]; omega
    rw [List.flatMap_cons, e, List.getElem?_append_right (Nat.le_add_right _ _), Nat.add_sub_cancel_left, flat_at cs hc l j i h1 hi]
    rfl
theorem rw_of {α : Type} {sz : Nat} {cs : α → List Value} (hc : ∀ x, (cs x).length = sz) (hz : 0 < sz) (h1 : ∀ x, ∀ u ∈ cs x, u.oneCell' = true) {w : World} {a : Option Addr} {cap : Nat} {l : List α} (hn : a = none → cap = 0)
    (hat : ∀ j (h : j < l.length), ∃ b o, a = some ⟨b, o, none⟩ ∧ b < w.heap.size ∧ ∀ i, i < sz → w.cell? ⟨b, o + j * sz + i, none⟩ = (cs l[j])[i]?) : Rw sz w (.slice a l.length cap) l.length (l.flatMap cs) := by
  refine ⟨a, cap, rfl, hn, flat_len cs hc l, fun u hu => ?_, fun t u hu => ?_⟩
  · obtain ⟨x, _, hx⟩ := List.mem_flatMap.1 hu
    exact h1 x u hx
  · have ht : t < l.length * sz := by
      rw [← flat_len cs hc l]
      rcases Nat.lt_or_ge t (l.flatMap cs).length with h | h
      · exact h
      · rw [List.getElem?_eq_none h] at hu; cases hu
    have hj : t / sz < l.length := (Nat.div_lt_iff_lt_mul hz).2 ht
    have hi : t % sz < sz := Nat.mod_lt _ hz
    have e : t = t / sz * sz + t % sz := by rw [Nat.mul_comm]; exact (Nat.div_add_mod t sz).symm
    obtain ⟨b, o, e1, h2, h3⟩ := hat (t / sz) hj
    refine ⟨b, o, e1, h2, ?_⟩
    have h4 := flat_at cs hc l (t / sz) (t % sz) hj hi
    rw [← e, hu] at h4
    have h5 := h3 _ hi
    rw [← h4, Nat.add_assoc, ← e] at h5
    exact h5
theorem own_at {α : Type} {sz : Nat} {cs : α → List Value} (hc : ∀ x, (cs x).length = sz) {w : World} {B : Nat} {e : TypeId} {v : Value} {l : List α} (_hz : 0 < sz) (h : w.ownsRow B e sz v l.length (l.flatMap cs)) :
    ∃ a cap, v = .slice a l.length cap ∧ l.length ≤ cap ∧ (a = none → cap = 0) ∧ ∀ j (h : j < l.length), ∃ b o, a = some ⟨b, o, none⟩ ∧ b < w.heap.size ∧ ∀ i, i < sz → w.cell? ⟨b, o + j * sz + i, none⟩ = (cs l[j])[i]? := by
  have h' := h
  rcases h.2 with ⟨rfl, h0⟩ | ⟨g, cap, cur, rfl, _, _, hc', _⟩
  · exact ⟨none, 0, by rw [h0], by omega, fun _ => rfl, fun j hj => by omega⟩
  · refine ⟨_, cap, rfl, hc', (fun h => by cases h), fun j hj => ⟨g, 0, rfl, (h'.lt g rfl).2, fun i hi => ?_⟩⟩
    rw [Nat.zero_add, ← flat_at cs hc l j i hj hi]
    refine h'.cellAt (j * sz + i) ?_
    have h1 : (j + 1) * sz ≤ l.length * sz := Nat.mul_le_mul_right _ hj
    rw [Nat.succ_mul] at h1
    omega
/-- the cells of things -/
def csT (t : Txt) : List Value := [.string (strT t)]
def csL (p : Int × Int) : List Value := [.int .i64 p.1, .int .i64 p.2]
def csI (n : Int) : List Value := [.int .i64 n]
def csC (c : Cel) : List Value := [.int .i64 c.op, .int .u64 (c.s.a : Int), .int .u64 (c.s.b : Int), .int .u64 (c.s.c : Int), .int .u64 (c.s.d : Int)]
theorem one_T (x : Txt) : ∀ u ∈ csT x, u.oneCell' = true := fun u hu => by
  simp only [csT, List.mem_singleton] at hu
  subst hu
  rfl
theorem one_L (x : Int × Int) : ∀ u ∈ csL x, u.oneCell' = true := fun u hu => by
  simp only [csL, List.mem_cons, List.not_mem_nil, or_false] at hu
  rcases hu with rfl | rfl <;> rfl
theorem one_I (x : Int) : ∀ u ∈ csI x, u.oneCell' = true := fun u hu => by
  simp only [csI, List.mem_singleton] at hu
  subst hu
  rfl
theorem one_C (x : Cel) : ∀ u ∈ csC x, u.oneCell' = true := fun u hu => by
  simp only [csC, List.mem_cons, List.not_mem_nil, or_false] at hu
  rcases hu with rfl | rfl | rfl | rfl | rfl <;> rfl
theorem txt_rw {w : World} {v : Value} {l : List Txt} (h : Lst 1 TxtAt w v l) : Rw 1 w v l.length (l.flatMap csT) := by
  obtain ⟨a, cap, rfl, hc, hn, hat⟩ := h
  refine rw_of (sz := 1) (cs := csT) (fun _ => rfl) (by decide) one_T hn (fun j hj => ?_)
  obtain ⟨b, o, e, hlt, hx⟩ := hat j hj
  refine ⟨b, o, e, hlt, fun i hi => ?_⟩
  obtain rfl : i = 0 := by omega
  exact hx
theorem txt_own {w : World} {B : Nat} {e : TypeId} {v : Value} {l : List Txt} (h : w.ownsRow B e 1 v l.length (l.flatMap csT)) : Lst 1 TxtAt w v l := by
  obtain ⟨a, cap, e, hc, hn, hat⟩ := own_at (sz := 1) (cs := csT) (fun _ => rfl) (by decide) h
  refine ⟨a, cap, e, hc, hn, fun j hj => ?_⟩
  obtain ⟨b, o, e, hlt, hx⟩ := hat j hj
  exact ⟨b, o, e, hlt, hx 0 (by decide)⟩
theorem lev_rw {w : World} {v : Value} {l : List (Int × Int)} (h : Lst 2 LevAt w v l) : Rw 2 w v l.length (l.flatMap csL) := by
  obtain ⟨a, cap, rfl, hc, hn, hat⟩ := h
  refine rw_of (sz := 2) (cs := csL) (fun _ => rfl) (by decide) one_L hn (fun j hj => ?_)
  obtain ⟨b, o, e, hlt, hx, hy⟩ := hat j hj
  refine ⟨b, o, e, hlt, fun i hi => ?_⟩
  rcases (show i = 0 ∨ i = 1 by omega) with rfl | rfl
  · exact hx
  · exact hy
theorem lev_own {w : World} {B : Nat} {e : TypeId} {v : Value} {l : List (Int × Int)} (h : w.ownsRow B e 2 v l.length (l.flatMap csL)) : Lst 2 LevAt w v l := by
  obtain ⟨a, cap, e, hc, hn, hat⟩ := own_at (sz := 2) (cs := csL) (fun _ => rfl) (by decide) h
  refine ⟨a, cap, e, hc, hn, fun j hj => ?_⟩
  obtain ⟨b, o, e, hlt, hx⟩ := hat j hj
  exact ⟨b, o, e, hlt, hx 0 (by decide), hx 1 (by decide)⟩
theorem nums_rw {w : World} {v : Value} {l : List Int} (h : Nums w v l) : Rw 1 w v l.length (l.flatMap csI) := by
  obtain ⟨a, cap, rfl, hc, hn, hat⟩ := h
  refine rw_of (sz := 1) (cs := csI) (fun _ => rfl) (by decide) one_I hn (fun j hj => ?_)
  obtain ⟨b, o, e, hlt, hx⟩ := hat j hj
  refine ⟨b, o, e, hlt, fun i hi => ?_⟩
  obtain rfl : i = 0 := by omega
  rw [Nat.mul_one]
  exact hx
theorem nums_own {w : World} {B : Nat} {e : TypeId} {v : Value} {l : List Int} (h : w.ownsRow B e 1 v l.length (l.flatMap csI)) : Nums w v l := by
  obtain ⟨a, cap, e, hc, hn, hat⟩ := own_at (sz := 1) (cs := csI) (fun _ => rfl) (by decide) h
  refine ⟨a, cap, e, hc, hn, fun j hj => ?_⟩
  obtain ⟨b, o, e, hlt, hx⟩ := hat j hj
  have h0 := hx 0 (by decide)
  rw [Nat.mul_one] at h0
  exact ⟨b, o, e, hlt, h0⟩
theorem cels_rw {w : World} {v : Value} {l : List Cel} (h : Cels w v l) : Rw 5 w v l.length (l.flatMap csC) := by
  obtain ⟨a, cap, rfl, hc, hn, hf, hat⟩ := h
  refine rw_of (sz := 5) (cs := csC) (fun _ => rfl) (by decide) one_C hn (fun j hj => ?_)
  obtain ⟨b, o, e, hlt, x0, x1, x2, x3, x4⟩ := hat j hj
  refine ⟨b, o, e, hlt, fun i hi => ?_⟩
  rcases (show i = 0 ∨ i = 1 ∨ i = 2 ∨ i = 3 ∨ i = 4 by omega) with rfl | rfl | rfl | rfl | rfl
  · exact x0
  · exact x1
  · exact x2
  · exact x3
  · exact x4
theorem cels_own {w : World} {B : Nat} {e : TypeId} {v : Value} {l : List Cel} (h : w.ownsRow B e 5 v l.length (l.flatMap csC)) (hf : ∀ c ∈ l, FitC c) : Cels w v l := by
  obtain ⟨a, cap, e, hc, hn, hat⟩ := own_at (sz := 5) (cs := csC) (fun _ => rfl) (by decide) h
  refine ⟨a, cap, e, hc, hn, hf, fun j hj => ?_⟩
  obtain ⟨b, o, e, hlt, hx⟩ := hat j hj
  exact ⟨b, o, e, hlt, hx 0 (by decide), hx 1 (by decide), hx 2 (by decide), hx 3 (by decide), hx 4 (by decide)⟩
/-- rules and productions as rows of three -/
def pR (R : List Rl) (j : Nat) : Value := .string (strT (R.getD j ⟨[], [], false⟩).name)
def qR (R : List Rl) (j : Nat) : Value := .bool (R.getD j ⟨[], [], false⟩).skip
def pP (P : List Pd) (j : Nat) : Value := .int .i64 (P.getD j ⟨0, [], 0⟩).left
def qP (P : List Pd) (j : Nat) : Value := .int .i64 (P.getD j ⟨0, [], 0⟩).prec
theorem rw3_rw {p q : Nat → Value} {w : World} {a : Option Addr} {cap n : Nat} {f : Nat → Value} (hn : a = none → cap = 0) (hp : ∀ j, (p j).oneCell' = true) (hq : ∀ j, (q j).oneCell' = true) (hf : ∀ j, j < n → (f j).oneCell' = true)
    (hat : ∀ j, j < n → ∃ b o, a = some ⟨b, o, none⟩ ∧ b < w.heap.size ∧ w.cell? ⟨b, o + j * 3, none⟩ = some (p j) ∧ w.cell? ⟨b, o + j * 3 + 1, none⟩ = some (f j) ∧ w.cell? ⟨b, o + j * 3 + 2, none⟩ = some (q j)) : Rw 3 w (.slice a n cap) n (rw3 n p f q) := by
  refine ⟨a, cap, rfl, hn, rw3_len p f q n, fun u hu => ?_, fun t u hu => ?_⟩
  · obtain ⟨j, hj, hx⟩ := List.mem_flatMap.1 hu
    have hj := List.mem_range.1 hj
    simp only [List.mem_cons, List.not_mem_nil, or_false] at hx
    rcases hx with rfl | rfl | rfl
    · exact hp j
    · exact hf j hj
    · exact hq j
  · have ht : t < n * 3 := by
      rw [← rw3_len p f q n]
      rcases Nat.lt_or_ge t (rw3 n p f q).length with h | h
      · exact h
      · rw [List.getElem?_eq_none h] at hu; cases hu
    have hj : t / 3 < n := by omega
    obtain ⟨b, o, e, h2, x0, x1, x2⟩ := hat (t / 3) hj
    obtain ⟨y0, y1, y2⟩ := rw3_at p f q n (t / 3) hj
    refine ⟨b, o, e, h2, ?_⟩
    have hm : t = t / 3 * 3 ∨ t = t / 3 * 3 + 1 ∨ t = t / 3 * 3 + 2 := by omega
    generalize t / 3 = k at *
    rcases hm with rfl | rfl | rfl
    · rw [← hu, y0]; exact x0
    · rw [← hu, y1, ← Nat.add_assoc]; exact x1
    · rw [← hu, y2, ← Nat.add_assoc]; exact x2
theorem rw3_own {p f q : Nat → Value} {w : World} {B n : Nat} {e : TypeId} {v : Value} (h : w.ownsRow B e 3 v n (rw3 n p f q)) :
    ∃ a cap, v = .slice a n cap ∧ n ≤ cap ∧ (a = none → cap = 0) ∧ ∀ j, j < n → ∃ b o, a = some ⟨b, o, none⟩ ∧ b < w.heap.size ∧ w.cell? ⟨b, o + j * 3, none⟩ = some (p j) ∧ w.cell? ⟨b, o + j * 3 + 1, none⟩ = some (f j) ∧ w.cell? ⟨b, o + j * 3 + 2, none⟩ = some (q j) := by
  have h' := h
  rcases h.2 with ⟨rfl, h0⟩ | ⟨g, cap, cur, rfl, _, _, hc', _⟩
  · exact ⟨none, 0, by rw [h0], by omega, fun _ => rfl, fun j hj => by omega⟩
  · refine ⟨_, cap, rfl, hc', (fun h => by cases h), fun j hj => ⟨g, 0, rfl, (h'.lt g rfl).2, ?_⟩⟩
    obtain ⟨y0, y1, y2⟩ := rw3_at p f q n j hj
    rw [Nat.zero_add, ← y0, ← y1, ← y2]
    exact ⟨h'.cellAt _ (by omega), h'.cellAt _ (by omega), h'.cellAt _ (by omega)⟩
theorem getD_at {α : Type} {l : List α} {j : Nat} {d : α} (h : j < l.length) : l.getD j d = l[j] := by rw [List.getD_eq_getElem?_getD, List.getElem?_eq_getElem h]; rfl
theorem rules_rw {w : World} {v : Value} {R : List Rl} (h : Lst 3 RuleAt w v R) : ∃ f, Rw 3 w v R.length (rw3 R.length (pR R) f (qR R)) ∧ ∀ j, j < R.length → Cels w (f j) (R.getD j ⟨[], [], false⟩).re := by
  obtain ⟨a, cap, rfl, hc, hn, hat⟩ := h
  have h1 : ∀ j, j < R.length → ∃ v, (∃ b o, a = some ⟨b, o, none⟩ ∧ b < w.heap.size ∧ w.cell? ⟨b, o + j * 3, none⟩ = some (pR R j) ∧ w.cell? ⟨b, o + j * 3 + 1, none⟩ = some v ∧ w.cell? ⟨b, o + j * 3 + 2, none⟩ = some (qR R j)) ∧ Cels w v (R.getD j ⟨[], [], false⟩).re := fun j hj => by
    obtain ⟨b, o, e, hlt, v, x0, x1, x2, hC⟩ := hat j hj
    unfold pR qR
    rw [getD_at hj]
    exact ⟨v, ⟨b, o, e, hlt, x0, x1, x2⟩, hC⟩
  obtain ⟨f, hf⟩ := Deep.choose_lt h1
  refine ⟨f, rw3_rw hn (fun _ => rfl) (fun _ => rfl) (fun j hj => ?_) (fun j hj => (hf j hj).1), fun j hj => (hf j hj).2⟩
  obtain ⟨a', c', e, _⟩ := (hf j hj).2
  rw [e]
  rfl
theorem rules_own {w : World} {B : Nat} {e : TypeId} {v : Value} {R : List Rl} {f : Nat → Value} (h : w.ownsRow B e 3 v R.length (rw3 R.length (pR R) f (qR R))) (hC : ∀ j, j < R.length → Cels w (f j) (R.getD j ⟨[], [], false⟩).re) : Lst 3 RuleAt w v R := by
  obtain ⟨a, cap, e, hc, hn, hat⟩ := rw3_own h
  refine ⟨a, cap, e, hc, hn, fun j hj => ?_⟩
  obtain ⟨b, o, e, hlt, x0, x1, x2⟩ := hat j hj
  have h1 := hC j hj
  unfold pR at x0
  unfold qR at x2
  rw [getD_at hj] at x0 x2 h1
  exact ⟨b, o, e, hlt, f j, x0, x1, x2, h1⟩
theorem prods_rw {w : World} {v : Value} {R : List Pd} (h : Lst 3 ProdAt w v R) : ∃ f, Rw 3 w v R.length (rw3 R.length (pP R) f (qP R)) ∧ ∀ j, j < R.length → Nums w (f j) (R.getD j ⟨0, [], 0⟩).right := by
  obtain ⟨a, cap, rfl, hc, hn, hat⟩ := h
  have h1 : ∀ j, j < R.length → ∃ v, (∃ b o, a = some ⟨b, o, none⟩ ∧ b < w.heap.size ∧ w.cell? ⟨b, o + j * 3, none⟩ = some (pP R j) ∧ w.cell? ⟨b, o + j * 3 + 1, none⟩ = some v ∧ w.cell? ⟨b, o + j * 3 + 2, none⟩ = some (qP R j)) ∧ Nums w v (R.getD j ⟨0, [], 0⟩).right := fun j hj => by
    obtain ⟨b, o, e, hlt, v, x0, x1, x2, hC⟩ := hat j hj
    unfold pP qP
    rw [getD_at hj]
    exact ⟨v, ⟨b, o, e, hlt, x0, x1, x2⟩, hC⟩
  obtain ⟨f, hf⟩ := Deep.choose_lt h1
  refine ⟨f, rw3_rw hn (fun _ => rfl) (fun _ => rfl) (fun j hj => ?_) (fun j hj => (hf j hj).1), fun j hj => (hf j hj).2⟩
  obtain ⟨a', c', e, _⟩ := (hf j hj).2
  rw [e]
  rfl
theorem prods_own {w : World} {B : Nat} {e : TypeId} {v : Value} {R : List Pd} {f : Nat → Value} (h : w.ownsRow B e 3 v R.length (rw3 R.length (pP R) f (qP R))) (hC : ∀ j, j < R.length → Nums w (f j) (R.getD j ⟨0, [], 0⟩).right) : Lst 3 ProdAt w v R := by
  obtain ⟨a, cap, e, hc, hn, hat⟩ := rw3_own h
  refine ⟨a, cap, e, hc, hn, fun j hj => ?_⟩
  obtain ⟨b, o, e, hlt, x0, x1, x2⟩ := hat j hj
  have h1 := hC j hj
  unfold pP at x0
  unfold qP at x2
  rw [getD_at hj] at x0 x2 h1
  exact ⟨b, o, e, hlt, f j, x0, x1, x2, h1⟩

end Go.Proofs.YtcledgljbmepaaaGreat
namespace Go.Proofs.YtcledgljbmepaaaGreat
open Go.RowKit Go.Maps Go.Sort

structure RestOf (R : Prop) : Prop where
  out : R
theorem collapse {R G : Prop} (h : RestOf R → G) (pf : R) : G := h ⟨pf⟩
/-- the two boxes -/
def bxF (q : Nat) : Nat → Prop := fun b => b = q ∨ b = q + 1
def bxG (q : Nat) (v : Value) : Nat → Prop := fun b => b = q ∨ b = q + 1 ∨ v.ownBlock = some b
abbrev gmO (x0 x1 x2 x3 : Value) (st : Int) : Obj := .cells #[x0, x1, x2, x3, .int .i64 st] 27
structure Cp3 (w wB : World) (q B : Nat) (te : TypeId) (bx : Obj) (v : Value) (n : Nat) (p r : Nat → Value) (M : World → Value → Nat → Prop) (f : Nat → Value) (wr : World) : Prop where
  low : Below w.heap.size w wr
  box : wr.heap[q]? = some bx
  res : wr.heap[q + 1]? = some (gmO (.slice none 0 0) (.slice none 0 0) (.slice none 0 0) (.slice none 0 0) 0)
  own : wr.ownsRow B te 3 v n (rw3 n p f r)
  mid : ∀ j, j < n → M wr (f j) j ∧ OffP (bxG q v) (f j)
  base : Kept (bxF q) wB wr
/-- what stands of a thing stands where its blocks stand -/
def Firm (M : World → Value → Nat → Prop) : Prop := ∀ (F : Nat → Prop) (w w' : World) (v : Value) (j : Nat), M w v j → Kept F w w' → OffP F v → M w' v j
theorem below_kept {w w' : World} (h : Below w.heap.size w w') (F : Nat → Prop) : Kept F w w' := ⟨h.os, h.tape, h.output, h.size, fun k hk _ => h.block k hk⟩
theorem OffP.mono {F G : Nat → Prop} {v : Value} (h : OffP F v) (hG : ∀ b, G b → F b) : OffP G v := fun a n c e hn hg => h a n c e hn (hG _ hg)
/-- one more is copied -/
theorem Cp3.put {w wB wr w' : World} {q B n g c k : Nat} {te : TypeId} {bx : Obj} {p r f : Nat → Value} {M : World → Value → Nat → Prop} (h : Cp3 w wB q B te bx (.slice (some ⟨g, 0, none⟩) n c) n p r M f wr) (hM : Firm M)
    (hw : w.heap.size ≤ q) (hB : q + 2 ≤ B) (hBB : wB.heap.size ≤ B) (hu : Below wr.heap.size wr w') (hk : k < n) {x : Value} (hx : M w' x k) (hxo : OffP (fun b => b < wr.heap.size) x) :
    Cp3 w wB q B te bx (.slice (some ⟨g, 0, none⟩) n c) n p r M (upd f k x) (w'.setCell ⟨g, k * 3 + 1, none⟩ x) := by
  obtain ⟨cur, hg, hgB⟩ := own_block h.own
  have hgl := blk_lt hg
  have hq := blk_lt h.box
  have hq1 := blk_lt h.res
  have hks : Kept (bxG q (.slice (some ⟨g, 0, none⟩) n c)) w' (w'.setCell ⟨g, k * 3 + 1, none⟩ x) := (Kept.refl _ w').setCell (fun _ => .inr (.inr rfl))
  refine ⟨?_, ?_, ?_, ?_, ?_, ?_⟩
  · exact bl_set (h.low.trans (hu.mono h.low.size)) _ _ _ (by omega)
  · rw [Below.heap_setCell w' ⟨g, k * 3 + 1, none⟩ x q (by show q ≠ g; omega)]
    exact hs_keep h.box hu
  · rw [Below.heap_setCell w' ⟨g, k * 3 + 1, none⟩ x (q + 1) (by show q + 1 ≠ g; omega)]
    exact hs_keep h.res hu
  · have h1 := own_put (i := k * 3 + 1) (own_below h.own hu) x
    rw [rw3_set p f r k x n hk] at h1
    exact h1
  · intro j hj
    by_cases hjk : j = k
    · subst hjk
      have e : upd f j x j = x := if_pos rfl
      rw [e]
      have ho : OffP (bxG q (.slice (some ⟨g, 0, none⟩) n c)) x := hxo.mono (fun b hb => by
        rcases hb with rfl | rfl | hb
        · exact hq
        · exact hq1
        · have : g = b := by injection hb
          subst this
          exact hgl)
      exact ⟨hM _ _ _ _ _ hx hks ho, ho⟩
    · have e : upd f k x j = f j := if_neg hjk
      rw [e]
      obtain ⟨h1, h2⟩ := h.mid j hj
      exact ⟨hM _ _ _ _ _ (hM _ _ _ _ _ h1 (below_kept hu _) h2) hks h2, h2⟩
  · exact (h.base.step (below_kept hu (bxF q)) (fun k _ h => h)).setCell (fun hb => absurd hb (by show ¬ g < wB.heap.size; omega))
theorem firmC (R : List Rl) : Firm (fun w v j => Cels w v (R.getD j ⟨[], [], false⟩).re) := fun _ _ _ _ _ h hk ho => h.keptP hk ho
theorem firmN (P : List Pd) : Firm (fun w v j => Nums w v (P.getD j ⟨0, [], 0⟩).right) := fun _ _ _ _ _ h hk ho => h.keptP hk ho
/-- what was copied stands while only the boxes change -/
theorem Cp3.later {w wB wr W : World} {q B n : Nat} {te : TypeId} {bx : Obj} {v : Value} {p r f : Nat → Value} {M : World → Value → Nat → Prop} (h : Cp3 w wB q B te bx v n p r M f wr) (hM : Firm M) (hB : q + 2 ≤ B) (hK : Kept (bxF q) wr W) :
    W.ownsRow B te 3 v n (rw3 n p f r) ∧ ∀ j, j < n → M W (f j) j := by
  refine ⟨own_kept h.own hK (fun k hk hf => ?_), fun j hj => ?_⟩
  · have := (h.own.lt k hk).1
    rcases hf with rfl | rfl <;> omega
  · obtain ⟨h1, h2⟩ := h.mid j hj
    exact hM _ _ _ _ _ h1 hK (h2.mono (fun b hb => by
      rcases hb with h9 | h9
      · exact .inl h9
      · exact .inr (.inl h9)))
theorem own_later {w W : World} {q B n size : Nat} {e : TypeId} {v : Value} {xs : List Value} (h : w.ownsRow B e size v n xs) (hB : q + 2 ≤ B) (hK : Kept (bxF q) w W) : W.ownsRow B e size v n xs :=
  own_kept h hK (fun k hk hf => by
    have := (h.lt k hk).1
    rcases hf with rfl | rfl <;> omega)
/-- a new row put into a box -/
theorem box_put {w wr w' : World} {q i : Nat} {cs : Array Value} {T : TypeId} {ro : Obj} {y : Value} (hlow : Below w.heap.size w wr) (hw : w.heap.size ≤ q) (hbox : wr.heap[q]? = some (.cells cs T (0, 0))) (hres : wr.heap[q + 1]? = some ro) (hu : Below wr.heap.size wr w') :
    Below w.heap.size w (w'.setCell ⟨q, i, none⟩ y) ∧ (w'.setCell ⟨q, i, none⟩ y).heap[q]? = some (.cells (cs.setIfInBounds i y) T (0, 0)) ∧ (w'.setCell ⟨q, i, none⟩ y).heap[q + 1]? = some ro ∧ Kept (bxF q) wr (w'.setCell ⟨q, i, none⟩ y) := by
  refine ⟨bl_set (hlow.trans (hu.mono hlow.size)) _ _ _ hw, heap_setCell (hs_keep hbox hu), ?_, (below_kept hu (bxF q)).setCell (fun _ => .inl rfl)⟩
  rw [Below.heap_setCell w' ⟨q, i, none⟩ y (q + 1) (by show q + 1 ≠ q; omega)]
  exact hs_keep hres hu

set_option maxRecDepth 20000 in
/-- an append whose run is known -/
theorem wp_run {ops : Array Oper} {rest : List Oper} {o : Oper} {a : Act} {Q : Exit → Act → World → Prop} (w : World) (hgd : o.guard = none) (s x : Operand) (t : TypeId)
    (ho : o.op = .call { callee := .builtin .append, args := #[s, x], argTypes := #[t, t] }) (v vx : Value) (hs : a.eval s = v) (hx : a.eval x = vx) {v' : Value} {w' : World}
    (hr : (Builtin.append_ #[t, t] o.type #[v, vx]).run Tryz.prog w = .ok v' w') (h : wpList Tryz.prog ops Q rest (a.put o.dst v') w') : wpList Tryz.prog ops Q (o :: rest) a w := by
  refine wpList_plain hgd fun K hK => ?_
  unfold Oper.wp execOp
  simp only [ho, resolve, invoke, builtin, Sem.run_bind, Sem.run_pure, Result.andThen_ok, List.map_toArray, List.map_cons, List.map_nil, hs, hx, hr]
  exact hK _ _ h
set_option maxRecDepth 20000 in
theorem step_run {ops : Array Oper} {o : Oper} {a : Act} {w : World} {K : Act → World → Prop} {Q : Exit → Act → World → Prop} {E : Prop} (hgd : o.guard = none) (s x : Operand) (t : TypeId)
    (ho : o.op = .call { callee := .builtin .append, args := #[s, x], argTypes := #[t, t] }) (v vx : Value) (hs : a.eval s = v) (hx : a.eval x = vx) {v' : Value} {w' : World}
    (hr : (Builtin.append_ #[t, t] o.type #[v, vx]).run Tryz.prog w = .ok v' w') (h : K (a.put o.dst v') w') : if Region.wanted o (yielded ops a.tmps) = true then Oper.wp Tryz.prog o a w K Q else E := by
  have hw : Region.wanted o (yielded ops a.tmps) = true := by simp [Region.wanted, hgd]
  rw [if_pos hw]
  unfold Oper.wp
  simp [execOp, ho, resolve, invoke, builtin, hs, hx, hr, Result.andThen]
  exact h

/-- five cells stored into a block of five -/
theorem putT5 {u : World} {b t : Nat} {x0 x1 x2 x3 x4 : Value} (h : u.heap[b]? = some (.cells #[x0, x1, x2, x3, x4] t (0, 0))) (v0 v1 v2 v3 v4 : Value) :
    (u.cell? ⟨b, 0, none⟩ = some x0 ∧ u.frozen? ⟨b, 0, none⟩ = false) ∧
    ((u.setCell ⟨b, 0, none⟩ v0).cell? ⟨b, 1, none⟩ = some x1 ∧ (u.setCell ⟨b, 0, none⟩ v0).frozen? ⟨b, 1, none⟩ = false) ∧
    (((u.setCell ⟨b, 0, none⟩ v0).setCell ⟨b, 1, none⟩ v1).cell? ⟨b, 2, none⟩ = some x2 ∧ ((u.setCell ⟨b, 0, none⟩ v0).setCell ⟨b, 1, none⟩ v1).frozen? ⟨b, 2, none⟩ = false) ∧
    ((((u.setCell ⟨b, 0, none⟩ v0).setCell ⟨b, 1, none⟩ v1).setCell ⟨b, 2, none⟩ v2).cell? ⟨b, 3, none⟩ = some x3 ∧ (((u.setCell ⟨b, 0, none⟩ v0).setCell ⟨b, 1, none⟩ v1).setCell ⟨b, 2, none⟩ v2).frozen? ⟨b, 3, none⟩ = false) ∧
    (((((u.setCell ⟨b, 0, none⟩ v0).setCell ⟨b, 1, none⟩ v1).setCell ⟨b, 2, none⟩ v2).setCell ⟨b, 3, none⟩ v3).cell? ⟨b, 4, none⟩ = some x4 ∧ ((((u.setCell ⟨b, 0, none⟩ v0).setCell ⟨b, 1, none⟩ v1).setCell ⟨b, 2, none⟩ v2).setCell ⟨b, 3, none⟩ v3).frozen? ⟨b, 4, none⟩ = false) ∧
    (((((u.setCell ⟨b, 0, none⟩ v0).setCell ⟨b, 1, none⟩ v1).setCell ⟨b, 2, none⟩ v2).setCell ⟨b, 3, none⟩ v3).setCell ⟨b, 4, none⟩ v4).heap[b]? = some (.cells #[v0, v1, v2, v3, v4] t (0, 0)) := by
  have h1 : (u.setCell ⟨b, 0, none⟩ v0).heap[b]? = some (.cells #[v0, x1, x2, x3, x4] t (0, 0)) := heap_setCell h
  have h2 : ((u.setCell ⟨b, 0, none⟩ v0).setCell ⟨b, 1, none⟩ v1).heap[b]? = some (.cells #[v0, v1, x2, x3, x4] t (0, 0)) := heap_setCell h1
  have h3 : (((u.setCell ⟨b, 0, none⟩ v0).setCell ⟨b, 1, none⟩ v1).setCell ⟨b, 2, none⟩ v2).heap[b]? = some (.cells #[v0, v1, v2, x3, x4] t (0, 0)) := heap_setCell h2
  have h4 : ((((u.setCell ⟨b, 0, none⟩ v0).setCell ⟨b, 1, none⟩ v1).setCell ⟨b, 2, none⟩ v2).setCell ⟨b, 3, none⟩ v3).heap[b]? = some (.cells #[v0, v1, v2, v3, x4] t (0, 0)) := heap_setCell h3
  exact ⟨⟨blk_cell h rfl, blk_frozen h 0⟩, ⟨blk_cell h1 rfl, blk_frozen h1 1⟩, ⟨blk_cell h2 rfl, blk_frozen h2 2⟩, ⟨blk_cell h3 rfl, blk_frozen h3 3⟩, ⟨blk_cell h4 rfl, blk_frozen h4 4⟩, heap_setCell h4⟩

end Go.Proofs.YtcledgljbmepaaaGreat
namespace Go.Proofs.YtcledgljbmepaaaGreat
open Go.RowKit Go.Maps Go.Sort

set_option maxRecDepth 20000 in
theorem Tryz.infRl : (Tryz.prog.info? 40).map (fun i => (i.zero, i.size, i.bytes)) = some (some (.agg #[.string ⟨#[]⟩, .slice none 0 0, .bool false]), 3, 48) := by kernel_rfl
set_option maxRecDepth 20000 in
theorem Tryz.infPd : (Tryz.prog.info? 44).map (fun i => (i.zero, i.size, i.bytes)) = some (some (.agg #[.int .i64 0, .slice none 0 0, .int .i64 0]), 3, 40) := by kernel_rfl
set_option maxRecDepth 20000 in
theorem Tryz.infLv : (Tryz.prog.info? 105).map (fun i => (i.zero, i.size, i.bytes)) = some (some (.agg #[.int .i64 0, .int .i64 0]), 2, 16) := by kernel_rfl
set_option maxRecDepth 20000 in
theorem Tryz.infCl : (Tryz.prog.info? 76).map (fun i => (i.zero, i.size, i.bytes)) = some (some (.agg #[.int .i64 0, .int .u64 0, .int .u64 0, .int .u64 0, .int .u64 0]), 5, 40) := by kernel_rfl
set_option maxRecDepth 20000 in
theorem Tryz.infIn : (Tryz.prog.info? 3).map (fun i => (i.zero, i.size, i.bytes)) = some (some (.int .i64 0), 1, 8) := by kernel_rfl
set_option maxRecDepth 20000 in
set_option maxHeartbeats 8000000 in
theorem copied12 (rv nv lv pv : Value) (g : Gm) (w : World) (h : GmV w rv nv lv pv g) (hb : BndG g) :
    Calls Tryz.prog 8 #[gmA rv nv lv pv g.start] w fun e w' => ∃ rv' nv' lv' pv', e = .returned (gmA rv' nv' lv' pv' g.start) ∧ GmV w' rv' nv' lv' pv' g ∧ Below w.heap.size w w' := by
  obtain ⟨i1, hi1, za1, zb1, zc1⟩ := info_parts Tryz.infRl
  obtain ⟨i2, hi2, za2, zb2, zc2⟩ := info_parts Tryz.infoTx
  obtain ⟨i3, hi3, za3, zb3, zc3⟩ := info_parts Tryz.infLv
  obtain ⟨i4, hi4, za4, zb4, zc4⟩ := info_parts Tryz.infPd
  obtain ⟨i5, hi5, za5, zb5, zc5⟩ := info_parts Tryz.infCl
  obtain ⟨i6, hi6, za6, zb6, zc6⟩ := info_parts Tryz.infIn
  have hb1 := hb.rules
  have hb2 := hb.nonts
  have hb3 := hb.levels
  have hb4 := hb.prods
  have hb5 : Hid (∀ j, j < g.rules.length → (g.rules.getD j ⟨[], [], false⟩).re.length ≤ 1000) := hid (fun j hj => by rw [getD_at hj]; exact hb.re _ (List.getElem_mem hj))
  have hb6 : Hid (∀ j, j < g.prods.length → (g.prods.getD j ⟨0, [], 0⟩).right.length ≤ 1000) := hid (fun j hj => by rw [getD_at hj]; exact hb.right _ (List.getElem_mem hj))
  have hV := hid h
  obtain ⟨a, c, rfl⟩ := h.rules.shape
  obtain ⟨na, nc, rfl⟩ := h.nonts.shape
  obtain ⟨la, lc, rfl⟩ := h.levels.shape
  obtain ⟨pa, pc, rfl⟩ := h.prods.shape
  clear h hb
  generalize g.start = st at *
  obtain ⟨rn, hrn⟩ : ∃ n, Hid (g.rules.length = n) := ⟨_, hid rfl⟩
  obtain ⟨nn, hnn⟩ : ∃ n, Hid (g.nonts.length = n) := ⟨_, hid rfl⟩
  obtain ⟨ll, hll⟩ : ∃ n, Hid (g.levels.length = n) := ⟨_, hid rfl⟩
  obtain ⟨pp, hpp⟩ : ∃ n, Hid (g.prods.length = n) := ⟨_, hid rfl⟩
  rw [hrn.out, hnn.out, hll.out, hpp.out] at hV ⊢
  rw [hrn.out] at hb1 hb5
  rw [hnn.out] at hb2
  rw [hll.out] at hb3
  rw [hpp.out] at hb4 hb6
  obtain ⟨W1, hW1⟩ : ∃ x, w.alloc (gmO (.slice a rn c) (.slice na nn nc) (.slice la ll lc) (.slice pa pp pc) st) = x := ⟨_, rfl⟩
  have hz1 : W1.heap.size = w.heap.size + 1 := by rw [← hW1]; exact World.size_alloc ..
  have hB1 : Hid (Below w.heap.size w W1) := by rw [← hW1]; exact hid (al' w _)
  have hk1 : Hid (W1.heap[w.heap.size]? = some (gmO (.slice a rn c) (.slice na nn nc) (.slice la ll lc) (.slice pa pp pc) st)) := by rw [← hW1]; exact hid (heap_new w _)
  obtain ⟨W2, hW2⟩ : ∃ x, W1.alloc (gmO (.slice none 0 0) (.slice none 0 0) (.slice none 0 0) (.slice none 0 0) 0) = x := ⟨_, rfl⟩
  have hz2 : W2.heap.size = w.heap.size + 2 := by rw [← hW2, World.size_alloc, hz1]
  have hB2 : Hid (Below w.heap.size w W2) := by rw [← hW2]; exact hid (bl_step hB1.out (al' W1 _))
  have hk2 : Hid (W2.heap[w.heap.size]? = some (gmO (.slice a rn c) (.slice na nn nc) (.slice la ll lc) (.slice pa pp pc) st)) := by rw [← hW2]; exact hid (hs_keep hk1.out (al' W1 _))
  have hr2 : Hid (W2.heap[w.heap.size + 1]? = some (gmO (.slice none 0 0) (.slice none 0 0) (.slice none 0 0) (.slice none 0 0) 0)) := by rw [← hW2, ← hz1]; exact hid (heap_new W1 _)
  obtain ⟨f0, hRw0, hCf0⟩ := rules_rw hV.out.rules
  rw [hrn.out] at hRw0 hCf0
  obtain ⟨v1, w3, hrun1, hO3, hb3'⟩ := run_appG (tS := 22) (ty := 22) Tryz.underlying22 hi1 za1 zb1 zc1 rfl (by decide) (hRw0.keep hB2.out) (by omega) (by omega)
  obtain ⟨a1, c1, hv1⟩ := own_shape hO3
  subst hv1
  obtain ⟨s1, s2, s3, s4⟩ := box_put (i := 0) (y := .slice a1 rn c1) hB2.out (Nat.le_refl _) hk2.out hr2.out hb3'
  obtain ⟨y0, y1, y2, y3, y4⟩ := cells5m hk2.out
  have y0' := keep_cell hb3' y0
  have y0f : w3.frozen? ⟨w.heap.size, 0, none⟩ = false := blk_frozen (hs_keep hk2.out hb3') 0
  rw [hz2] at hrun1 hO3
  obtain ⟨W3, hW3⟩ : ∃ x, w3.setCell ⟨w.heap.size, 0, none⟩ (.slice a1 rn c1) = x := ⟨_, rfl⟩
  rw [hW3] at s1 s2 s3 s4
  have hK3 : Kept (bxF w.heap.size) w3 W3 := by rw [← hW3]; exact (Kept.refl _ w3).setCell (fun _ => .inl rfl)
  have hCp : Hid (Cp3 w W2 w.heap.size (w.heap.size + 2) 40 (gmO (.slice a1 rn c1) (.slice na nn nc) (.slice la ll lc) (.slice pa pp pc) st) (.slice a1 rn c1) rn (pR g.rules) (qR g.rules) (fun w v j => Cels w v (g.rules.getD j ⟨[], [], false⟩).re) f0 W3) := hid ⟨s1, s2, s3, own_later hO3 (Nat.le_refl _) hK3, fun j hj => ⟨(hCf0 j hj).keep s1, (hCf0 j hj).off (fun b hb hF => by
    rcases hF with h9 | h9 | h9
    · omega
    · omega
    · have := (hO3.lt b h9).1
      omega)⟩, s4⟩
  have hz2H := hid hz2
  have bx1 := cells5m s2
  obtain ⟨x0, x1, x2, x3, x4⟩ := bx1
  clear hk1 hB1 hO3 hCf0 hRw0 hK3 s1 s2 s3 s4 hk2 hr2 hb3'
  go_enter Tryz.func8, Tryz.ntmps8
  go_wp2_with (at_builtin; refine wp_run _ rfl _ _ _ rfl _ _ rfl rfl hrun1 ?_)
  clear hrun1 hW1 hW2 hz1 hz2 hW3 y0 y1 y2 y3 y4 y0' y0f x0 x1 x2 x3 x4
  go_loopw [13] (fun i wr => ∃ (k : Nat) (f : Nat → Value), k ≤ rn ∧ i = .int .i64 (k : Int) ∧ Hid (Cp3 w W2 w.heap.size (w.heap.size + 2) 40 (gmO (.slice a1 rn c1) (.slice na nn nc) (.slice la ll lc) (.slice pa pp pc) st) (.slice a1 rn c1) rn (pR g.rules) (qR g.rules) (fun w v j => Cels w v (g.rules.getD j ⟨[], [], false⟩).re) f wr)) (fun i _ => rn - (intOf i).toNat)
  case atStart => exact ⟨0, f0, Nat.zero_le _, rfl, hCp⟩
  case round =>
    obtain ⟨k, f, hk, rfl, hC⟩ := hrel
    by_cases hlt : k < rn
    · have hltz : (k : Int) < (rn : Int) := by omega
      obtain ⟨g1, cc, hge, -⟩ := own_form3 hC.out.own (by omega)
      injection hge with hge _ hcc
      subst hge
      subst hcc
      obtain ⟨hCk, -⟩ := hC.out.mid k hlt
      obtain ⟨-, m1, -⟩ := rw3_at (pR g.rules) f (qR g.rules) rn k hlt
      have hcell := (hC.out.own.cellAt (k * 3 + 1) (by omega)).trans m1
      have hln := hb5.out k hlt
      obtain ⟨xa, xc, hfe⟩ : ∃ xa xc, f k = .slice xa (g.rules.getD k ⟨[], [], false⟩).re.length xc := by obtain ⟨xa, xc, e, _⟩ := hCk; exact ⟨xa, xc, e⟩
      have hft : ∀ y ∈ (g.rules.getD k ⟨[], [], false⟩).re, FitC y := by obtain ⟨_, _, _, _, _, h9, _⟩ := hCk; exact h9
      rw [hfe] at hcell hCk
      have hbd : Below wr.heap.size wr wr.drew := (Below.refl _ wr).drew
      obtain ⟨v5, w5, hrun5, hO5, hb5'⟩ := run_appG (tS := 38) (ty := 38) (u := wr.drew) Tryz.underlying38 hi5 za5 zb5 zc5 rfl (by decide) (cels_rw (hCk.keep hbd)) (by omega) (by omega)
      have hb5w : Below wr.heap.size wr w5 := bl_step hbd hb5'
      obtain ⟨a5, c5, hv5⟩ := own_shape hO5
      subst hv5
      have hC5 := cels_own hO5 hft
      have hOff : OffP (fun b => b < wr.heap.size) (.slice a5 (g.rules.getD k ⟨[], [], false⟩).re.length c5) := own_off hO5 (fun b hb hb2 => by have : wr.drew.heap.size = wr.heap.size := rfl; omega)
      have hnx := hid (hC.out.put (firmC g.rules) (Nat.le_refl _) (Nat.le_refl _) (by have := hz2H.out; omega) hb5w hlt hC5 hOff)
      obtain ⟨e0, e1, e2, e3, e4⟩ := cells5m (hs_keep hC.out.box hbd)
      obtain ⟨d0, d1, d2, d3, d4⟩ := cells5m (hs_keep hC.out.box hb5w)
      have hcd := keep_cell hbd hcell
      have hc5 := keep_cell hb5w hcell
      obtain ⟨cur, hgb, -⟩ := own_block (own_below hC.out.own hb5w)
      have hf5 : w5.frozen? ⟨g1, k * 3 + 1, none⟩ = false := blk_frozen hgb _
      obtain ⟨m, hm⟩ : ∃ m, Hid ((g.rules.getD k ⟨[], [], false⟩).re.length = m) := ⟨_, hid rfl⟩
      rw [hm.out] at hrun5 hcd hc5 hnx hln
      clear hC5 hOff hO5 hb5' hb5w hC hCk hft hgb hcell hfe m1
      have hsd : wr.drew.heap.size = wr.heap.size := rfl
      rw [hsd] at hrun5
      have hwa : wr.drew.alloc (.cells #[] 76) = (wr.alloc (.cells #[] 76)).drew := rfl
      rw [hwa] at hrun5
      have hba : Below wr.drew.heap.size wr.drew (wr.alloc (.cells #[] 76)).drew := al' wr.drew _
      have ea0 := keep_cell hba e0
      have eac := keep_cell hba hcd
      clear hwa hba hsd
      go_wp2_with fail
      apply collapse
      case h =>
        intro rest
        go_region_law ((first
          | (refine step_run (by rfl) (.tmp 19) (.tmp 25) 38 (by rfl) _ _ (by rfl) (by rfl) hrun5 ?_)
          | fail))
        all_goals exact rest.out
      case pf =>
        go_wp2
        go_roundw
        case rel => exact ⟨k + 1, _, by omega, by go_num, hnx⟩
        case measure => simp [intOf]; omega
    · have hltz : ¬ (k : Int) < (rn : Int) := by omega
      have hVr := hV.out.keep hC.out.low
      obtain ⟨v2, w7, hrun7, hO7, hb7⟩ := run_appG (tS := 23) (ty := 23) Tryz.underlying23 hi2 za2 zb2 zc2 rfl (by decide) (txt_rw hVr.nonts) (by rw [hnn.out]; omega) (by rw [hnn.out]; omega)
      rw [hnn.out] at hO7
      obtain ⟨a2, c2, hv2⟩ := own_shape hO7
      subst hv2
      obtain ⟨p1, p2, p3, p4⟩ := box_put (i := 1) (y := .slice a2 nn c2) hC.out.low (Nat.le_refl _) hC.out.box hC.out.res hb7
      obtain ⟨e0, e1, e2, e3, e4⟩ := cells5m hC.out.box
      have t1 := keep_cell hb7 e1
      have t1f : w7.frozen? ⟨w.heap.size, 1, none⟩ = false := blk_frozen (hs_keep hC.out.box hb7) 1
      have hOn := own_later hO7 (q := w.heap.size) (by have := blk_lt hC.out.res; omega) ((Kept.refl (bxF w.heap.size) w7).setCell (a := ⟨w.heap.size, 1, none⟩) (v := .slice a2 nn c2) (fun _ => .inl rfl))
      have hq7 := blk_lt p3
      obtain ⟨W7, hW7⟩ : ∃ x, w7.setCell ⟨w.heap.size, 1, none⟩ (.slice a2 nn c2) = x := ⟨_, rfl⟩
      rw [hW7] at p1 p2 p3 p4 hOn hq7
      have hVr7 := hV.out.keep p1
      obtain ⟨v3, w8, hrun8, hO8, hb8⟩ := run_appG (tS := 24) (ty := 24) Tryz.underlying24 hi3 za3 zb3 zc3 rfl (by decide) (lev_rw hVr7.levels) (by rw [hll.out]; omega) (by rw [hll.out]; omega)
      rw [hll.out] at hO8
      obtain ⟨a3, c3, hv3⟩ := own_shape hO8
      subst hv3
      obtain ⟨p1', p2', p3', p4'⟩ := box_put (i := 2) (y := .slice a3 ll c3) p1 (Nat.le_refl _) p2 p3 hb8
      obtain ⟨e0', e1', e2', e3', e4'⟩ := cells5m p2
      have t2 := keep_cell hb8 e2'
      have t2f : w8.frozen? ⟨w.heap.size, 2, none⟩ = false := blk_frozen (hs_keep p2 hb8) 2
      have hOl := own_later hO8 (q := w.heap.size) (by omega) ((Kept.refl (bxF w.heap.size) w8).setCell (a := ⟨w.heap.size, 2, none⟩) (v := .slice a3 ll c3) (fun _ => .inl rfl))
      have hq8 := blk_lt p3'
      obtain ⟨W8, hW8⟩ : ∃ x, w8.setCell ⟨w.heap.size, 2, none⟩ (.slice a3 ll c3) = x := ⟨_, rfl⟩
      rw [hW8] at p1' p2' p3' p4' hOl hq8
      obtain ⟨f1, hRw1, hNf1⟩ := prods_rw hV.out.prods
      rw [hpp.out] at hRw1 hNf1
      obtain ⟨v4, w9, hrun9, hO9, hb9⟩ := run_appG (tS := 25) (ty := 25) Tryz.underlying25 hi4 za4 zb4 zc4 rfl (by decide) (hRw1.keep p1') (by omega) (by omega)
      obtain ⟨a4, c4, hv4⟩ := own_shape hO9
      subst hv4
      obtain ⟨r1, r2, r3, r4⟩ := box_put (i := 3) (y := .slice a4 pp c4) p1' (Nat.le_refl _) p2' p3' hb9
      obtain ⟨n0, n1, n2, n3, n4⟩ := cells5m p2'
      have t3 := keep_cell hb9 n3
      have t3f : w9.frozen? ⟨w.heap.size, 3, none⟩ = false := blk_frozen (hs_keep p2' hb9) 3
      have hOp := own_later hO9 (q := w.heap.size) (by omega) ((Kept.refl (bxF w.heap.size) w9).setCell (a := ⟨w.heap.size, 3, none⟩) (v := .slice a4 pp c4) (fun _ => .inl rfl))
      obtain ⟨W9, hW9⟩ : ∃ x, w9.setCell ⟨w.heap.size, 3, none⟩ (.slice a4 pp c4) = x := ⟨_, rfl⟩
      rw [hW9] at r1 r2 r3 r4 hOp
      obtain ⟨l0, l1, l2, l3, l4⟩ := cells5m r2
      have hCp2 : Hid (Cp3 w W8 w.heap.size W8.heap.size 44 (gmO (.slice a1 rn c1) (.slice a2 nn c2) (.slice a3 ll c3) (.slice a4 pp c4) st) (.slice a4 pp c4) pp (pP g.prods) (qP g.prods) (fun w v j => Nums w v (g.prods.getD j ⟨0, [], 0⟩).right) f1 W9) := hid ⟨r1, r2, r3, hOp, fun j hj => ⟨(hNf1 j hj).keep r1, (hNf1 j hj).off (fun b hb hF => by
        rcases hF with h9 | h9 | h9
        · omega
        · omega
        · have := (hO9.lt b h9).1
          omega)⟩, r4⟩
      have fin : Hid (∀ W, Kept (bxF w.heap.size) W8 W → Lst 3 RuleAt W (.slice a1 rn c1) g.rules ∧ Lst 1 TxtAt W (.slice a2 nn c2) g.nonts ∧ Lst 2 LevAt W (.slice a3 ll c3) g.levels) := hid (fun W hW => by
        have hWr := p4'.trans hW
        have hWn := p4.trans hWr
        obtain ⟨q1, q2⟩ := hC.out.later (firmC g.rules) (Nat.le_refl _) hWn
        rw [← hrn.out] at q1 q2 ⊢
        refine ⟨rules_own q1 q2, ?_, ?_⟩
        · have := own_later hOn (q := w.heap.size) (by have := blk_lt hC.out.res; omega) hWr
          rw [← hnn.out] at this ⊢
          exact txt_own this
        · have := own_later hOl (q := w.heap.size) (by omega) hW
          rw [← hll.out] at this ⊢
          exact lev_own this)
      have hq8H := hid hq8
      have u1 := keep_cell (al' wr (.cells #[] 9)) e1
      have u2 := keep_cell (al' W7 (.cells #[] 105)) e2'
      have u3' := keep_cell (al' W8 (.cells #[] 44)) n3
      clear hC hVr hO7 hb7 p1 p2 p3 p4 hOn hq7 hVr7 hO8 hb8 p1' p2' p3' p4' hOl hRw1 hNf1 hO9 hb9 r1 r2 r3 r4 hOp hq8
      go_wp2_with (first
        | (at_builtin; refine wp_run _ rfl _ _ _ rfl _ _ rfl rfl hrun7 ?_)
        | (at_builtin; refine wp_run _ rfl _ _ _ rfl _ _ rfl rfl hrun8 ?_)
        | (at_builtin; refine wp_run _ rfl _ _ _ rfl _ _ rfl rfl hrun9 ?_))
      clear hrun7 hrun8 hrun9 hW7 hW8 hW9 e0 e1 e2 e3 e4 e0' e1' e2' e3' e4' n0 n1 n2 n3 n4 l0 l1 l2 l3 l4 t1 t1f t2 t2f t3 t3f u1 u2 u3'
      go_loopw [48] (fun i wr => ∃ (k : Nat) (f : Nat → Value), k ≤ pp ∧ i = .int .i64 (k : Int) ∧ Hid (Cp3 w W8 w.heap.size W8.heap.size 44 (gmO (.slice a1 rn c1) (.slice a2 nn c2) (.slice a3 ll c3) (.slice a4 pp c4) st) (.slice a4 pp c4) pp (pP g.prods) (qP g.prods) (fun w v j => Nums w v (g.prods.getD j ⟨0, [], 0⟩).right) f wr)) (fun i _ => pp - (intOf i).toNat)
      case atStart => exact ⟨0, f1, Nat.zero_le _, rfl, hCp2⟩
      case round =>
        obtain ⟨k, f, hk, rfl, hC⟩ := hrel
        by_cases hlt : k < pp
        · have hltz : (k : Int) < (pp : Int) := by omega
          obtain ⟨g1, cc, hge, -⟩ := own_form3 hC.out.own (by omega)
          injection hge with hge _ hcc
          subst hge
          subst hcc
          obtain ⟨hCk, -⟩ := hC.out.mid k hlt
          obtain ⟨-, m1, -⟩ := rw3_at (pP g.prods) f (qP g.prods) pp k hlt
          have hcell := (hC.out.own.cellAt (k * 3 + 1) (by omega)).trans m1
          have hln := hb6.out k hlt
          obtain ⟨xa, xc, hfe⟩ : ∃ xa xc, f k = .slice xa (g.prods.getD k ⟨0, [], 0⟩).right.length xc := by obtain ⟨xa, xc, e, _⟩ := hCk; exact ⟨xa, xc, e⟩
          rw [hfe] at hcell hCk
          have hbd : Below wr.heap.size wr wr.drew := (Below.refl _ wr).drew
          obtain ⟨v5, w5, hrun5, hO5, hb5'⟩ := run_appG (tS := 42) (ty := 42) (u := wr.drew) Tryz.underlying42 hi6 za6 zb6 zc6 rfl (by decide) (nums_rw (hCk.keep hbd)) (by omega) (by omega)
          have hb5w : Below wr.heap.size wr w5 := bl_step hbd hb5'
          obtain ⟨a5, c5, hv5⟩ := own_shape hO5
          subst hv5
          have hC5 := nums_own hO5
          have hOff : OffP (fun b => b < wr.heap.size) (.slice a5 (g.prods.getD k ⟨0, [], 0⟩).right.length c5) := own_off hO5 (fun b hb hb2 => by have : wr.drew.heap.size = wr.heap.size := rfl; omega)
          have hnx := hid (hC.out.put (firmN g.prods) (Nat.le_refl _) (by have := hq8H.out; omega) (Nat.le_refl _) hb5w hlt hC5 hOff)
          obtain ⟨e0, e1, e2, e3, e4⟩ := cells5m (hs_keep hC.out.box hbd)
          obtain ⟨d0, d1, d2, d3, d4⟩ := cells5m (hs_keep hC.out.box hb5w)
          have hcd := keep_cell hbd hcell
          have hc5 := keep_cell hb5w hcell
          obtain ⟨cur, hgb, -⟩ := own_block (own_below hC.out.own hb5w)
          have hf5 : w5.frozen? ⟨g1, k * 3 + 1, none⟩ = false := blk_frozen hgb _
          obtain ⟨m, hm⟩ : ∃ m, Hid ((g.prods.getD k ⟨0, [], 0⟩).right.length = m) := ⟨_, hid rfl⟩
          rw [hm.out] at hrun5 hcd hc5 hnx hln
          clear hC5 hOff hO5 hb5' hb5w hC hCk hgb hcell hfe m1
          have hsd : wr.drew.heap.size = wr.heap.size := rfl
          rw [hsd] at hrun5
          have hwa : wr.drew.alloc (.cells #[] 3) = (wr.alloc (.cells #[] 3)).drew := rfl
          rw [hwa] at hrun5
          have hba : Below wr.drew.heap.size wr.drew (wr.alloc (.cells #[] 3)).drew := al' wr.drew _
          have ea0 := keep_cell hba e3
          have eac := keep_cell hba hcd
          clear hwa hba hsd
          go_wp2_with fail
          apply collapse
          case h =>
            intro rest
            go_region_law ((first
              | (refine step_run (by rfl) (.tmp 54) (.tmp 60) 42 (by rfl) _ _ (by rfl) (by rfl) hrun5 ?_)
              | fail))
            all_goals exact rest.out
          case pf =>
            go_wp2
            go_roundw
            case rel => exact ⟨k + 1, _, by omega, by go_num, hnx⟩
            case measure => simp [intOf]; omega
        · have hltz : ¬ (k : Int) < (pp : Int) := by omega
          obtain ⟨e0, e1, e2, e3, e4⟩ := cells5m hC.out.box
          obtain ⟨⟨j0, j0f⟩, ⟨j1, j1f⟩, ⟨j2, j2f⟩, ⟨j3, j3f⟩, ⟨j4, j4f⟩, hend⟩ := putT5 hC.out.res (.slice a1 rn c1) (.slice a2 nn c2) (.slice a3 ll c3) (.slice a4 pp c4) (.int .i64 st)
          have hKf : Kept (bxF w.heap.size) wr (((((wr.setCell ⟨w.heap.size + 1, 0, none⟩ (.slice a1 rn c1)).setCell ⟨w.heap.size + 1, 1, none⟩ (.slice a2 nn c2)).setCell ⟨w.heap.size + 1, 2, none⟩ (.slice a3 ll c3)).setCell ⟨w.heap.size + 1, 3, none⟩ (.slice a4 pp c4)).setCell ⟨w.heap.size + 1, 4, none⟩ (.int .i64 st)) := (((((Kept.refl _ wr).setCell (fun _ => .inr rfl)).setCell (fun _ => .inr rfl)).setCell (fun _ => .inr rfl)).setCell (fun _ => .inr rfl)).setCell (fun _ => .inr rfl)
          have hBf := bl_set (bl_set (bl_set (bl_set (bl_set hC.out.low (w.heap.size + 1) 0 (.slice a1 rn c1) (by omega)) (w.heap.size + 1) 1 (.slice a2 nn c2) (by omega)) (w.heap.size + 1) 2 (.slice a3 ll c3) (by omega)) (w.heap.size + 1) 3 (.slice a4 pp c4) (by omega)) (w.heap.size + 1) 4 (.int .i64 st) (by omega)
          obtain ⟨U1, hU1⟩ : ∃ x, wr.setCell ⟨w.heap.size + 1, 0, none⟩ (.slice a1 rn c1) = x := ⟨_, rfl⟩
          rw [hU1] at j1 j1f j2 j2f j3 j3f j4 j4f hend hKf hBf
          obtain ⟨U2, hU2⟩ : ∃ x, U1.setCell ⟨w.heap.size + 1, 1, none⟩ (.slice a2 nn c2) = x := ⟨_, rfl⟩
          rw [hU2] at j2 j2f j3 j3f j4 j4f hend hKf hBf
          obtain ⟨U3, hU3⟩ : ∃ x, U2.setCell ⟨w.heap.size + 1, 2, none⟩ (.slice a3 ll c3) = x := ⟨_, rfl⟩
          rw [hU3] at j3 j3f j4 j4f hend hKf hBf
          obtain ⟨U4, hU4⟩ : ∃ x, U3.setCell ⟨w.heap.size + 1, 3, none⟩ (.slice a4 pp c4) = x := ⟨_, rfl⟩
          rw [hU4] at j4 j4f hend hKf hBf
          obtain ⟨U5, hU5⟩ : ∃ x, U4.setCell ⟨w.heap.size + 1, 4, none⟩ (.int .i64 st) = x := ⟨_, rfl⟩
          rw [hU5] at hend hKf hBf
          obtain ⟨q0, q1, q2, q3, q4⟩ := cells5m hend
          have hG : Hid (GmV U5 (.slice a1 rn c1) (.slice a2 nn c2) (.slice a3 ll c3) (.slice a4 pp c4) g) := hid (by
            obtain ⟨g1, g2, g3⟩ := fin.out _ (hC.out.base.trans hKf)
            obtain ⟨h1, h2⟩ := hC.out.later (firmN g.prods) (by have := hq8H.out; omega) hKf
            rw [← hpp.out] at h1 h2 ⊢
            exact ⟨g1, g2, g3, prods_own h1 h2⟩)
          have hBf := hid hBf
          clear hend hKf fin hC hb6
          go_wp2
          refine bodyPost_ret (v := gmA (.slice a1 rn c1) (.slice a2 nn c2) (.slice a3 ll c3) (.slice a4 pp c4) st) (by simp [results, Tryz.results8, go_sem, q0, q1, q2, q3, q4]) rfl ?_
          exact ⟨_, _, _, _, rfl, hG.out, hBf.out⟩

end Go.Proofs.YtcledgljbmepaaaGreat
namespace Go.Proofs.YtcledgljbmepaaaGreat
open Go.RowKit Go.Maps Go.Sort

/-- blocks with a number, but 77, alone change -/
structure Chg (T T' : Nat → Nat) (w w' : World) : Prop where
  kept : Kept (fun b => T b ≠ 0 ∧ T b ≠ 77) w w'
  tag : ∀ b, b < w.heap.size → T' b = T b
/-- blocks that bear a number change -/
structure Sft (T T' : Nat → Nat) (w w' : World) : Prop where
  kept : Kept (fun b => T b ≠ 0) w w'
  tag : ∀ b, b < w.heap.size → T' b = T b
theorem Chg.sft {T T' : Nat → Nat} {w w' : World} (h : Chg T T' w w') : Sft T T' w w' := ⟨h.kept.mono (fun _ _ h => h.1), h.tag⟩
theorem Sft.of_kept {F : Nat → Prop} {T : Nat → Nat} {w w' : World} (h : Kept F w w') (hF : ∀ b, F b → T b ≠ 0) : Sft T T w w' := ⟨h.mono (fun k _ h => hF k h), fun _ _ => rfl⟩
theorem Chg.refl (T : Nat → Nat) (w : World) : Chg T T w w := ⟨Kept.refl _ _, fun _ _ => rfl⟩
theorem Chg.trans {T T' T'' : Nat → Nat} {w u v : World} (h : Chg T T' w u) (h2 : Chg T' T'' u v) : Chg T T'' w v :=
  ⟨h.kept.step h2.kept (fun k hk hn => by rw [h.tag k hk] at hn; exact hn), fun b hb => (h2.tag b (Nat.lt_of_lt_of_le hb h.kept.size)).trans (h.tag b hb)⟩
theorem Chg.of_below {T : Nat → Nat} {w w' : World} (h : Below w.heap.size w w') : Chg T T w w' := ⟨Kept.of_below h, fun _ _ => rfl⟩
/-- a block that never changes -/
def Im (T : Nat → Nat) (w : World) (b : Nat) (o : Obj) : Prop := T b = 0 ∧ w.heap[b]? = some o
theorem Im.sft {T T' : Nat → Nat} {w w' : World} {b : Nat} {o : Obj} (h : Im T w b o) (hc : Sft T T' w w') : Im T' w' b o := by
  have hb := blk_lt h.2
  exact ⟨(hc.tag b hb).trans h.1, (hc.kept.block b hb (fun hn => hn h.1)).trans h.2⟩
theorem Im.cell {T : Nat → Nat} {w : World} {b o : Nat} {cs : Array Value} {t : TypeId} {v : Value} (h : Im T w b (.cells cs t (0, 0))) (hv : cs[o]? = some v) : w.cell? ⟨b, o, none⟩ = some v := blk_cell h.2 hv
/-- a row of the reader's own, in a block that bears the number i -/
def OwnI (w : World) (B : Nat) (T : Nat → Nat) (i : Nat) (te : TypeId) (sz : Nat) (v : Value) (n : Nat) (xs : List Value) : Prop := w.ownsRow B te sz v n xs ∧ ∀ b, v.ownBlock = some b → T b = i
theorem OwnI.kept {w w' : World} {B i sz n : Nat} {T T' : Nat → Nat} {te : TypeId} {v : Value} {xs : List Value} {F : Nat → Prop} (h : OwnI w B T i te sz v n xs) (hk : Kept F w w') (hF : ∀ b, F b → T b ≠ i) (ht : ∀ b, b < w.heap.size → T' b = T b) : OwnI w' B T' i te sz v n xs :=
  ⟨own_kept h.1 hk (fun k e hf => hF k hf (h.2 k e)), fun b e => (ht b (h.1.lt b e).2).trans (h.2 b e)⟩
/-- words that are still to be read -/
def Wd3 (w : World) (b o : Nat) (x : Wd) : Prop := w.cell? ⟨b, o, none⟩ = some (.int .i64 (x.1 : Int)) ∧ w.cell? ⟨b, o + 1, none⟩ = some (.int .i64 (x.2.1 : Int)) ∧ w.cell? ⟨b, o + 2, none⟩ = some (.string (strT x.2.2))
def WsV (T : Nat → Nat) (w : World) (v : Value) (ws : List Wd) : Prop := ∃ b o cap, v = .slice (some ⟨b, o, none⟩) ws.length cap ∧ ws.length ≤ cap ∧ T b = 0 ∧ b < w.heap.size ∧ ∀ j (h : j < ws.length), Wd3 w b (o + j * 3) ws[j]
theorem WsV.sft {T T' : Nat → Nat} {w w' : World} {v : Value} {ws : List Wd} (h : WsV T w v ws) (hc : Sft T T' w w') : WsV T' w' v ws := by
  obtain ⟨b, o, cap, e, h1, h2, h3, h4⟩ := h
  refine ⟨b, o, cap, e, h1, (hc.tag b h3).trans h2, Nat.lt_of_lt_of_le h3 hc.kept.size, fun j hj => ?_⟩
  obtain ⟨x0, x1, x2⟩ := h4 j hj
  exact ⟨hc.kept.cell x0 h3 (fun hn => hn h2), hc.kept.cell x1 h3 (fun hn => hn h2), hc.kept.cell x2 h3 (fun hn => hn h2)⟩
/-- cells of a rule that never change -/
def ImC (T : Nat → Nat) (w : World) (v : Value) (l : List Cel) : Prop := Cels w v l ∧ OffP (fun b => T b ≠ 0) v
theorem ImC.sft {T T' : Nat → Nat} {w w' : World} {v : Value} {l : List Cel} (h : ImC T w v l) (hc : Sft T T' w w') : ImC T' w' v l := by
  refine ⟨h.1.keptP hc.kept h.2, fun a n c e hn hf => ?_⟩
  refine h.2 a n c e hn ?_
  obtain ⟨a', cap, e', _, _, _, hat⟩ := h.1
  rw [e] at e'
  injection e' with e1 e2 e3
  subst e2
  obtain ⟨b, o, e4, hlt, _⟩ := hat 0 hn
  rw [e4] at e1
  injection e1 with e1
  subst e1
  exact fun hz => hf ((hc.tag b hlt).trans hz)
/-- a rule's cells: a slice; where nothing is wrong, the cells that it says -/
def RuC (T : Nat → Nat) (w : World) (er : Int) (v : Value) (l : List Cel) : Prop := (∃ a m c, v = .slice a m c) ∧ (er = 0 → ImC T w v l)
theorem RuC.sft {T T' : Nat → Nat} {w w' : World} {er : Int} {v : Value} {l : List Cel} (h : RuC T w er v l) (hc : Sft T T' w w') : RuC T' w' er v l := ⟨h.1, fun e => (h.2 e).sft hc⟩
theorem RuC.err {T : Nat → Nat} {w : World} {er er' : Int} {v : Value} {l : List Cel} (h : RuC T w er v l) (he : er' = 0 → er = 0) : RuC T w er' v l := ⟨h.1, fun e => h.2 (he e)⟩
/-- what is left to be done, as a function -/
abbrev boxR (rb : Nat) : Obj := .cells #[.pointer (some ⟨rb, 0, none⟩)] 81
abbrev boxW (x : Wd) : Obj := .cells #[.int .i64 (x.1 : Int), .int .i64 (x.2.1 : Int), .string (strT x.2.2)] 52
abbrev boxN (n : Nat) : Obj := .cells #[.int .i64 (n : Int)] 3
abbrev boxL (p s : Nat) : Obj := .cells #[.int .i64 (p : Int), .int .i64 (s : Int)] 105
abbrev boxB (b : Bool) : Obj := .cells #[.bool b] 4
abbrev ptr0 (b : Nat) : Value := .pointer (some ⟨b, 0, none⟩)
def StpV (T : Nat → Nat) (w : World) (rb : Nat) (v : Value) (s : Stp) : Prop :=
  (s.k = 1 ∧ ∃ p q, v = .func (.func 58) #[] #[ptr0 p, ptr0 q] ∧ Im T w p (boxR rb) ∧ Im T w q (boxW s.w)) ∨
  (s.k = 2 ∧ ∃ p q l, v = .func (.func 61) #[] #[ptr0 p, ptr0 q, ptr0 l] ∧ Im T w p (boxR rb) ∧ Im T w q (boxW s.w) ∧ Im T w l (boxL s.a s.b)) ∨
  (s.k = 3 ∧ ∃ l, v = .func (.func 45) #[] #[ptr0 l] ∧ Im T w l (boxB (decide (s.a ≠ 0)))) ∨
  (s.k = 4 ∧ ∃ p q, v = .func (.func 46) #[] #[ptr0 p, ptr0 q] ∧ Im T w p (boxR rb) ∧ Im T w q (boxW s.w)) ∨
  (s.k = 5 ∧ ∃ p l q, v = .func (.func 71) #[] #[ptr0 p, ptr0 l, ptr0 q] ∧ Im T w p (boxR rb) ∧ Im T w q (boxW s.w) ∧ Im T w l (boxN s.a)) ∨
  (s.k = 6 ∧ ∃ p q l, v = .func (.func 72) #[] #[ptr0 p, ptr0 q, ptr0 l] ∧ Im T w p (boxR rb) ∧ Im T w q (boxW s.w) ∧ Im T w l (boxN s.a))
theorem StpV.sft {T T' : Nat → Nat} {w w' : World} {rb : Nat} {v : Value} {s : Stp} (h : StpV T w rb v s) (hc : Sft T T' w w') : StpV T' w' rb v s := by
  rcases h with ⟨h, p, q, e, h1, h2⟩ | ⟨h, p, q, l, e, h1, h2, h3⟩ | ⟨h, l, e, h3⟩ | ⟨h, p, q, e, h1, h2⟩ | ⟨h, p, l, q, e, h1, h2, h3⟩ | ⟨h, p, q, l, e, h1, h2, h3⟩
  · exact .inl ⟨h, p, q, e, h1.sft hc, h2.sft hc⟩
  · exact .inr (.inl ⟨h, p, q, l, e, h1.sft hc, h2.sft hc, h3.sft hc⟩)
  · exact .inr (.inr (.inl ⟨h, l, e, h3.sft hc⟩))
  · exact .inr (.inr (.inr (.inl ⟨h, p, q, e, h1.sft hc, h2.sft hc⟩)))
  · exact .inr (.inr (.inr (.inr (.inl ⟨h, p, l, q, e, h1.sft hc, h2.sft hc, h3.sft hc⟩))))
  · exact .inr (.inr (.inr (.inr (.inr ⟨h, p, q, l, e, h1.sft hc, h2.sft hc, h3.sft hc⟩))))
theorem Im.keep {T T' : Nat → Nat} {w w' : World} {b : Nat} {o : Obj} (h : Im T w b o) (hc : Chg T T' w w') : Im T' w' b o := h.sft hc.sft
theorem WsV.keep {T T' : Nat → Nat} {w w' : World} {v : Value} {ws : List Wd} (h : WsV T w v ws) (hc : Chg T T' w w') : WsV T' w' v ws := h.sft hc.sft
theorem ImC.keep {T T' : Nat → Nat} {w w' : World} {v : Value} {l : List Cel} (h : ImC T w v l) (hc : Chg T T' w w') : ImC T' w' v l := h.sft hc.sft
theorem RuC.keep {T T' : Nat → Nat} {w w' : World} {er : Int} {v : Value} {l : List Cel} (h : RuC T w er v l) (hc : Chg T T' w w') : RuC T' w' er v l := h.sft hc.sft
theorem StpV.keep {T T' : Nat → Nat} {w w' : World} {rb : Nat} {v : Value} {s : Stp} (h : StpV T w rb v s) (hc : Chg T T' w w') : StpV T' w' rb v s := h.sft hc.sft
theorem StpV.oneCell {T : Nat → Nat} {w : World} {rb : Nat} {v : Value} {s : Stp} (h : StpV T w rb v s) : v.oneCell' = true := by
  rcases h with ⟨_, p, q, rfl, _⟩ | ⟨_, p, q, l, rfl, _⟩ | ⟨_, l, rfl, _⟩ | ⟨_, p, q, rfl, _⟩ | ⟨_, p, l, q, rfl, _⟩ | ⟨_, p, q, l, rfl, _⟩ <;> rfl
/-- the slices of the reader; of its rules their cells' slices; of what is left to be done the functions -/
structure RX where
  wv : Value
  rv : Value
  nv : Value
  pv : Value
  sk : Value
  te : Value
  no : Value
  la : Value
  rl : List Value
  fl : List Value
abbrev rdO (X : RX) (lc sc : Nat) (pl : Nat) (er : Int) : Obj := .cells #[X.wv, X.rv, X.nv, .slice none 0 0, X.pv, .int .i64 0, .int .i64 (lc : Int), .int .i64 (sc : Int), X.sk, X.te, X.no, .int .u32 0, .int .i32 0, .int .u32 0, .map none, X.la, .int .i64 (pl : Int), .int .i64 er] 70
def rlV (r : Rl) (v : Value) : List Value := [.string (strT r.name), v, .bool r.skip]
def pdV (l : Nat) : List Value := [.int .i64 (l : Int), .slice none 0 0, .int .i64 0]
def spV (s : Stp) (v : Value) : List Value := [.int .i64 (s.w.2.1 : Int), v]
/-- the end stands last -/
def Endd (ws : List Wd) : Prop := ∃ l p, ws = l ++ [(0, p, [])]
theorem Endd.ne {ws : List Wd} (h : Endd ws) : ws ≠ [] := by obtain ⟨l, p, rfl⟩ := h; simp
theorem Endd.two {ws : List Wd} (h : Endd ws) (hk : (ws.headD (0, 0, [])).1 ≠ 0) : 2 ≤ ws.length := by
  obtain ⟨l, p, rfl⟩ := h
  cases l with
  | nil => exact absurd rfl hk
  | cons a l => rw [List.length_append, List.length_cons, List.length_singleton]; omega
theorem Endd.tail {ws : List Wd} (h : Endd ws) (h2 : 2 ≤ ws.length) : Endd ws.tail := by
  obtain ⟨l, p, rfl⟩ := h
  cases l with
  | nil => simp at h2
  | cons a l => exact ⟨l, p, rfl⟩
structure RdV (B : Nat) (T : Nat → Nat) (w : World) (rb : Nat) (X : RX) (st : RS) : Prop where
  blk : w.heap[rb]? = some (rdO X st.levels st.starts st.pl st.err)
  rt : T rb = 99
  own : ∀ b, T b ≠ 0 → B ≤ b ∧ b < w.heap.size
  base : B ≤ w.heap.size
  words : WsV T w X.wv st.ws
  wf : Endd st.ws
  rules : OwnI w B T 1 40 3 X.rv st.rules.length ((st.rules.zip X.rl).flatMap fun x => rlV x.1 x.2)
  rlen : X.rl.length = st.rules.length
  rre : ∀ x ∈ st.rules.zip X.rl, RuC T w st.err x.2 x.1.re
  nonts : OwnI w B T 2 9 1 X.nv st.nonts.length (st.nonts.flatMap csT)
  prods : OwnI w B T 4 44 3 X.pv st.prods.length (st.prods.flatMap pdV)
  skips : OwnI w B T 8 52 3 X.sk st.skips.length (st.skips.flatMap wdV)
  terms : OwnI w B T 9 52 3 X.te st.terms.length (st.terms.flatMap wdV)
  nons : OwnI w B T 10 52 3 X.no st.nons.length (st.nons.flatMap wdV)
  later : OwnI w B T 15 84 2 X.la st.later.length ((st.later.zip X.fl).flatMap fun x => spV x.1 x.2)
  flen : X.fl.length = st.later.length
  fst : ∀ x ∈ st.later.zip X.fl, StpV T w rb x.2 x.1
theorem RdV.keep {B rb : Nat} {T : Nat → Nat} {w w' : World} {X : RX} {st : RS} (h : RdV B T w rb X st) (hb : Below w.heap.size w w') : RdV B T w' rb X st := by
  have hk : Kept (fun _ => False) w w' := Kept.of_below hb
  have hc : Chg T T w w' := Chg.of_below hb
  have ht : ∀ b, b < w.heap.size → T b = T b := fun _ _ => rfl
  have hF : ∀ i b, False → T b ≠ i := fun _ _ h => h.elim
  exact ⟨hs_keep h.blk hb, h.rt, fun b hn => ⟨(h.own b hn).1, Nat.lt_of_lt_of_le (h.own b hn).2 hb.size⟩, Nat.le_trans h.base hb.size, h.words.keep hc, h.wf, h.rules.kept hk (hF 1) ht, h.rlen, fun x hx => (h.rre x hx).keep hc, h.nonts.kept hk (hF 2) ht, h.prods.kept hk (hF 4) ht, h.skips.kept hk (hF 8) ht, h.terms.kept hk (hF 9) ht, h.nons.kept hk (hF 10) ht, h.later.kept hk (hF 15) ht, h.flen, fun x hx => (h.fst x hx).keep hc⟩
theorem RdV.below {B rb : Nat} {T T' : Nat → Nat} {w w' : World} {X : RX} {st : RS} (h : RdV B T w rb X st) (hc : Chg T T' w w') : Below B w w' := hc.kept.below (fun k hk => (h.own k hk.1).1) h.base
theorem RdV.fresh {B rb b : Nat} {T : Nat → Nat} {w : World} {X : RX} {st : RS} (h : RdV B T w rb X st) (hb : w.heap.size ≤ b) : T b = 0 := by
  rcases Nat.eq_zero_or_pos (T b) with h1 | h1
  · exact h1
  · have := (h.own b (by omega)).2
    omega
/-- the reader's block is stored into, or what bears the number 77 -/
theorem RdV.put {B rb : Nat} {T : Nat → Nat} {w F : World} {X X' : RX} {st st' : RS} (h : RdV B T w rb X st) (hk : Kept (fun b => b = rb ∨ T b = 77) w F)
    (hblk : F.heap[rb]? = some (rdO X' st'.levels st'.starts st'.pl st'.err)) (hws : WsV T F X'.wv st'.ws) (hwf : Endd st'.ws)
    (e1 : st'.rules = st.rules) (e2 : st'.nonts = st.nonts) (e3 : st'.prods = st.prods) (e4 : st'.skips = st.skips) (e5 : st'.terms = st.terms) (e6 : st'.nons = st.nons) (e7 : st'.later = st.later) (e8 : st'.err = 0 → st.err = 0)
    (f1 : X'.rv = X.rv) (f2 : X'.nv = X.nv) (f3 : X'.pv = X.pv) (f4 : X'.sk = X.sk) (f5 : X'.te = X.te) (f6 : X'.no = X.no) (f7 : X'.la = X.la) (f8 : X'.rl = X.rl) (f9 : X'.fl = X.fl) :
    RdV B T F rb X' st' := by
  have hc : Sft T T w F := Sft.of_kept hk (fun b e => by rcases e with e | e <;> rw [e] <;> (try rw [h.rt]) <;> decide)
  have ht : ∀ b, b < w.heap.size → T b = T b := fun _ _ => rfl
  have hF : ∀ i, i ≠ 99 → i ≠ 77 → ∀ b, b = rb ∨ T b = 77 → T b ≠ i := fun i hi hj b e => by
    rcases e with e | e
    · rw [e, h.rt]; exact hi.symm
    · rw [e]; exact hj.symm
  refine ⟨hblk, h.rt, fun b hn => ⟨(h.own b hn).1, Nat.lt_of_lt_of_le (h.own b hn).2 hk.size⟩, Nat.le_trans h.base hk.size, hws, hwf, ?_, ?_, ?_, ?_, ?_, ?_, ?_, ?_, ?_, ?_, ?_⟩
  · rw [e1, f1, f8]; exact h.rules.kept hk (hF 1 (by decide) (by decide)) ht
  · rw [e1, f8]; exact h.rlen
  · rw [e1, f8]; exact fun x hx => ((h.rre x hx).sft hc).err e8
  · rw [e2, f2]; exact h.nonts.kept hk (hF 2 (by decide) (by decide)) ht
  · rw [e3, f3]; exact h.prods.kept hk (hF 4 (by decide) (by decide)) ht
  · rw [e4, f4]; exact h.skips.kept hk (hF 8 (by decide) (by decide)) ht
  · rw [e5, f5]; exact h.terms.kept hk (hF 9 (by decide) (by decide)) ht
  · rw [e6, f6]; exact h.nons.kept hk (hF 10 (by decide) (by decide)) ht
  · rw [e7, f7, f9]; exact h.later.kept hk (hF 15 (by decide) (by decide)) ht
  · rw [e7, f9]; exact h.flen
  · rw [e7, f9]; exact fun x hx => (h.fst x hx).sft hc
/-- nothing but what bears the number 77 has changed; numbers may, where nothing of the reader is -/
theorem OwnI.mv {w w' : World} {B i sz n : Nat} {T T' : Nat → Nat} {te : TypeId} {v : Value} {xs : List Value} (h : OwnI w B T i te sz v n xs) (hk : Kept (fun b => T b = 77) w w') (hi : i ≠ 77) (ht : ∀ b, b < w.heap.size → T b ≠ 77 → T' b = T b) : OwnI w' B T' i te sz v n xs :=
  ⟨own_kept h.1 hk (fun k e hf => hi ((h.2 k e).symm.trans hf)), fun b e => (ht b (h.1.lt b e).2 (by rw [h.2 b e]; exact hi)).trans (h.2 b e)⟩
theorem Im.mv {T T' : Nat → Nat} {w w' : World} {b : Nat} {o : Obj} (h : Im T w b o) (hk : Kept (fun b => T b = 77) w w') (ht : ∀ b, b < w.heap.size → T b ≠ 77 → T' b = T b) : Im T' w' b o := by
  have hb := blk_lt h.2
  have h7 : T b ≠ 77 := by rw [h.1]; decide
  exact ⟨(ht b hb h7).trans h.1, (hk.block b hb h7).trans h.2⟩
theorem StpV.mv {T T' : Nat → Nat} {w w' : World} {rb : Nat} {v : Value} {s : Stp} (h : StpV T w rb v s) (hk : Kept (fun b => T b = 77) w w') (ht : ∀ b, b < w.heap.size → T b ≠ 77 → T' b = T b) : StpV T' w' rb v s := by
  rcases h with ⟨h, p, q, e, h1, h2⟩ | ⟨h, p, q, l, e, h1, h2, h3⟩ | ⟨h, l, e, h3⟩ | ⟨h, p, q, e, h1, h2⟩ | ⟨h, p, l, q, e, h1, h2, h3⟩ | ⟨h, p, q, l, e, h1, h2, h3⟩
  · exact .inl ⟨h, p, q, e, h1.mv hk ht, h2.mv hk ht⟩
  · exact .inr (.inl ⟨h, p, q, l, e, h1.mv hk ht, h2.mv hk ht, h3.mv hk ht⟩)
  · exact .inr (.inr (.inl ⟨h, l, e, h3.mv hk ht⟩))
  · exact .inr (.inr (.inr (.inl ⟨h, p, q, e, h1.mv hk ht, h2.mv hk ht⟩)))
  · exact .inr (.inr (.inr (.inr (.inl ⟨h, p, l, q, e, h1.mv hk ht, h2.mv hk ht, h3.mv hk ht⟩))))
  · exact .inr (.inr (.inr (.inr (.inr ⟨h, p, q, l, e, h1.mv hk ht, h2.mv hk ht, h3.mv hk ht⟩))))
theorem ImC.mv {T T' : Nat → Nat} {w w' : World} {v : Value} {l : List Cel} (h : ImC T w v l) (hk : Kept (fun b => T b = 77) w w') (ht : ∀ b, b < w.heap.size → T b ≠ 77 → T' b = T b) : ImC T' w' v l := by
  refine ⟨h.1.keptP hk (fun a n c e hn hf => h.2 a n c e hn (by show T a.block ≠ 0; rw [hf]; decide)), fun a n c e hn hf => ?_⟩
  have h0 := h.2 a n c e hn
  obtain ⟨a', cap, e', _, _, _, hat⟩ := h.1
  rw [e] at e'
  injection e' with e1 e2 e3
  subst e2
  obtain ⟨b, o, e4, hlt, _⟩ := hat 0 hn
  rw [e4] at e1
  injection e1 with e1
  subst e1
  have hz : T b = 0 := by
    rcases Nat.eq_zero_or_pos (T b) with h9 | h9
    · exact h9
    · exact absurd (show T b ≠ 0 by omega) h0
  exact hf ((ht b hlt (by rw [hz]; decide)).trans hz)
theorem RuC.mv {T T' : Nat → Nat} {w w' : World} {er : Int} {v : Value} {l : List Cel} (h : RuC T w er v l) (hk : Kept (fun b => T b = 77) w w') (ht : ∀ b, b < w.heap.size → T b ≠ 77 → T' b = T b) : RuC T' w' er v l := ⟨h.1, fun e => (h.2 e).mv hk ht⟩
theorem RdV.mv {B rb : Nat} {T T' : Nat → Nat} {w F : World} {X : RX} {st : RS} (h : RdV B T w rb X st) (hk : Kept (fun b => T b = 77) w F) (ht : ∀ b, b < w.heap.size → T b ≠ 77 → T' b = T b) (ho : ∀ b, T' b ≠ 0 → B ≤ b ∧ b < F.heap.size) : RdV B T' F rb X st := by
  have hr := blk_lt h.blk
  have h7 : T rb ≠ 77 := by rw [h.rt]; decide
  refine ⟨hk.blk h.blk h7, (ht rb hr h7).trans h.rt, ho, Nat.le_trans h.base hk.size, ?_, h.wf, h.rules.mv hk (by decide) ht, h.rlen, fun x hx => (h.rre x hx).mv hk ht, h.nonts.mv hk (by decide) ht, h.prods.mv hk (by decide) ht, h.skips.mv hk (by decide) ht, h.terms.mv hk (by decide) ht, h.nons.mv hk (by decide) ht, h.later.mv hk (by decide) ht, h.flen, fun x hx => (h.fst x hx).mv hk ht⟩
  obtain ⟨b, o, cap, e, h1, h2, h3, h4⟩ := h.words
  have h8 : T b ≠ 77 := by rw [h2]; decide
  refine ⟨b, o, cap, e, h1, (ht b h3 h8).trans h2, Nat.lt_of_lt_of_le h3 hk.size, fun j hj => ?_⟩
  obtain ⟨x0, x1, x2⟩ := h4 j hj
  exact ⟨hk.cell x0 h3 h8, hk.cell x1 h3 h8, hk.cell x2 h3 h8⟩
/-- the number i for block q -/
def tagT (T : Nat → Nat) (q i : Nat) : Nat → Nat := fun b => if b = q then i else T b
/-- a block of the caller's own is set aside -/
theorem RdV.aside {B rb q : Nat} {T : Nat → Nat} {w F : World} {X : RX} {st : RS} (h : RdV B T w rb X st) (hb : Below w.heap.size w F) (h1 : w.heap.size ≤ q) (h2 : q < F.heap.size) : RdV B (tagT T q 77) F rb X st ∧ Chg T (tagT T q 77) w F := by
  have ht : ∀ b, b < w.heap.size → tagT T q 77 b = T b := fun b hb9 => if_neg (by omega)
  refine ⟨h.mv (Kept.of_below hb) (fun b hb9 _ => ht b hb9) (fun b hn => ?_), Kept.of_below hb, ht⟩
  unfold tagT at hn
  split at hn
  · rename_i e; subst e; exact ⟨Nat.le_trans h.base h1, h2⟩
  · exact ⟨(h.own b hn).1, Nat.lt_of_lt_of_le (h.own b hn).2 hb.size⟩
/-- .. and changed -/
theorem RdV.wrote {B rb q : Nat} {T : Nat → Nat} {w F : World} {X : RX} {st : RS} (h : RdV B (tagT T q 77) w rb X st) (hk : Kept (oneBlk q) w F) (h0 : T q = 0) : RdV B T F rb X st := by
  have hq : tagT T q 77 q = 77 := if_pos rfl
  refine h.mv (hk.mono (fun b _ e => by rw [show b = q from e, hq])) (fun b _ h7 => ?_) (fun b hn => ?_)
  · have : b ≠ q := fun e => h7 (by rw [e, hq])
    exact (if_neg this).symm
  · have hb : b ≠ q := fun e => hn (by rw [e, h0])
    have e9 : tagT T q 77 b = T b := if_neg hb
    have := h.own b (by rw [e9]; exact hn)
    exact ⟨this.1, Nat.lt_of_lt_of_le this.2 hk.size⟩
theorem RdV.chg1 {B rb : Nat} {T : Nat → Nat} {w F : World} {X : RX} {st : RS} (h : RdV B T w rb X st) (hk : Kept (oneBlk rb) w F) : Chg T T w F :=
  ⟨hk.mono (fun k _ e => by rw [show k = rb from e, h.rt]; decide), fun _ _ => rfl⟩
/-- the words behind a move -/
theorem RdV.ws1 {B rb : Nat} {T : Nat → Nat} {w F : World} {X : RX} {st : RS} (h : RdV B T w rb X st) (hk : Kept (oneBlk rb) w F) : WsV T F X.wv st.ws := h.words.keep (h.chg1 hk)
/-- the reader behind a call -/
def RdP (B : Nat) (T : Nat → Nat) (w : World) (rb : Nat) (st : RS) (w' : World) : Prop := ∃ T' X', RdV B T' w' rb X' st ∧ Chg T T' w w'
theorem rd18 {w : World} {b : Nat} {x0 x1 x2 x3 x4 x5 x6 x7 x8 x9 x10 x11 x12 x13 x14 x15 x16 x17 : Value} {T : TypeId} (h : w.heap[b]? = some (.cells #[x0, x1, x2, x3, x4, x5, x6, x7, x8, x9, x10, x11, x12, x13, x14, x15, x16, x17] T (0, 0))) :
    w.cell? ⟨b, 0, none⟩ = some x0 ∧ w.cell? ⟨b, 1, none⟩ = some x1 ∧ w.cell? ⟨b, 2, none⟩ = some x2 ∧ w.cell? ⟨b, 3, none⟩ = some x3 ∧ w.cell? ⟨b, 4, none⟩ = some x4 ∧ w.cell? ⟨b, 5, none⟩ = some x5 ∧ w.cell? ⟨b, 6, none⟩ = some x6 ∧ w.cell? ⟨b, 7, none⟩ = some x7 ∧ w.cell? ⟨b, 8, none⟩ = some x8 ∧ w.cell? ⟨b, 9, none⟩ = some x9 ∧ w.cell? ⟨b, 10, none⟩ = some x10 ∧ w.cell? ⟨b, 15, none⟩ = some x15 ∧ w.cell? ⟨b, 16, none⟩ = some x16 ∧ w.cell? ⟨b, 17, none⟩ = some x17 :=
  ⟨blk_cell h rfl, blk_cell h rfl, blk_cell h rfl, blk_cell h rfl, blk_cell h rfl, blk_cell h rfl, blk_cell h rfl, blk_cell h rfl, blk_cell h rfl, blk_cell h rfl, blk_cell h rfl, blk_cell h rfl, blk_cell h rfl, blk_cell h rfl⟩

end Go.Proofs.YtcledgljbmepaaaGreat
