/- Slices of cells: own ones, appended ones. Texts as Go has them. Slices of truths; what fitsAt answers. The reference: Has. -/
import Derived.Test.YtonlcnmlklaicaaGreatDoorJ2
import Derived.Test.YtonlcnmlklaicaaGreatDoorJ5
import Derived.Test.YtonlcnmlklaicaaGreatDoorJ3
import Derived.Test.YtonlcnmlklaicaaGreatDoorJ4
import Derived.Test.YtonlcnmlklaicaaGreatDoorJ1
import Derived.Laws.AppendOwnNone
import Derived.Laws.OwnMore
import Derived.Laws.BytesString
import Derived.BigQuiet
import Derived.OwnWalk
namespace Go.Proofs.YtonlcnmlklaicaaGreatDoor
open Go.RowKit

def cellsC (c : Cel) : List Value := [.int .i64 c.op, .int .u64 (c.s.a : Int), .int .u64 (c.s.b : Int), .int .u64 (c.s.c : Int), .int .u64 (c.s.d : Int)]
def flatC (l : List Cel) : List Value := l.flatMap cellsC
theorem flatC_app (l m : List Cel) : flatC (l ++ m) = flatC l ++ flatC m := by unfold flatC; rw [List.flatMap_append]
theorem flatC_len : ∀ l : List Cel, (flatC l).length = l.length * 5
  | [] => rfl
  | c :: t => by
    have ih := flatC_len t
    unfold flatC at ih ⊢
    rw [List.flatMap_cons, List.length_append, ih, List.length_cons]
    simp [cellsC]
    omega
def cellV (c : Cel) : Nat → Value
  | 0 => .int .i64 c.op
  | 1 => .int .u64 (c.s.a : Int)
  | 2 => .int .u64 (c.s.b : Int)
  | 3 => .int .u64 (c.s.c : Int)
  | _ => .int .u64 (c.s.d : Int)
theorem flatC_at : ∀ (l : List Cel) (j i : Nat) (hj : j < l.length), i < 5 → (flatC l)[j * 5 + i]? = some (cellV l[j] i)
  | c :: t, 0, i, _, hi => by
    have h5 : i = 0 ∨ i = 1 ∨ i = 2 ∨ i = 3 ∨ i = 4 := by omega
    rcases h5 with rfl | rfl | rfl | rfl | rfl <;> rfl
  | c :: t, j + 1, i, hj, hi => by
    have ih := flatC_at t j i (by simpa using hj) hi
    unfold flatC at ih ⊢
    rw [List.flatMap_cons, show (j + 1) * 5 + i = 5 + (j * 5 + i) by omega, List.getElem?_append_right (by simp [cellsC])]
    simpa [cellsC] using ih
theorem at5_of {w : World} {b o : Nat} {c : Cel} (h : ∀ i, i < 5 → w.cell? ⟨b, o + i, none⟩ = some (cellV c i)) : At5 w b o c := ⟨h 0 (by omega), h 1 (by omega), h 2 (by omega), h 3 (by omega), h 4 (by omega)⟩
theorem At5.word {w : World} {b o : Nat} {c : Cel} (h : At5 w b o c) (i : Nat) (hi : i < 5) : w.cell? ⟨b, o + i, none⟩ = some (cellV c i) := by
  have h5 : i = 0 ∨ i = 1 ∨ i = 2 ∨ i = 3 ∨ i = 4 := by omega
  rcases h5 with rfl | rfl | rfl | rfl | rfl
  · exact h.1
  · exact h.2.1
  · exact h.2.2.1
  · exact h.2.2.2.1
  · exact h.2.2.2.2
abbrev OwnC (w : World) (B : Nat) (v : Value) (l : List Cel) : Prop := w.ownsRow B 67 5 v l.length (flatC l)
theorem own_keep {w w' : World} {base size n : Nat} {e : TypeId} {v : Value} {xs : List Value} (h : w.ownsRow base e size v n xs) (hb : ∀ k, v.ownBlock = some k → w'.heap[k]? = w.heap[k]?) : w'.ownsRow base e size v n xs := by
  rcases h.2 with ⟨rfl, h0⟩ | ⟨g, cap, cur, rfl, h1, h2, h3⟩
  · exact ⟨h.1, .inl ⟨rfl, h0⟩⟩
  · exact ⟨h.1, .inr ⟨g, cap, cur, rfl, h1, (hb g rfl).trans h2, h3⟩⟩
theorem own_below {w w' : World} {base size n : Nat} {e : TypeId} {v : Value} {xs : List Value} (h : w.ownsRow base e size v n xs) (hb : Below w.heap.size w w') : w'.ownsRow base e size v n xs :=
  own_keep h fun k hk => hb.block k (h.lt k hk).2
theorem Cels.of_own {w : World} {B : Nat} {v : Value} {l : List Cel} (h : OwnC w B v l) (hf : ∀ c ∈ l, FitC c) : Cels w v l := by
  have h' := h
  rcases h.2 with ⟨rfl, h0⟩ | ⟨g, cap, cur, rfl, _, _, hc, _⟩
  · exact ⟨none, 0, by rw [h0], by omega, fun _ => rfl, hf, fun j hj => absurd hj (by omega)⟩
  · refine ⟨_, cap, rfl, hc, fun h => (by cases h), hf, fun j hj => ⟨g, 0, rfl, (h'.lt g rfl).2, at5_of fun i hi => ?_⟩⟩
    have := h'.cells rfl (j * 5 + i) _ (flatC_at l j i hj hi)
    rw [Go.WideShapes.add_plain] at this
    rwa [Nat.add_assoc]
theorem Cels.news {w : World} {b o : Nat} {l : List Cel} (h : ∀ j (hj : j < l.length), At5 w b (o + j * 5) l[j]) : ∀ j u, (flatC l)[j]? = some u → w.cell? ((⟨b, o, none⟩ : Addr).add j) = some u := fun j u hu => by
  have hj : j < l.length * 5 := by
    rcases Nat.lt_or_ge j (l.length * 5) with h' | h'
    · exact h'
    · rw [List.getElem?_eq_none (by rw [flatC_len]; exact h')] at hu; cases hu
  have e : j = j / 5 * 5 + j % 5 := by omega
  have hq : j / 5 < l.length := by omega
  rw [e, flatC_at l (j / 5) (j % 5) hq (by omega)] at hu
  injection hu with hu
  subst hu
  rw [Go.WideShapes.add_plain]
  have := (h (j / 5) hq).word (j % 5) (by omega)
  rwa [Nat.add_assoc, ← e] at this
theorem Cels.parts {w : World} {v : Value} {l : List Cel} (h : Cels w v l) : (v = .slice none 0 0 ∧ l = []) ∨ ∃ ad cap, v = .slice (some ad) l.length cap ∧ ∀ j u, (flatC l)[j]? = some u → w.cell? (ad.add j) = some u := by
  obtain ⟨a, cap, rfl, hcap, hnil, _, hc⟩ := h
  cases a with
  | none =>
    have h0 := hnil rfl
    have hl : l = [] := List.length_eq_zero_iff.1 (by omega)
    subst hl
    exact Or.inl ⟨by rw [h0]; rfl, rfl⟩
  | some ad =>
    refine Or.inr ⟨ad, cap, rfl, ?_⟩
    by_cases h0 : l = []
    · subst h0; intro j u hu; simp [flatC] at hu
    · obtain ⟨b, o, e, _, _⟩ := hc 0 (List.length_pos_iff.2 h0)
      injection e with e
      subst e
      refine Cels.news fun j hj => ?_
      obtain ⟨b', o', e', _, h5⟩ := hc j hj
      injection e' with e'
      injection e' with e1 e2
      subst e1; subst e2
      exact h5
set_option maxRecDepth 20000 in
theorem Tryz.info67 : (Tryz.prog.info? 67).map (fun i => (i.zero, i.size, i.bytes)) = some (some (.agg #[.int .i64 0, .int .u64 0, .int .u64 0, .int .u64 0, .int .u64 0]), 5, 40) := by kernel_rfl
end Go.Proofs.YtonlcnmlklaicaaGreatDoor
namespace Go.Proofs.YtonlcnmlklaicaaGreatDoor
open Go.RowKit

/-- a text as Go has it -/
def strT (s : Txt) : ByteArray := ⟨s.toArray⟩
theorem strT_size (s : Txt) : (strT s).size = s.length := by simp [strT, ByteArray.size]
theorem strT_at (s : Txt) (k : Nat) (_h : k < (strT s).size) (h' : k < s.length) : (strT s)[k] = s[k] := by
  show s.toArray[k] = _
  simp
/-- all is as it was but for the blocks F, and for what is new -/
structure Kept (F : Nat → Prop) (w w' : World) : Prop where
  os : w'.os = w.os
  tape : w'.tape = w.tape
  output : w'.output = w.output
  size : w.heap.size ≤ w'.heap.size
  block : ∀ k, k < w.heap.size → ¬ F k → w'.heap[k]? = w.heap[k]?
def noBlk : Nat → Prop := fun _ => False
def oneBlk (b : Nat) : Nat → Prop := fun k => k = b
theorem blk_lt {w : World} {b : Nat} {x : Obj} (h : w.heap[b]? = some x) : b < w.heap.size := by
  rcases Nat.lt_or_ge b w.heap.size with h1 | h1
  · exact h1
  · rw [Array.getElem?_eq_none h1] at h; cases h
theorem blk_cell {w : World} {b : Nat} {cs : Array Value} {T : TypeId} {fr : Nat × Nat} (h : w.heap[b]? = some (.cells cs T fr)) {o : Nat} {v : Value} (hv : cs[o]? = some v) : w.cell? ⟨b, o, none⟩ = some v := by
  simp [World.cell?, h, hv]
theorem blk_frozen {w : World} {b : Nat} {cs : Array Value} {T : TypeId} (h : w.heap[b]? = some (.cells cs T (0, 0))) (o : Nat) : w.frozen? ⟨b, o, none⟩ = false := by
  simp [World.frozen?, h]
theorem Kept.refl (F : Nat → Prop) (w : World) : Kept F w w := ⟨rfl, rfl, rfl, Nat.le_refl _, fun _ _ _ => rfl⟩
theorem Kept.mono {F G : Nat → Prop} {w w' : World} (h : Kept F w w') (hFG : ∀ k, k < w.heap.size → F k → G k) : Kept G w w' :=
  ⟨h.os, h.tape, h.output, h.size, fun k hk hn => h.block k hk (fun hf => hn (hFG k hk hf))⟩
theorem Kept.step {F G : Nat → Prop} {w u v : World} (h : Kept F w u) (h2 : Kept G u v) (hG : ∀ k, k < w.heap.size → G k → F k) : Kept F w v :=
  ⟨h2.os.trans h.os, h2.tape.trans h.tape, h2.output.trans h.output, Nat.le_trans h.size h2.size, fun k hk hn =>
    (h2.block k (Nat.lt_of_lt_of_le hk h.size) (fun hg => hn (hG k hk hg))).trans (h.block k hk hn)⟩
theorem Kept.trans {F : Nat → Prop} {w u v : World} (h : Kept F w u) (h2 : Kept F u v) : Kept F w v := h.step h2 fun _ _ h => h
theorem Kept.of_below {w w' : World} (h : Below w.heap.size w w') {F : Nat → Prop} : Kept F w w' := ⟨h.os, h.tape, h.output, h.size, fun k hk _ => h.block k hk⟩
theorem Kept.none {w w' : World} (h : Kept noBlk w w') : Below w.heap.size w w' := ⟨h.os, h.tape, h.output, h.size, fun k hk => h.block k hk id⟩
theorem Kept.below {F : Nat → Prop} {N : Nat} {w w' : World} (h : Kept F w w') (hF : ∀ k, F k → N ≤ k) (hN : N ≤ w.heap.size) : Below N w w' :=
  ⟨h.os, h.tape, h.output, h.size, fun k hk => h.block k (Nat.lt_of_lt_of_le hk hN) fun hf => Nat.lt_irrefl k (Nat.lt_of_lt_of_le hk (hF k hf))⟩
theorem Kept.setCell {F : Nat → Prop} {w u : World} (h : Kept F w u) {a : Addr} {v : Value} (ha : a.block < w.heap.size → F a.block) : Kept F w (u.setCell a v) :=
  ⟨h.os, h.tape, h.output, by simpa using h.size, fun k hk hn => by
    rw [Below.heap_setCell u a v k (fun e => hn (e ▸ ha (e ▸ hk)))]; exact h.block k hk hn⟩
theorem Kept.blk {F : Nat → Prop} {w w' : World} (h : Kept F w w') {b : Nat} {x : Obj} (hx : w.heap[b]? = some x) (hn : ¬ F b) : w'.heap[b]? = some x := (h.block b (blk_lt hx) hn).trans hx

end Go.Proofs.YtonlcnmlklaicaaGreatDoor
namespace Go.Proofs.YtonlcnmlklaicaaGreatDoor
open Go.RowKit

/-- a slice holds these truths, wherever it lies -/
def Bls (w : World) (v : Value) (l : List Bool) : Prop := ∃ a cap, v = .slice a l.length cap ∧ l.length ≤ cap ∧ (a = none → cap = 0) ∧ ∀ j (h : j < l.length), ∃ b o, a = some ⟨b, o, none⟩ ∧ b < w.heap.size ∧ w.cell? ⟨b, o + j, none⟩ = some (.bool l[j])
theorem Bls.keep {w w' : World} {v : Value} {l : List Bool} (h : Bls w v l) (hb : Below w.heap.size w w') : Bls w' v l := by
  obtain ⟨a, cap, hv, hc, hn, hat⟩ := h
  refine ⟨a, cap, hv, hc, hn, fun j hj => ?_⟩
  obtain ⟨b, o, ha, hlt, h1⟩ := hat j hj
  exact ⟨b, o, ha, Nat.lt_of_lt_of_le hlt hb.size, keep_cell hb h1⟩
theorem Bls.shape {w : World} {v : Value} {l : List Bool} (h : Bls w v l) : ∃ a c, v = .slice a l.length c := by
  obtain ⟨a, c, e, _⟩ := h
  exact ⟨a, c, e⟩
abbrev OwnT (w : World) (B : Nat) (v : Value) (l : List Bool) : Prop := w.ownsRow B 4 1 v l.length (l.map Value.bool)
theorem Bls.of_own {w : World} {B : Nat} {v : Value} {l : List Bool} (h : OwnT w B v l) : Bls w v l := by
  have h' := h
  rcases h.2 with ⟨rfl, h0⟩ | ⟨g, cap, cur, rfl, _, _, hc, _⟩
  · exact ⟨none, 0, by rw [h0], by omega, fun _ => rfl, fun j hj => absurd hj (by omega)⟩
  · refine ⟨_, cap, rfl, hc, fun h => (by cases h), fun j hj => ⟨g, 0, rfl, (h'.lt g rfl).2, ?_⟩⟩
    have := h'.cells rfl j (.bool l[j]) (by simp [hj])
    rwa [Go.WideShapes.add_plain] at this
theorem OwnT.put {w : World} {B g c k : Nat} {l : List Bool} (x : Bool) (h : OwnT w B (.slice (some ⟨g, 0, none⟩) l.length c) l) : OwnT (w.setCell ⟨g, k, none⟩ (.bool x)) B (.slice (some ⟨g, 0, none⟩) l.length c) (l.set k x) := by
  have h1 := (h.stored k (.bool x)).1
  unfold OwnT
  rw [List.length_set, List.map_set]
  exact h1

/-- the first k of n truths told, the others false -/
def tabK (n k : Nat) (f : Nat → Bool) : List Bool := (List.range n).map fun i => decide (i < k) && f i
theorem tabK_len (n k : Nat) (f : Nat → Bool) : (tabK n k f).length = n := by simp [tabK]
theorem tabK_zero (n : Nat) (f : Nat → Bool) : tabK n 0 f = List.replicate n false := by
  apply List.ext_getElem (by simp [tabK])
  intro i h1 h2
  simp [tabK]
theorem tabK_one (n : Nat) (f : Nat → Bool) (h : f 0 = false) : tabK n 1 f = List.replicate n false := by
  apply List.ext_getElem (by simp [tabK])
  intro i h1 h2
  simp only [tabK, List.getElem_map, List.getElem_range, List.getElem_replicate]
  by_cases e : i = 0
  · subst e; simp [h]
  · have : ¬ i < 1 := by omega
    simp [this]
theorem tabK_step (n k : Nat) (f : Nat → Bool) : (tabK n k f).set k (f k) = tabK n (k + 1) f := by
  apply List.ext_getElem (by simp [tabK])
  intro i h1 h2
  rw [List.getElem_set]
  simp only [tabK, List.getElem_map, List.getElem_range]
  by_cases e : k = i
  · subst e; simp
  · rw [if_neg e]
    congr 1
    rw [decide_eq_decide]
    omega
theorem tabK_at {n k i : Nat} {f : Nat → Bool} (hn : n ≤ k) (hi : i < n) : (tabK n k f)[i]? = some (f i) := by
  unfold tabK
  rw [List.getElem?_map, List.getElem?_range hi]
  have : i < k := by omega
  simp [this]

/-- places that are on -/
def On (bs : List Bool) (j : Nat) : Prop := bs[j]? = some true
/-- the places come to by a rule -/
structure IsStp (t : Rx) (s : Txt) (bs bs' : List Bool) : Prop where
  len : bs'.length = s.length + 1
  on : ∀ i, i ≤ s.length → (On bs' i ↔ Stp t s (On bs) i)
theorem on_getD {bs : List Bool} {j : Nat} (h : j < bs.length) : On bs j ↔ bs[j] = true := by unfold On; rw [List.getElem?_eq_getElem h]; simp
theorem on_lt {bs : List Bool} {j : Nat} (h : On bs j) : j < bs.length := by
  unfold On at h
  rcases Nat.lt_or_ge j bs.length with h' | h'
  · exact h'
  · rw [List.getElem?_eq_none h'] at h; cases h
theorem stp_congr {t : Rx} {s : Txt} {F G : Nat → Prop} (h : ∀ j, j ≤ s.length → (F j ↔ G j)) (i : Nat) (hi : i ≤ s.length) : Stp t s F i ↔ Stp t s G i :=
  ⟨fun ⟨j, hj, hf, hm⟩ => ⟨j, hj, (h j (by omega)).1 hf, hm⟩, fun ⟨j, hj, hf, hm⟩ => ⟨j, hj, (h j (by omega)).2 hf, hm⟩⟩
theorem isStp_eps (s : Txt) (bs : List Bool) (hl : bs.length = s.length + 1) : IsStp .eps s bs bs := ⟨hl, fun i hi => (stp_eps s (On bs) i hi).symm⟩
theorem isStp_cat {a b : Rx} {s : Txt} {bs b1 b2 : List Bool} (h1 : IsStp a s bs b1) (h2 : IsStp b s b1 b2) : IsStp (.cat a b) s bs b2 :=
  ⟨h2.len, fun i hi => (h2.on i hi).trans ((stp_congr h1.on i hi).trans (stp_cat a b s (On bs) i hi).symm)⟩
theorem isStp_or {a b : Rx} {s : Txt} {bs b1 b2 : List Bool} (h1 : IsStp a s bs b1) (h2 : IsStp b s bs b2) : IsStp (.or a b) s bs (tabK (s.length + 1) (s.length + 1) fun i => b1.getD i false || b2.getD i false) := by
  refine ⟨tabK_len _ _ _, fun i hi => ?_⟩
  rw [On, tabK_at (Nat.le_refl _) (by omega), stp_or, ← h1.on i hi, ← h2.on i hi]
  unfold On
  have l1 := h1.len
  have l2 := h2.len
  rw [List.getD_eq_getElem?_getD, List.getD_eq_getElem?_getD, List.getElem?_eq_getElem (by omega : i < b1.length), List.getElem?_eq_getElem (by omega : i < b2.length)]
  simp
theorem isStp_opt {a : Rx} {s : Txt} {bs b1 : List Bool} (hl : bs.length = s.length + 1) (h1 : IsStp a s bs b1) : IsStp (.opt a) s bs (tabK (s.length + 1) (s.length + 1) fun i => b1.getD i false || bs.getD i false) := by
  refine ⟨tabK_len _ _ _, fun i hi => ?_⟩
  rw [On, tabK_at (Nat.le_refl _) (by omega), stp_opt a s _ i hi, ← h1.on i hi]
  unfold On
  have l1 := h1.len
  rw [List.getD_eq_getElem?_getD, List.getD_eq_getElem?_getD, List.getElem?_eq_getElem (by omega : i < b1.length), List.getElem?_eq_getElem (by omega : i < bs.length)]
  simp
def setF (S : W4) (s : Txt) (bs : List Bool) : Nat → Bool
  | 0 => false
  | i + 1 => bs.getD i false && (match s[i]? with | some c => hasB S c.toNat | none => false)
theorem isStp_set (S : W4) (s : Txt) (bs : List Bool) (hl : bs.length = s.length + 1) : IsStp (.set S) s bs (tabK (s.length + 1) (s.length + 1) (setF S s bs)) := by
  refine ⟨tabK_len _ _ _, fun i hi => ?_⟩
  rw [On, tabK_at (Nat.le_refl _) (by omega), stp_set S s _ i hi]
  constructor
  · intro h
    cases i with
    | zero => simp [setF] at h
    | succ i =>
      have hb : i < bs.length := by omega
      have hs : i < s.length := by omega
      simp only [setF, List.getD_eq_getElem?_getD, List.getElem?_eq_getElem hb, List.getElem?_eq_getElem hs, Option.getD_some, Option.some.injEq, Bool.and_eq_true] at h
      exact ⟨i, hs, rfl, by rw [On, List.getElem?_eq_getElem hb, h.1], h.2⟩
  · rintro ⟨j, hj, rfl, hf, hc⟩
    unfold On at hf
    simp only [setF, List.getD_eq_getElem?_getD, hf, List.getElem?_eq_getElem hj, Option.getD_some, hc, Bool.and_self]
set_option maxRecDepth 20000 in
theorem Tryz.info4 : (Tryz.prog.info? 4).map (fun i => (i.zero, i.size, i.bytes)) = some (some (.bool false), 1, 1) := by kernel_rfl
theorem made_false (n : Nat) : (madeCells (Value.bool false).cells (n * 1)).toList = (List.replicate n false).map Value.bool := by
  rw [Nat.mul_one, show (Value.bool false).cells = #[.bool false] from rfl, toList_madeCells_one]
  simp

end Go.Proofs.YtonlcnmlklaicaaGreatDoor
namespace Go.Proofs.YtonlcnmlklaicaaGreatDoor
open Go.RowKit

set_option maxRecDepth 20000 in
theorem refHas (a b c d x : Nat) (w : World) (hS : Fit4 ⟨a, b, c, d⟩) (hx : x < 256) :
    Calls Tryz.prog 45 #[.agg #[.int .u64 a, .int .u64 b, .int .u64 c, .int .u64 d], .int .i64 x] w fun e w' => e = .returned (.bool (hasB ⟨a, b, c, d⟩ x)) ∧ Below w.heap.size w w' := by
  have hcell := word_at a b c d (x / 64) (by omega)
  have hdiv := hasB_div ⟨a, b, c, d⟩ x
  have hn := hS.w (x / 64)
  have hp := wrap_pow (j := x % 64) (by omega)
  have hm0 : 0 < 2 ^ (x % 64) := Nat.two_pow_pos _
  generalize W4.w ⟨a, b, c, d⟩ (x / 64) = n at hcell hdiv hn
  generalize hasB ⟨a, b, c, d⟩ x = r at hdiv ⊢
  generalize 2 ^ (x % 64) = m at hp hm0 hdiv
  have hq := wrap_quo (m := m) hn
  have hr := rem_two (n / m)
  rw [← hdiv] at hr
  generalize n / m = q at hq hr hdiv
  have hm1 : ¬ (m : Int) = 0 := by omega
  clear hdiv hS
  go_enter Tryz.func45, Tryz.ntmps45
  go_wp2
  go_ret
  exact ⟨by first | rfl | rw [hr], (Below.refl _ w).alloc (Nat.le_refl _) _⟩



end Go.Proofs.YtonlcnmlklaicaaGreatDoor
