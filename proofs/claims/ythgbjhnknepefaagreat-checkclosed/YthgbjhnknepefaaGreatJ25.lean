/- Marks: what ends; the list of what has a mark. A rule's cells, gone through with a stack of rules. Null of package regex: a cell. fold, of truths. -/
import Derived.Test.YthgbjhnknepefaaGreatJ24
import Derived.Test.YthgbjhnknepefaaGreatJ4
import Derived.Test.YthgbjhnknepefaaGreatJ22
import Derived.Laws.OwnMore
import Derived.Deep.AppendLies
import Derived.Deep.RegionHeld3
namespace Go.Proofs.YthgbjhnknepefaaGreat

theorem opn_iff {tm : Nat} {L : List Bool} {s : Int} : opnB tm L s = true ↔ (tm : Int) < s ∧ ¬ Mrk tm L s := by
  unfold opnB Mrk
  rw [List.getD_eq_getElem?_getD, Bool.and_eq_true, decide_eq_true_eq, Bool.not_eq_true']
  cases h : L[(s - (tm : Int) - 1).toNat]? with
  | none => simp
  | some b => cases b <;> simp
/-- a round under way: the productions ahead of i are gone through, b tells whether a mark was put -/
structure EnL (g : Gm) (C0 C : List Bool) (i : Nat) (b : Bool) : Prop where
  len : C.length = g.nonts.length
  snd : ∀ n, Mrk g.terms C n → Ends g n
  cnt : offN C + (if b then 1 else 0) ≤ offN C0
  cls : b = false → ∀ j (hj : j < g.prods.length), j < i → opnB g.terms C g.prods[j].left = true → g.prods[j].right.any (opnB g.terms C) = true
theorem EnL.start {g : Gm} {C : List Bool} (hl : C.length = g.nonts.length) (hs : ∀ n, Mrk g.terms C n → Ends g n) : EnL g C C 0 false := ⟨hl, hs, by simp, fun _ _ _ h => absurd h (Nat.not_lt_zero _)⟩
theorem EnL.skip {g : Gm} {C0 C : List Bool} {i : Nat} {b : Bool} (h : EnL g C0 C i b) (hi : i < g.prods.length) (hc : opnB g.terms C g.prods[i].left = true → g.prods[i].right.any (opnB g.terms C) = true) : EnL g C0 C (i + 1) b :=
  ⟨h.len, h.snd, h.cnt, fun hb j hj hji ho => by
    rcases Nat.lt_or_ge j i with h8 | h8
    · exact h.cls hb j hj h8 ho
    · obtain rfl : j = i := by omega
      exact hc ho⟩
theorem EnL.mark {g : Gm} {C0 C : List Bool} {i q : Nat} {b : Bool} (h : EnL g C0 C i b) (hi : i < g.prods.length) (ho : opnB g.terms C g.prods[i].left = true) (hr : g.prods[i].right.any (opnB g.terms C) = false) (hq : (g.prods[i].left - (g.terms : Int) - 1).toNat = q) (hql : q < C.length) : EnL g C0 (C.set q true) (i + 1) true := by
  subst hq
  obtain ⟨h1, h2⟩ := opn_iff.1 ho
  refine ⟨by rw [List.length_set]; exact h.len, fun n hn => ?_, ?_, fun hb => by cases hb⟩
  · rcases (mrk_set h1 hql n).1 hn with rfl | hn
    · refine Ends.prod _ (List.getElem_mem hi) (fun m hm ht => ?_)
      refine h.snd m ?_
      refine Classical.byContradiction fun hno => ?_
      have := List.any_eq_false.1 hr m hm
      exact this (opn_iff.2 ⟨ht, hno⟩)
    · exact h.snd n hn
  · have h3 : C[(g.prods[i].left - (g.terms : Int) - 1).toNat]? = some false := by
      rw [List.getElem?_eq_getElem hql]
      congr 1
      refine Bool.eq_false_iff.2 fun h9 => h2 ⟨h1, ?_⟩
      rw [List.getElem?_eq_getElem hql, h9]
    have := mrk_count (tm := g.terms) h3
    have := h.cnt
    rw [if_pos rfl]
    omega
theorem EnL.all {g : Gm} (hg : SndG g) {C0 C : List Bool} {i : Nat} (h : EnL g C0 C i false) (hi : g.prods.length ≤ i) (n : Int) : Mrk g.terms C n ↔ Ends g n := by
  refine ⟨h.snd n, fun hn => ?_⟩
  induction hn with
  | prod p hp _ ih =>
    refine Classical.byContradiction fun hno => ?_
    obtain ⟨j, hj, rfl⟩ := List.getElem_of_mem hp
    have hpd := hg.prod _ (List.getElem_mem hj)
    unfold pdB at hpd
    simp only [Bool.and_eq_true, decide_eq_true_eq] at hpd
    have h1 := h.cls rfl j hj (by omega) (opn_iff.2 ⟨hpd.1.1.1.1.1, hno⟩)
    obtain ⟨m, hm, hmo⟩ := List.any_eq_true.1 h1
    obtain ⟨h2, h3⟩ := opn_iff.1 hmo
    exact h3 (ih m hm h2)
/-- the symbols that have a mark, of the first k -/
def mksL (tm : Nat) (L : List Bool) : Nat → List Int
  | 0 => []
  | k + 1 => mksL tm L k ++ (if L.getD k false then [(tm : Int) + 1 + (k : Int)] else [])
theorem mksL_mem (tm : Nat) (L : List Bool) (x : Int) : ∀ k, x ∈ mksL tm L k ↔ Mrk tm L x ∧ x ≤ (tm : Int) + (k : Int)
  | 0 => by
    unfold mksL Mrk
    constructor
    · intro h; cases h
    · rintro ⟨⟨h1, _⟩, h2⟩
      omega
  | k + 1 => by
    unfold mksL
    rw [List.mem_append, mksL_mem tm L x k]
    unfold Mrk
    rw [List.getD_eq_getElem?_getD]
    by_cases e : x = (tm : Int) + 1 + (k : Int)
    · subst e
      rw [show ((tm : Int) + 1 + (k : Int) - (tm : Int) - 1).toNat = k by omega]
      cases h : L[k]? with
      | none => simp
      | some b => cases b <;> simp <;> omega
    · have h1 : x ∉ (if (L[k]?.getD false) = true then [(tm : Int) + 1 + (k : Int)] else []) := by
        split
        · rw [List.mem_singleton]; exact e
        · exact List.not_mem_nil
      constructor
      · rintro (⟨h2, h3⟩ | h2)
        · exact ⟨h2, by omega⟩
        · exact absurd h2 h1
      · rintro ⟨h2, h3⟩
        exact .inl ⟨h2, by omega⟩
theorem mksL_up (tm : Nat) (L : List Bool) : ∀ k, Up (mksL tm L k)
  | 0 => List.Pairwise.nil
  | k + 1 => by
    unfold mksL
    show List.Pairwise _ _
    rw [List.pairwise_append]
    refine ⟨mksL_up tm L k, ?_, fun a ha b hb => ?_⟩
    · split
      · exact List.pairwise_singleton _ _
      · exact List.Pairwise.nil
    · have := (mksL_mem tm L a k).1 ha
      split at hb
      · rw [List.mem_singleton] at hb
        omega
      · cases hb
theorem mksL_len (tm : Nat) (L : List Bool) : ∀ k, (mksL tm L k).length ≤ k
  | 0 => Nat.le_refl _
  | k + 1 => by
    have := mksL_len tm L k
    unfold mksL
    rw [List.length_append]
    split
    · rw [List.length_singleton]; omega
    · rw [List.length_nil]; omega
theorem mksL_is {tm : Nat} {L : List Bool} {l : List Int} (h : ∀ n, Mrk tm L n ↔ n ∈ l) : mksL tm L L.length = ofL l := by
  refine up_uniq (mksL_up _ _ _) (ofL_up _) (fun x => ?_)
  rw [mksL_mem, ofL_mem, ← h]
  refine ⟨fun h => h.1, fun hx => ⟨hx, ?_⟩⟩
  have := hx.2
  have hlt : (x - (tm : Int) - 1).toNat < L.length := by
    refine Classical.byContradiction fun hno => ?_
    rw [List.getElem?_eq_none (by omega)] at this
    cases this
  have := hx.1
  omega
/-- the first that has none -/
theorem mrk_all {tm : Nat} {L : List Bool} (h : ∀ j (hj : j < L.length), L[j] = true) (n : Int) (h1 : (tm : Int) < n) (h2 : n ≤ (tm : Int) + (L.length : Int)) : Mrk tm L n := by
  refine ⟨h1, ?_⟩
  have hj : (n - (tm : Int) - 1).toNat < L.length := by omega
  rw [List.getElem?_eq_getElem hj, h _ hj]
theorem mrk_first {tm : Nat} {L : List Bool} {k : Nat} (hk : k < L.length) (hb : L[k] = false) (h : ∀ j (hj : j < L.length), j < k → L[j] = true) : ¬ Mrk tm L ((tm : Int) + 1 + (k : Int)) ∧ ∀ m, (tm : Int) < m → m < (tm : Int) + 1 + (k : Int) → Mrk tm L m := by
  constructor
  · intro h9
    have := h9.2
    rw [show ((tm : Int) + 1 + (k : Int) - (tm : Int) - 1).toNat = k by omega, List.getElem?_eq_getElem hk, hb] at this
    injection this with this
    cases this
  · intro m h1 h2
    have hj : (m - (tm : Int) - 1).toNat < L.length := by omega
    exact ⟨h1, by rw [List.getElem?_eq_getElem hj, h _ hj (by omega)]⟩

end Go.Proofs.YthgbjhnknepefaaGreat
namespace Go.Proofs.YthgbjhnknepefaaGreat
open Go.RowKit

/-- a cell, with the rules that lie there, the last first -/
def stepS (st : List Rx) (c : Cel) : List Rx :=
  if c.op = 1 then .set c.s :: st
  else if c.op = 2 then .eps :: st
  else if c.op = 3 then match st with | b :: a :: r => .cat a b :: r | r => r
  else if c.op = 4 then match st with | b :: a :: r => .or a b :: r | r => r
  else if c.op = 5 then match st with | a :: r => .star a :: r | r => r
  else if c.op = 6 then match st with | a :: r => .plus a :: r | r => r
  else match st with | a :: r => .opt a :: r | r => r
def stK (l : List Cel) (k : Nat) : List Rx := (l.take k).foldl stepS []
theorem fold_post : ∀ (t : Rx) (st : List Rx), (post t).foldl stepS st = t :: st
  | .set S, st => by simp [post, stepS]
  | .eps, st => by simp [post, stepS]
  | .cat a b, st => by
    show (post a ++ (post b ++ [(⟨3, noneB⟩ : Cel)])).foldl stepS st = _
    rw [List.foldl_append, fold_post a st, List.foldl_append, fold_post b (a :: st)]
    simp [stepS]
  | .or a b, st => by
    show (post a ++ (post b ++ [(⟨4, noneB⟩ : Cel)])).foldl stepS st = _
    rw [List.foldl_append, fold_post a st, List.foldl_append, fold_post b (a :: st)]
    simp [stepS]
  | .star a, st => by
    show (post a ++ [(⟨5, noneB⟩ : Cel)]).foldl stepS st = _
    rw [List.foldl_append, fold_post a st]
    simp [stepS]
  | .plus a, st => by
    show (post a ++ [(⟨6, noneB⟩ : Cel)]).foldl stepS st = _
    rw [List.foldl_append, fold_post a st]
    simp [stepS]
  | .opt a, st => by
    show (post a ++ [(⟨7, noneB⟩ : Cel)]).foldl stepS st = _
    rw [List.foldl_append, fold_post a st]
    simp [stepS]
theorem stK_end (t : Rx) : stK (post t) (post t).length = [t] := by
  unfold stK
  rw [List.take_length, fold_post]
theorem stK_succ (l : List Cel) (k : Nat) (h : k < l.length) : stK l (k + 1) = stepS (stK l k) l[k] := by
  unfold stK
  rw [List.take_succ_eq_append_getElem h, List.foldl_append]
  rfl
theorem stepS_len {st : List Rx} {c : Cel} (h0 : 0 ≤ wants c.op) (h1 : wants c.op ≤ (st.length : Int)) : ((stepS st c).length : Int) = (st.length : Int) - wants c.op + 1 := by
  obtain ⟨op, S⟩ := c
  simp only at h0 h1 ⊢
  rcases wants_cases op h0 with ⟨rfl, hw⟩ | ⟨rfl, hw⟩ | ⟨rfl, hw⟩ | ⟨rfl, hw⟩ | ⟨rfl, hw⟩ | ⟨rfl, hw⟩ | ⟨rfl, hw⟩
  · rw [hw]; simp [stepS]
  · rw [hw]; simp [stepS]
  · rw [hw] at h1 ⊢
    match st, h1 with
    | b :: a :: r, _ => simp [stepS]; omega
    | [_], h => simp at h
    | [], h => simp at h
  · rw [hw] at h1 ⊢
    match st, h1 with
    | b :: a :: r, _ => simp [stepS]; omega
    | [_], h => simp at h
    | [], h => simp at h
  · rw [hw] at h1 ⊢
    match st, h1 with
    | a :: r, _ => simp [stepS]
    | [], h => simp at h
  · rw [hw] at h1 ⊢
    match st, h1 with
    | a :: r, _ => simp [stepS]
    | [], h => simp at h
  · rw [hw] at h1 ⊢
    match st, h1 with
    | a :: r, _ => simp [stepS]
    | [], h => simp at h
/-- of a right rule: at each cell its operands lie there -/
theorem stK_right {l : List Cel} (hr : rightB l = true) : ∀ k, k ≤ l.length → depthN l k = some ((stK l k).length : Int)
  | 0, _ => rfl
  | k + 1, hk => by
    have ih := stK_right hr k (by omega)
    have hd : depthN l (k + 1) ≠ none := fun e => by
      have := right_bad (depth_none l e l.length hk)
      rw [hr] at this
      cases this
    rw [depth_succ l ih (by omega)] at hd ⊢
    rw [stK_succ l k (by omega)]
    by_cases hb : badC ((stK l k).length : Int) l[k] = true
    · rw [if_pos hb] at hd; exact absurd rfl hd
    · rw [if_neg hb]
      simp only [badC, Bool.or_eq_true, decide_eq_true_eq, not_or, Int.not_lt] at hb
      rw [stepS_len hb.1.1 hb.1.2]
theorem stK_wants {l : List Cel} (hr : rightB l = true) (k : Nat) (hk : k < l.length) : 0 ≤ wants l[k].op ∧ wants l[k].op ≤ ((stK l k).length : Int) := by
  have h1 := stK_right hr (k + 1) hk
  rw [depth_succ l (stK_right hr k (by omega)) hk] at h1
  by_cases hb : badC ((stK l k).length : Int) l[k] = true
  · rw [if_pos hb] at h1; cases h1
  · simp only [badC, Bool.or_eq_true, decide_eq_true_eq, not_or, Int.not_lt] at hb
    exact hb.1
/-- the first of a row -/
theorem own_cut {w : World} {base size n g cap : Nat} {e : TypeId} {xs : List Value} (h : w.ownsRow base e size (.slice (some ⟨g, 0, none⟩) n cap) n xs) (r : Nat) (hr : r ≤ n) : w.ownsRow base e size (.slice (some ⟨g, 0, none⟩) r cap) r (xs.take (r * size)) := by
  rcases h.2 with ⟨e', _⟩ | ⟨g', cap', cur, e', h1, h2, h3, h4, h5, h6⟩
  · cases e'
  · injection e' with e1 e2 e3
    subst e3
    injection e1 with e1
    injection e1 with e1
    subst e1
    have hle : r * size ≤ n * size := Nat.mul_le_mul_right _ hr
    refine ⟨by rw [List.length_take, h.1]; omega, .inr ⟨g, cap, cur, rfl, h1, h2, by omega, h4, h5, ?_⟩⟩
    rw [← h6, List.take_take, Nat.min_eq_left hle]

end Go.Proofs.YthgbjhnknepefaaGreat
namespace Go.Proofs.YthgbjhnknepefaaGreat
open Go.RowKit

set_option maxRecDepth 20000 in
theorem nullLeaf (op : Int) (a b c d : Nat) (r : Bool) (v : Value) (w : World) (ho : (op = 1 ∧ r = false) ∨ ((op = 2 ∨ op = 5 ∨ op = 7) ∧ r = true)) : Calls Tryz.prog 75 #[celV op a b c d, v] w fun e w' => e = .returned (.bool r) ∧ Below w.heap.size w w' := by
  rcases ho with ⟨rfl, rfl⟩ | ⟨rfl | rfl | rfl, rfl⟩
  all_goals
    go_enter Tryz.func75, Tryz.ntmps75
    go_wp2
    go_ret
    exact ⟨rfl, al' w _⟩
set_option maxRecDepth 20000 in
theorem nullTwo (op : Int) (a b c d : Nat) (x y : Bool) (g o cap : Nat) (w : World) (ho : op = 3 ∨ op = 4) (c0 : w.cell? ⟨g, o, none⟩ = some (.bool x)) (c1 : w.cell? ⟨g, o + 1, none⟩ = some (.bool y)) : Calls Tryz.prog 75 #[celV op a b c d, .slice (some ⟨g, o, none⟩) 2 cap] w fun e w' => e = .returned (.bool (if op = 3 then x && y else x || y)) ∧ Below w.heap.size w w' := by
  have e0 := keep_cell (al' w (.cells #[.int .i64 op, .int .u64 (a : Int), .int .u64 (b : Int), .int .u64 (c : Int), .int .u64 (d : Int)] 107)) c0
  have e1 := keep_cell (al' w (.cells #[.int .i64 op, .int .u64 (a : Int), .int .u64 (b : Int), .int .u64 (c : Int), .int .u64 (d : Int)] 107)) c1
  rcases ho with rfl | rfl <;> cases x
  all_goals
    go_enter Tryz.func75, Tryz.ntmps75
    go_wp2
    go_ret
    exact ⟨by cases y <;> rfl, al' w _⟩
set_option maxRecDepth 20000 in
theorem nullOne (a b c d : Nat) (x : Bool) (g o cap : Nat) (w : World) (c0 : w.cell? ⟨g, o, none⟩ = some (.bool x)) : Calls Tryz.prog 75 #[celV 6 a b c d, .slice (some ⟨g, o, none⟩) 1 cap] w fun e w' => e = .returned (.bool x) ∧ Below w.heap.size w w' := by
  have e0 := keep_cell (al' w (.cells #[.int .i64 6, .int .u64 (a : Int), .int .u64 (b : Int), .int .u64 (c : Int), .int .u64 (d : Int)] 107)) c0
  go_enter Tryz.func75, Tryz.ntmps75
  go_wp2
  go_ret
  exact ⟨rfl, al' w _⟩

end Go.Proofs.YthgbjhnknepefaaGreat
namespace Go.Proofs.YthgbjhnknepefaaGreat
open Go.RowKit

set_option maxRecDepth 20000 in
theorem Tryz.infoB4 : (Tryz.prog.info? 4).map (fun i => (i.zero, i.size, i.bytes)) = some (some (.bool false), 1, 1) := by kernel_rfl
set_option maxRecDepth 20000 in
theorem Tryz.sizeB (u : World) : (sizeOf 4).run Tryz.prog u = .ok 1 u := by kernel_rfl
set_option maxRecDepth 20000 in
theorem Tryz.elemB : Tryz.prog.elem 77 = 4 := by kernel_rfl
set_option maxRecDepth 20000 in
theorem cutB_hi (a : Option Addr) (g n cap r : Nat) (ha : a = some ⟨g, 0, none⟩) (h : r ≤ cap) (u : World) : (Instr.slice 77 (.slice a n cap) none (some (.int .i64 (r : Int))) none).run Tryz.prog u = .ok (.slice (some ⟨g, 0, none⟩) r cap) u := by
  subst ha
  rw [run_slice_h u 77 _ _ _ Tryz.underlying77 .i64 _ (by omega) (by omega), Tryz.elemB, Tryz.sizeB]
  simp [sliced, Addr.add]
set_option maxRecDepth 20000 in
theorem cutB_nil (u : World) : (Instr.slice 77 (.slice none 0 0) (some (.int .i64 0)) none none).run Tryz.prog u = .ok (.slice none 0 0) u := by
  rw [run_slice_l u 77 _ _ _ Tryz.underlying77 .i64 _ (by omega) (by omega), Tryz.elemB, Tryz.sizeB]
  simp [sliced]
set_option maxRecDepth 20000 in
theorem cutB_nil2 (u : World) : (Instr.slice 77 (.slice none 0 0) none (some (.int .i64 0)) none).run Tryz.prog u = .ok (.slice none 0 0) u := by
  rw [run_slice_h u 77 _ _ _ Tryz.underlying77 .i64 _ (by omega) (by omega), Tryz.elemB, Tryz.sizeB]
  simp [sliced]

def valsB (st : List Rx) : List Bool := st.reverse.map Rx.null
theorem valsB_len (st : List Rx) : (valsB st).length = st.length := by simp [valsB]
set_option maxRecDepth 20000 in
theorem valsB_cons (t : Rx) (st : List Rx) : valsB (t :: st) = valsB st ++ [t.null] := by simp [valsB]
/-- a cell's truth: from how many of those behind, and what -/
def NullAt (c : Cel) (vs : List Bool) (m r : Nat) (y : Bool) : Prop :=
  wants c.op = (m : Int) ∧ vs.length = r + m ∧
  (m = 0 → ∀ v u, Calls Tryz.prog 75 #[celV c.op c.s.a c.s.b c.s.c c.s.d, v] u fun e w' => e = .returned (.bool y) ∧ Below u.heap.size u w') ∧
  (0 < m → ∀ g cap u, (∀ j (hj : j < vs.length), u.cell? ⟨g, j, none⟩ = some (.bool vs[j])) → Calls Tryz.prog 75 #[celV c.op c.s.a c.s.b c.s.c c.s.d, .slice (some ⟨g, r, none⟩) m cap] u fun e w' => e = .returned (.bool y) ∧ Below u.heap.size u w')
theorem null_step (st : List Rx) (c : Cel) (h0 : 0 ≤ wants c.op) (h1 : wants c.op ≤ (st.length : Int)) : ∃ m r y, NullAt c (valsB st) m r y ∧ valsB (stepS st c) = (valsB st).take r ++ [y] := by
  obtain ⟨op, S⟩ := c
  simp only at h0 h1
  rcases wants_cases op h0 with ⟨rfl, hw⟩ | ⟨rfl, hw⟩ | ⟨rfl, hw⟩ | ⟨rfl, hw⟩ | ⟨rfl, hw⟩ | ⟨rfl, hw⟩ | ⟨rfl, hw⟩
  · refine ⟨0, (valsB st).length, false, ⟨hw, rfl, fun _ v u => nullLeaf 1 _ _ _ _ false v u (by simp), fun h => absurd h (by omega)⟩, ?_⟩
    rw [List.take_length]
    exact valsB_cons _ _
  · refine ⟨0, (valsB st).length, true, ⟨hw, rfl, fun _ v u => nullLeaf 2 _ _ _ _ true v u (by simp), fun h => absurd h (by omega)⟩, ?_⟩
    rw [List.take_length]
    exact valsB_cons _ _
  · rw [hw] at h1
    match st, h1 with
    | b :: a :: r, _ =>
      have hl := valsB_len r
      have hv : valsB (b :: a :: r) = valsB r ++ [a.null, b.null] := by rw [valsB_cons, valsB_cons]; simp
      refine ⟨2, r.length, a.null && b.null, ⟨hw, by rw [hv]; simp [hl], fun h => absurd h (by omega), fun _ g cap u hc => ?_⟩, ?_⟩
      · have e0 := hc r.length (by rw [hv]; simp [hl])
        have e1 := hc (r.length + 1) (by rw [hv]; simp [hl])
        simp only [hv] at e0 e1
        rw [List.getElem_append_right (by omega)] at e0 e1
        simp [hl] at e0 e1
        exact (nullTwo 3 S.a S.b S.c S.d a.null b.null g r.length cap u (Or.inl rfl) e0 e1).mono fun e w' h => h
      · rw [hv, show stepS (b :: a :: r) ⟨3, S⟩ = .cat a b :: r by simp [stepS], valsB_cons, ← hl, List.take_left]
        show _ ++ [b.null && a.null] = _
        rw [Bool.and_comm]
    | [_], h => simp at h
    | [], h => simp at h
  · rw [hw] at h1
    match st, h1 with
    | b :: a :: r, _ =>
      have hl := valsB_len r
      have hv : valsB (b :: a :: r) = valsB r ++ [a.null, b.null] := by rw [valsB_cons, valsB_cons]; simp
      refine ⟨2, r.length, a.null || b.null, ⟨hw, by rw [hv]; simp [hl], fun h => absurd h (by omega), fun _ g cap u hc => ?_⟩, ?_⟩
      · have e0 := hc r.length (by rw [hv]; simp [hl])
        have e1 := hc (r.length + 1) (by rw [hv]; simp [hl])
        simp only [hv] at e0 e1
        rw [List.getElem_append_right (by omega)] at e0 e1
        simp [hl] at e0 e1
        exact (nullTwo 4 S.a S.b S.c S.d a.null b.null g r.length cap u (Or.inr rfl) e0 e1).mono fun e w' h => h
      · rw [hv, show stepS (b :: a :: r) ⟨4, S⟩ = .or a b :: r by simp [stepS], valsB_cons, ← hl, List.take_left]
        show _ ++ [b.null || a.null] = _
        rw [Bool.or_comm]
    | [_], h => simp at h
    | [], h => simp at h
  · rw [hw] at h1
    match st, h1 with
    | a :: r, _ =>
      have hl := valsB_len r
      refine ⟨1, r.length, true, ⟨hw, by rw [valsB_cons]; simp [hl], fun h => absurd h (by omega), fun _ g cap u hc => nullLeaf 5 _ _ _ _ true _ u (by simp)⟩, ?_⟩
      rw [show stepS (a :: r) ⟨5, S⟩ = .star a :: r by simp [stepS], valsB_cons, valsB_cons, ← hl, List.take_left]
      rfl
    | [], h => simp at h
  · rw [hw] at h1
    match st, h1 with
    | a :: r, _ =>
      have hl := valsB_len r
      refine ⟨1, r.length, a.null, ⟨hw, by rw [valsB_cons]; simp [hl], fun h => absurd h (by omega), fun _ g cap u hc => ?_⟩, ?_⟩
      · have e0 := hc r.length (by rw [valsB_cons]; simp [hl])
        simp only [valsB_cons] at e0
        rw [List.getElem_append_right (by omega)] at e0
        simp [hl] at e0
        exact nullOne S.a S.b S.c S.d a.null g r.length cap u e0
      · rw [show stepS (a :: r) ⟨6, S⟩ = .plus a :: r by simp [stepS], valsB_cons, valsB_cons, ← hl, List.take_left]
        rfl
    | [], h => simp at h
  · rw [hw] at h1
    match st, h1 with
    | a :: r, _ =>
      have hl := valsB_len r
      refine ⟨1, r.length, true, ⟨hw, by rw [valsB_cons]; simp [hl], fun h => absurd h (by omega), fun _ g cap u hc => nullLeaf 7 _ _ _ _ true _ u (by simp)⟩, ?_⟩
      rw [show stepS (a :: r) ⟨7, S⟩ = .opt a :: r by simp [stepS], valsB_cons, valsB_cons, ← hl, List.take_left]
      rfl
    | [], h => simp at h

abbrev OwnL (w : World) (B : Nat) (v : Value) (l : List Bool) : Prop := w.ownsRow B 4 1 v l.length (l.map Value.bool)
theorem OwnL.shape {w : World} {B : Nat} {v : Value} {l : List Bool} (h : OwnL w B v l) : (v = .slice none 0 0 ∧ l = []) ∨ ∃ g cap, v = .slice (some ⟨g, 0, none⟩) l.length cap ∧ l.length ≤ cap ∧ B ≤ g ∧ g < w.heap.size := by
  have h' := h
  rcases h.2 with ⟨rfl, h0⟩ | ⟨g, cap, cur, rfl, hb, _, hc, _⟩
  · exact Or.inl ⟨rfl, List.length_eq_zero_iff.1 h0⟩
  · exact Or.inr ⟨g, cap, rfl, hc, hb, (h'.lt g rfl).2⟩
theorem OwnL.at {w : World} {B g cap : Nat} {l : List Bool} (h : OwnL w B (.slice (some ⟨g, 0, none⟩) l.length cap) l) : ∀ j (hj : j < l.length), w.cell? ⟨g, j, none⟩ = some (.bool l[j]) := fun j hj => by
  have := h.cells rfl j (.bool l[j]) (by simp [hj])
  rw [Go.WideShapes.add_plain] at this
  simpa using this

theorem lain_size : ∀ st : List Rx, st.length ≤ (lain st).length
  | [] => Nat.le_refl _
  | x :: st => by
    have ih := lain_size st
    have := post_pos x
    have e : (lain (x :: st)).length = (lain st).length + (post x).length := by simp [lain]
    rw [e, List.length_cons]
    omega

set_option maxRecDepth 20000 in
set_option maxHeartbeats 4000000 in
theorem foldNull (v : Value) (t : Rx) (w : World) (hA : Cels w v (post t)) (ho : t.ok) (h60 : (post t).length ≤ 60) :
    Calls Tryz.prog 74 #[v, .func (.func 75) #[] #[]] w fun e w' => e = .returned (.bool t.null) ∧ Below w.heap.size w w' := by
  obtain ⟨i0, hi, hz0, hz1, hz2⟩ := info_parts Tryz.infoB4
  have hrt := right_post ho h60
  have hend : Hid (valsB (stK (post t) (post t).length) = [t.null]) := hid (by rw [stK_end]; rfl)
  obtain ⟨l, hl⟩ : ∃ l, l = post t := ⟨_, rfl⟩
  rw [← hl] at hA hrt hend h60
  have hpos : 0 < l.length := by rw [hl]; exact post_pos t
  obtain ⟨av, cv, rfl, _, _, hFl, hAt⟩ := hA
  have hAt := hid hAt
  have hstep := hid (fun k (hk : k < l.length) => null_step (stK l k) l[k] (stK_wants hrt k hk).1 (stK_wants hrt k hk).2)
  have hsuc := hid (fun k (hk : k < l.length) => stK_succ l k hk)
  have hk60 : Hid (∀ k, k ≤ l.length → (valsB (stK l k)).length ≤ 60) := hid (fun k hk => by
    rw [valsB_len]
    have h1 := stK_right hrt k hk
    obtain ⟨hkl, st, hd, hla, _⟩ := depth_stack l k _ h1
    have h2 := lain_size st
    rw [hla, List.length_take] at h2
    omega)
  have h00 := hid (show valsB (stK l 0) = [] from rfl)
  have GO := hid operandsC
  clear ho hrt hl
  generalize t.null = R at hend ⊢
  go_enter Tryz.func74, Tryz.ntmps74
  go_wp2
  go_loopw [5, 12] (fun dv i wr => ∃ k : Nat, k ≤ l.length ∧ i = .int .i64 k ∧ Hid (OwnL wr w.heap.size dv (valsB (stK l k))) ∧ Below w.heap.size w wr) (fun _ i _ => l.length - (intOf i).toNat)
  case atStart => exact ⟨0, Nat.zero_le _, rfl, hid (by rw [h00.out]; exact World.ownsRow_nil _ _ _ _), Below.refl _ _⟩
  case round =>
    obtain ⟨k, hk, rfl, hO, hbl⟩ := hrel
    have hn60 := hk60.out k hk
    by_cases hlt : k < l.length
    · have hltz : (k : Int) < (l.length : Int) := by omega
      obtain ⟨b', o', rfl, hb', hat0⟩ := hAt.out k hlt
      have hat := hat0.keep hbl
      clear hat0
      obtain ⟨m, r, y, ⟨hw, hlen, hz, hp⟩, hv⟩ := hstep.out k hlt
      rw [← hsuc.out k hlt] at hv
      have hv' := hid hv
      clear hv
      have hpick : Hid (m = 0 → ∀ v u, Calls Tryz.prog 75 #[celV l[k].op l[k].s.a l[k].s.b l[k].s.c l[k].s.d, v] u fun e w' => e = .returned (.bool y) ∧ Below u.heap.size u w') := hid hz
      generalize l[k] = c at hat hw hz hp hpick
      obtain ⟨op, S⟩ := c
      obtain ⟨sa, sb, sc, sd⟩ := S
      obtain ⟨d0, d1, d2, d3, d4⟩ := hat
      simp only at d0 d1 d2 d3 d4 hw hz hp
      have GO0 := hid (fun u => GO.out op u)
      rw [hw] at GO0
      generalize valsB (stK l k) = vs at hO hv' hlen hz hp hn60
      have hbb := hid (al' wr (.cells #[.int .i64 op, .int .u64 (sa : Int), .int .u64 (sb : Int), .int .u64 (sc : Int), .int .u64 (sd : Int)] 107))
      have hbd := hid (hbb.out.drew)
      have hc0 := heap_new wr (.cells #[.int .i64 op, .int .u64 (sa : Int), .int .u64 (sb : Int), .int .u64 (sc : Int), .int .u64 (sd : Int)] 107)
      obtain ⟨q0, q1, q2, q3, q4⟩ := cells5 hc0
      clear hw hc0
      rcases hO.out.shape with ⟨hd, hvs⟩ | ⟨g, cap, hd, hcap, hg1, hg2⟩
      · subst hvs
        subst hd
        have hm : m = 0 := by simp at hlen; omega
        have hr : r = 0 := by simp at hlen; omega
        subst hm hr
        have GC := hid (fun u => hz rfl (.slice none 0 0) u)
        have s1 := cutB_nil
        have s2 := cutB_nil2
        have hOn := hid (fun u => World.ownsRow_nil u w.heap.size 4 1)
        clear hz hp hlen hO hpick hn60
        go_wp2_with (go_at_call 67; refine (GO0.out _).mono ?_; rintro e u1 ⟨rfl, hu⟩; subst u1)
        go_region_with (first
          | (go_at_call 75; refine (GC.out _).mono ?_; rintro e w1 ⟨rfl, hb1⟩; have hb1' := bl_step hbd.out hb1)
          | fail)
        all_goals
          go_wp2_with (at_builtin; refine wpList_append_lies _ (by rfl) _ _ _ (by rfl) w.heap.size 4 i0 (.bool false) 1 1 Tryz.underlying77 hi hz0 hz1 hz2 rfl (by decide) (.slice none 0 0) 0 [] (by rfl) (hOn.out _) ⟨w1.heap.size, 0, none⟩ 1 1 [.bool y] (by rfl) (by rfl) (World.news_of_block (heap_new w1 (.cells #[.bool y] 4))) (by simp [Value.oneCell']) (by omega) (by (unfold maxLen); omega) (by omega) (Nat.le_trans hbl.size (Nat.le_trans hb1'.size (by simp))) (w1.heap.size + 1) (by simp) ?_; intro g' cap' w2 hown hgrow hat hlt')
          go_roundw
          case rel =>
            refine ⟨k + 1, by omega, by go_num, hid ?_, ?_⟩
            · rw [hv'.out]; exact hown
            · exact (bl_step (bl_step hbl hb1') (al' w1 _)).grown hgrow (Nat.le_trans hbl.size (Nat.le_trans hb1'.size (by simp))) (fun i hi => by cases hi)
          case measure => simp [intOf]; omega
      · subst hd
        have hwrap : IntKind.i64.wrap ((vs.length : Int) - (m : Int)) = (r : Int) := by rw [IntKind.wrap_i64]; omega
        have hr0 : (vs.length : Int) - (m : Int) = (r : Int) := by omega
        have s2 := cutB_hi _ g vs.length cap r rfl (by omega)
        have hOc := own_cut hO.out r (by omega)
        have hOx : Hid (∀ u, Below wr.heap.size wr u → u.ownsRow w.heap.size 4 1 (.slice (some ⟨g, 0, none⟩) r cap) r ((vs.map Value.bool).take (r * 1))) := hid (fun u hu => own_below hOc hu)
        have hcells := hid (hO.out.at)
        have GC : Hid (∀ pv u, Below wr.heap.size wr u → (0 < m → pv = .slice (some ⟨g, r, none⟩) m (cap - r)) → Calls Tryz.prog 75 #[celV op sa sb sc sd, pv] u fun e w' => e = .returned (.bool y) ∧ Below u.heap.size u w') := hid (fun pv u hu hpv => by
          rcases Nat.eq_zero_or_pos m with hm | hm
          · exact hz hm pv u
          · rw [hpv hm]; exact hp hm g (cap - r) u (fun j hj => keep_cell hu (hcells.out j hj)))
        have hcr : (m = 0 ∧ r = vs.length ∧ cap = r) ∨ (m = 0 ∧ r = vs.length ∧ ¬ cap = r) ∨ (0 < m ∧ ¬ cap = r ∧ vs.length - r = m) := by omega
        have hr60 : r ≤ 60 := by omega
        have hmap : Hid ((vs.map Value.bool).take (r * 1) ++ [.bool y] = ((vs.take r) ++ [y]).map Value.bool) := hid (by rw [Nat.mul_one, List.map_append, List.map_take]; rfl)
        have hln : Hid (((vs.take r) ++ [y]).length = r + 1) := hid (by rw [List.length_append, List.length_take]; simp; omega)
        have hgB := hid hg1
        clear hz hp hO hpick hn60 hOc hcells hg1 hg2
        generalize (vs.map Value.bool).take (r * 1) = xs at hOx hmap
        generalize vs.length = n at s2 hwrap hr0 hlen hcap hcr
        clear hlen
        have fin : ∀ w1 w2 g' cap', Below wr.heap.size wr w1 → w2.ownsRow w.heap.size 4 1 (.slice (some ⟨g', 0, none⟩) (r + 1) cap') (r + 1) (xs ++ [.bool y]) → (w1.alloc (.cells #[.bool y] 4)).grownBy w2 (some g) → Hid (OwnL w2 w.heap.size (.slice (some ⟨g', 0, none⟩) (r + 1) cap') (valsB (stK l (k + 1)))) ∧ Below w.heap.size w w2 := fun w1 w2 g' cap' hb1' hown hgrow => by
          refine ⟨hid ?_, ?_⟩
          · rw [hv'.out]
            unfold OwnL
            rw [← hmap.out, hln.out]
            exact hown
          · refine (bl_step (bl_step hbl hb1') (al' w1 _)).grown hgrow (Nat.le_trans hbl.size (Nat.le_trans hb1'.size (by simp))) (fun i hi => ?_)
            simp at hi
            subst hi
            exact hgB.out
        have fin := hid fin
        rcases hcr with ⟨hm0, hrn, hcr⟩ | ⟨hm0, hrn, hcr⟩ | ⟨hm0, hcr, hnm⟩
        · subst hm0
          subst hrn
          subst cap
          clear hr0 hwrap hcap
          go_wp2_with (go_at_call 67; refine (GO0.out _).mono ?_; rintro e u1 ⟨rfl, hu⟩; subst u1)
          go_region_with (first
            | (go_at_call 75; refine (GC.out _ _ hbd.out (by first | (intro h0; exact absurd h0 (by omega)) | (intro h0; rfl) | (intro h0; simp [Addr.add, hnm]) | (intro h0; simp [Addr.add]; omega))).mono ?_; rintro e w1 ⟨rfl, hb1⟩; have hb1' := bl_step hbd.out hb1)
            | fail)
          all_goals
            go_wp2_with (at_builtin; refine wpList_append_lies _ (by rfl) _ _ _ (by rfl) w.heap.size 4 i0 (.bool false) 1 1 Tryz.underlying77 hi hz0 hz1 hz2 rfl (by decide) (.slice (some ⟨g, 0, none⟩) r _) r xs (by rfl) (hOx.out _ (bl_step hb1' (al' w1 _))) ⟨w1.heap.size, 0, none⟩ 1 1 [.bool y] (by rfl) (by rfl) (World.news_of_block (heap_new w1 (.cells #[.bool y] 4))) (by simp [Value.oneCell']) (by omega) (by (unfold maxLen); omega) (by omega) (Nat.le_trans hbl.size (Nat.le_trans hb1'.size (by simp))) (w1.heap.size + 1) (by simp) ?_; intro g' cap' w2 hown hgrow hat hlt')
            go_roundw
            case rel =>
              obtain ⟨f1, f2⟩ := fin.out w1 w2 g' cap' hb1' hown hgrow
              exact ⟨k + 1, by omega, by go_num, f1, f2⟩
            case measure => simp [intOf]; omega
        · subst hm0
          subst hrn
          clear hr0 hwrap hcap
          go_wp2_with (go_at_call 67; refine (GO0.out _).mono ?_; rintro e u1 ⟨rfl, hu⟩; subst u1)
          go_region_with (first
            | (go_at_call 75; refine (GC.out _ _ hbd.out (by first | (intro h0; exact absurd h0 (by omega)) | (intro h0; rfl) | (intro h0; simp [Addr.add, hnm]) | (intro h0; simp [Addr.add]; omega))).mono ?_; rintro e w1 ⟨rfl, hb1⟩; have hb1' := bl_step hbd.out hb1)
            | fail)
          all_goals
            go_wp2_with (at_builtin; refine wpList_append_lies _ (by rfl) _ _ _ (by rfl) w.heap.size 4 i0 (.bool false) 1 1 Tryz.underlying77 hi hz0 hz1 hz2 rfl (by decide) (.slice (some ⟨g, 0, none⟩) r _) r xs (by rfl) (hOx.out _ (bl_step hb1' (al' w1 _))) ⟨w1.heap.size, 0, none⟩ 1 1 [.bool y] (by rfl) (by rfl) (World.news_of_block (heap_new w1 (.cells #[.bool y] 4))) (by simp [Value.oneCell']) (by omega) (by (unfold maxLen); omega) (by omega) (Nat.le_trans hbl.size (Nat.le_trans hb1'.size (by simp))) (w1.heap.size + 1) (by simp) ?_; intro g' cap' w2 hown hgrow hat hlt')
            go_roundw
            case rel =>
              obtain ⟨f1, f2⟩ := fin.out w1 w2 g' cap' hb1' hown hgrow
              exact ⟨k + 1, by omega, by go_num, f1, f2⟩
            case measure => simp [intOf]; omega
        · clear hwrap
          go_wp2_with (go_at_call 67; refine (GO0.out _).mono ?_; rintro e u1 ⟨rfl, hu⟩; subst u1)
          go_region_with (first
            | (go_at_call 75; refine (GC.out _ _ hbd.out (by first | (intro h0; exact absurd h0 (by omega)) | (intro h0; rfl) | (intro h0; simp [Addr.add, hnm]) | (intro h0; simp [Addr.add]; omega))).mono ?_; rintro e w1 ⟨rfl, hb1⟩; have hb1' := bl_step hbd.out hb1)
            | fail)
          all_goals
            go_wp2_with (at_builtin; refine wpList_append_lies _ (by rfl) _ _ _ (by rfl) w.heap.size 4 i0 (.bool false) 1 1 Tryz.underlying77 hi hz0 hz1 hz2 rfl (by decide) (.slice (some ⟨g, 0, none⟩) r _) r xs (by rfl) (hOx.out _ (bl_step hb1' (al' w1 _))) ⟨w1.heap.size, 0, none⟩ 1 1 [.bool y] (by rfl) (by rfl) (World.news_of_block (heap_new w1 (.cells #[.bool y] 4))) (by simp [Value.oneCell']) (by omega) (by (unfold maxLen); omega) (by omega) (Nat.le_trans hbl.size (Nat.le_trans hb1'.size (by simp))) (w1.heap.size + 1) (by simp) ?_; intro g' cap' w2 hown hgrow hat hlt')
            go_roundw
            case rel =>
              obtain ⟨f1, f2⟩ := fin.out w1 w2 g' cap' hb1' hown hgrow
              exact ⟨k + 1, by omega, by go_num, f1, f2⟩
            case measure => simp [intOf]; omega

    · have hltz : ¬ (k : Int) < (l.length : Int) := by omega
      have e : k = l.length := by omega
      subst e
      rw [hend.out] at hO
      rcases hO.out.shape with ⟨_, hvs⟩ | ⟨g, cap, hd, hcap, hg1, hg2⟩
      · cases hvs
      · subst hd
        have hc := hO.out.at 0 (by simp)
        simp at hc
        clear hn60 hO
        go_wp2
        go_ret
        exact ⟨rfl, hbl⟩

set_option maxRecDepth 20000 in
theorem nullPYes (v : Value) (t : Rx) (w : World) (hA : Cels w v (post t)) (ho : t.ok) (h60 : (post t).length ≤ 60) : Calls Tryz.prog 55 #[v] w fun e w' => e = .returned (.bool t.null) ∧ Below w.heap.size w w' := by
  have G := hid (rightP v _ w hA)
  rw [right_post ho h60] at G
  have GF := hid (fun u (hu : Below w.heap.size w u) => foldNull v t u (hA.keep hu) ho h60)
  obtain ⟨av, cv, rfl, _⟩ := hA
  generalize (post t).length = n at G GF
  generalize t.null = R at GF ⊢
  go_enter Tryz.func55, Tryz.ntmps55
  go_wp2_with (first
    | (go_at_call 47; refine G.out.mono ?_; rintro e w1 ⟨rfl, hb1⟩)
    | (go_at_call 74; refine (GF.out _ hb1).mono ?_; rintro e w2 ⟨rfl, hb2⟩))
  go_ret
  exact ⟨rfl, bl_step hb1 hb2⟩

end Go.Proofs.YthgbjhnknepefaaGreat
