/- A rule's cells, gone through with a stack of rules. fold, of texts: what a cell makes of those behind. fold, of texts. Show; what is asked of package regex, here. -/
import Derived.Test.YtcledgljbmepaaaGreatDoorJ4
import Derived.Test.YtcledgljbmepaaaGreatDoorJ29
import Derived.Test.YtcledgljbmepaaaGreatDoorJ12
import Derived.Test.YtcledgljbmepaaaGreatDoorJ9
import Derived.Laws.OwnMore
import Derived.Deep.AppendLies
import Derived.Deep.RegionLaw
namespace Go.Proofs.YtcledgljbmepaaaGreatDoor
open Go.RowKit

/-- a cell, with the rules that lie there, the last first -/
def stepS (st : List Rx) (c : Cel) : List Rx :=
  if c.op = 1 then .set c.s :: st
  else if c.op = 2 then .eps :: st
  else if c.op = 3 then match st with | b :: a :: r => .cat a b :: r | r => r
  else if c.op = 4 then match st with | b :: a :: r => .or a b :: r | r => r
  else if c.op = 5 then match st with | a :: r => .star a :: r | r => r
  else if c.op = 6 then match st with | a :: r => .plus a :: r | r => r
  else match st with | a :: r => .opt a :: r | r => r
def stK (l : List Cel) (k : Nat) : List Rx := (l.take k).foldl stepS []
theorem fold_post : ∀ (t : Rx) (st : List Rx), (post t).foldl stepS st = t :: st
  | .set S, st => by simp [post, stepS]
  | .eps, st => by simp [post, stepS]
  | .cat a b, st => by
    show (post a ++ (post b ++ [(⟨3, noneB⟩ : Cel)])).foldl stepS st = _
    rw [List.foldl_append, fold_post a st, List.foldl_append, fold_post b (a :: st)]
    simp [stepS]
  | .or a b, st => by
    show (post a ++ (post b ++ [(⟨4, noneB⟩ : Cel)])).foldl stepS st = _
    rw [List.foldl_append, fold_post a st, List.foldl_append, fold_post b (a :: st)]
    simp [stepS]
  | .star a, st => by
    show (post a ++ [(⟨5, noneB⟩ : Cel)]).foldl stepS st = _
    rw [List.foldl_append, fold_post a st]
    simp [stepS]
  | .plus a, st => by
    show (post a ++ [(⟨6, noneB⟩ : Cel)]).foldl stepS st = _
    rw [List.foldl_append, fold_post a st]
    simp [stepS]
  | .opt a, st => by
    show (post a ++ [(⟨7, noneB⟩ : Cel)]).foldl stepS st = _
    rw [List.foldl_append, fold_post a st]
    simp [stepS]
theorem stK_end (t : Rx) : stK (post t) (post t).length = [t] := by
  unfold stK
  rw [List.take_length, fold_post]
theorem stK_succ (l : List Cel) (k : Nat) (h : k < l.length) : stK l (k + 1) = stepS (stK l k) l[k] := by
  unfold stK
  rw [List.take_succ_eq_append_getElem h, List.foldl_append]
  rfl
theorem stepS_len {st : List Rx} {c : Cel} (h0 : 0 ≤ wants c.op) (h1 : wants c.op ≤ (st.length : Int)) : ((stepS st c).length : Int) = (st.length : Int) - wants c.op + 1 := by
  obtain ⟨op, S⟩ := c
  simp only at h0 h1 ⊢
  rcases wants_cases op h0 with ⟨rfl, hw⟩ | ⟨rfl, hw⟩ | ⟨rfl, hw⟩ | ⟨rfl, hw⟩ | ⟨rfl, hw⟩ | ⟨rfl, hw⟩ | ⟨rfl, hw⟩
  · rw [hw]; simp [stepS]
  · rw [hw]; simp [stepS]
  · rw [hw] at h1 ⊢
    match st, h1 with
    | b :: a :: r, _ => simp [stepS]; omega
    | [_], h => simp at h
    | [], h => simp at h
  · rw [hw] at h1 ⊢
    match st, h1 with
    | b :: a :: r, _ => simp [stepS]; omega
    | [_], h => simp at h
    | [], h => simp at h
  · rw [hw] at h1 ⊢
    match st, h1 with
    | a :: r, _ => simp [stepS]
    | [], h => simp at h
  · rw [hw] at h1 ⊢
    match st, h1 with
    | a :: r, _ => simp [stepS]
    | [], h => simp at h
  · rw [hw] at h1 ⊢
    match st, h1 with
    | a :: r, _ => simp [stepS]
    | [], h => simp at h
/-- of a right rule: at each cell its operands lie there -/
theorem stK_right {l : List Cel} (hr : rightB l = true) : ∀ k, k ≤ l.length → depthN l k = some ((stK l k).length : Int)
  | 0, _ => rfl
  | k + 1, hk => by
    have ih := stK_right hr k (by omega)
    have hd : depthN l (k + 1) ≠ none := fun e => by
      have := right_bad (depth_none l e l.length hk)
      rw [hr] at this
      cases this
    rw [depth_succ l ih (by omega)] at hd ⊢
    rw [stK_succ l k (by omega)]
    by_cases hb : badC ((stK l k).length : Int) l[k] = true
    · rw [if_pos hb] at hd; exact absurd rfl hd
    · rw [if_neg hb]
      simp only [badC, Bool.or_eq_true, decide_eq_true_eq, not_or, Int.not_lt] at hb
      rw [stepS_len hb.1.1 hb.1.2]
theorem stK_wants {l : List Cel} (hr : rightB l = true) (k : Nat) (hk : k < l.length) : 0 ≤ wants l[k].op ∧ wants l[k].op ≤ ((stK l k).length : Int) := by
  have h1 := stK_right hr (k + 1) hk
  rw [depth_succ l (stK_right hr k (by omega)) hk] at h1
  by_cases hb : badC ((stK l k).length : Int) l[k] = true
  · rw [if_pos hb] at h1; cases h1
  · simp only [badC, Bool.or_eq_true, decide_eq_true_eq, not_or, Int.not_lt] at hb
    exact hb.1
/-- the first of a row -/
theorem own_cut {w : World} {base size n g cap : Nat} {e : TypeId} {xs : List Value} (h : w.ownsRow base e size (.slice (some ⟨g, 0, none⟩) n cap) n xs) (r : Nat) (hr : r ≤ n) : w.ownsRow base e size (.slice (some ⟨g, 0, none⟩) r cap) r (xs.take (r * size)) := by
  rcases h.2 with ⟨e', _⟩ | ⟨g', cap', cur, e', h1, h2, h3, h4, h5, h6⟩
  · cases e'
  · injection e' with e1 e2 e3
    subst e3
    injection e1 with e1
    injection e1 with e1
    subst e1
    have hle : r * size ≤ n * size := Nat.mul_le_mul_right _ hr
    refine ⟨by rw [List.length_take, h.1]; omega, .inr ⟨g, cap, cur, rfl, h1, h2, by omega, h4, h5, ?_⟩⟩
    rw [← h6, List.take_take, Nat.min_eq_left hle]

end Go.Proofs.YtcledgljbmepaaaGreatDoor
namespace Go.Proofs.YtcledgljbmepaaaGreatDoor
open Go.RowKit

set_option maxRecDepth 20000 in
theorem Tryz.infoS143 : (Tryz.prog.info? 143).map (fun i => (i.zero, i.size, i.bytes)) = some (some (.agg #[.string ⟨#[]⟩, .int .i64 0]), 2, 24) := by kernel_rfl
set_option maxRecDepth 20000 in
theorem Tryz.sizeS (u : World) : (sizeOf 143).run Tryz.prog u = .ok 2 u := by kernel_rfl
set_option maxRecDepth 20000 in
theorem Tryz.elemS : Tryz.prog.elem 155 = 143 := by kernel_rfl
set_option maxRecDepth 20000 in
theorem cutS_hi (g n cap r : Nat) (h : r ≤ cap) (u : World) : (Instr.slice 155 (.slice (some ⟨g, 0, none⟩) n cap) none (some (.int .i64 (r : Int))) none).run Tryz.prog u = .ok (.slice (some ⟨g, 0, none⟩) r cap) u := by
  rw [run_slice_h u 155 _ _ _ Tryz.underlying155 .i64 _ (by omega) (by omega), Tryz.elemS, Tryz.sizeS]
  simp [sliced, Addr.add]
set_option maxRecDepth 20000 in
theorem cutS_nil2 (u : World) : (Instr.slice 155 (.slice none 0 0) none (some (.int .i64 0)) none).run Tryz.prog u = .ok (.slice none 0 0) u := by
  rw [run_slice_h u 155 _ _ _ Tryz.underlying155 .i64 _ (by omega) (by omega), Tryz.elemS, Tryz.sizeS]
  simp [sliced]
set_option maxRecDepth 20000 in
theorem cutS_nil (u : World) : (Instr.slice 155 (.slice none 0 0) (some (.int .i64 0)) none none).run Tryz.prog u = .ok (.slice none 0 0) u := by
  rw [run_slice_l u 155 _ _ _ Tryz.underlying155 .i64 _ (by omega) (by omega), Tryz.elemS, Tryz.sizeS]
  simp [sliced]

abbrev Sh := Txt × Nat
def shOf (t : Rx) : Sh := (txt t, power t - 1)
def valsS (st : List Rx) : List Sh := st.reverse.map shOf
theorem valsS_len (st : List Rx) : (valsS st).length = st.length := by simp [valsS]
theorem valsS_cons (t : Rx) (st : List Rx) : valsS (t :: st) = valsS st ++ [shOf t] := by simp [valsS]
def cellsS (x : Sh) : List Value := [.string (strT x.1), .int .i64 (x.2 : Int)]
def flatS (l : List Sh) : List Value := l.flatMap cellsS
theorem flatS_app (l m : List Sh) : flatS (l ++ m) = flatS l ++ flatS m := by unfold flatS; rw [List.flatMap_append]
theorem flatS_len : ∀ l : List Sh, (flatS l).length = l.length * 2
  | [] => rfl
  | c :: t => by
    have ih := flatS_len t
    unfold flatS at ih ⊢
    rw [List.flatMap_cons, List.length_append, ih, List.length_cons]
    simp [cellsS]
    omega
theorem flatS_at : ∀ (l : List Sh) (j : Nat) (hj : j < l.length), (flatS l)[j * 2]? = some (.string (strT l[j].1)) ∧ (flatS l)[j * 2 + 1]? = some (.int .i64 (l[j].2 : Int))
  | c :: t, 0, _ => ⟨rfl, rfl⟩
  | c :: t, j + 1, hj => by
    have ih := flatS_at t j (by simpa using hj)
    have e : flatS (c :: t) = cellsS c ++ flatS t := by unfold flatS; rw [List.flatMap_cons]
    rw [e, show (j + 1) * 2 = 2 + j * 2 by omega, show 2 + j * 2 + 1 = 2 + (j * 2 + 1) by omega, List.getElem?_append_right (by simp [cellsS]), List.getElem?_append_right (by simp [cellsS])]
    simpa [cellsS] using ih
theorem flatS_take (l : List Sh) (r : Nat) (h : r ≤ l.length) : (flatS l).take (r * 2) = flatS (l.take r) := by
  have e : flatS l = flatS (l.take r) ++ flatS (l.drop r) := by rw [← flatS_app, List.take_append_drop]
  rw [e]
  exact List.take_left' (by rw [flatS_len, List.length_take]; omega)
theorem power_as (t : Rx) : power t - 1 ≤ 2 := by cases t <;> simp [power]
set_option maxRecDepth 20000 in
theorem wi_par (q : Nat) (t : Rx) : wi (power t - 1) q (txt t) = par (q + 1) t (txt t) := by
  unfold wi par
  have hp : 1 ≤ power t := by cases t <;> simp [power]
  by_cases h : power t - 1 < q
  · rw [if_pos h, if_pos (by omega)]
  · rw [if_neg h, if_neg (by omega)]
/-- a cell's text: from how many of those behind, and what -/
def ShownAt (OK : World → Prop) (c : Cel) (vs : List Sh) (m r : Nat) (y : Sh) : Prop :=
  wants c.op = (m : Int) ∧ vs.length = r + m ∧
  (m = 0 → ∀ v u, OK u → Calls Tryz.prog 85 #[celV c.op c.s.a c.s.b c.s.c c.s.d, v] u fun e w' => e = .returned (shV (strT y.1) (y.2 : Int)) ∧ Below u.heap.size u w') ∧
  (0 < m → ∀ g cap u, OK u → (∀ j (hj : j < vs.length), u.cell? ⟨g, j * 2, none⟩ = some (.string (strT vs[j].1)) ∧ u.cell? ⟨g, j * 2 + 1, none⟩ = some (.int .i64 (vs[j].2 : Int))) → Calls Tryz.prog 85 #[celV c.op c.s.a c.s.b c.s.c c.s.d, .slice (some ⟨g, r * 2, none⟩) m cap] u fun e w' => e = .returned (shV (strT y.1) (y.2 : Int)) ∧ Below u.heap.size u w')
theorem shown_step (st : List Rx) (c : Cel) (hf : Fit4 c.s) (hlen : ∀ t ∈ st, (txt t).length ≤ 200000) (h0 : 0 ≤ wants c.op) (h1 : wants c.op ≤ (st.length : Int)) : ∃ m r y, ShownAt Tab c (valsS st) m r y ∧ valsS (stepS st c) = (valsS st).take r ++ [y] := by
  obtain ⟨op, S⟩ := c
  simp only at h0 h1 hf
  rcases wants_cases op h0 with ⟨rfl, hw⟩ | ⟨rfl, hw⟩ | ⟨rfl, hw⟩ | ⟨rfl, hw⟩ | ⟨rfl, hw⟩ | ⟨rfl, hw⟩ | ⟨rfl, hw⟩
  · refine ⟨0, (valsS st).length, (toldL S, 2), ⟨hw, rfl, fun _ v u hu => shSet _ _ _ _ v u hf hu, fun h => absurd h (by omega)⟩, ?_⟩
    rw [List.take_length]
    exact valsS_cons _ _
  · refine ⟨0, (valsS st).length, ([40, 41], 2), ⟨hw, rfl, fun _ v u _ => shEps _ _ _ _ v u, fun h => absurd h (by omega)⟩, ?_⟩
    rw [List.take_length]
    exact valsS_cons _ _
  · rw [hw] at h1
    match st, h1 with
    | b :: a :: r, _ =>
      have hl := valsS_len r
      have hv : valsS (b :: a :: r) = valsS r ++ [shOf a, shOf b] := by rw [valsS_cons, valsS_cons]; simp
      refine ⟨2, r.length, shOf (.cat a b), ⟨hw, by rw [hv]; simp [hl], fun h => absurd h (by omega), fun _ g cap u hu hc => ?_⟩, ?_⟩
      · have e0 := hc r.length (by rw [hv]; simp [hl])
        have e1 := hc (r.length + 1) (by rw [hv]; simp [hl])
        simp only [hv] at e0 e1
        rw [List.getElem_append_right (by omega)] at e0 e1
        simp [hl] at e0 e1
        rw [show (r.length + 1) * 2 = r.length * 2 + 2 by omega] at e1
        have := shCat S.a S.b S.c S.d (txt a) (txt b) (power a - 1) (power b - 1) g (r.length * 2) cap u (power_as a) (power_as b) (hlen a (by simp)) (hlen b (by simp)) e0.1 e0.2 e1.1 e1.2
        rw [wi_par, wi_par] at this
        exact this
      · rw [hv, show stepS (b :: a :: r) ⟨3, S⟩ = .cat a b :: r by simp [stepS], valsS_cons, ← hl, List.take_left]
    | [_], h => simp at h
    | [], h => simp at h
  · rw [hw] at h1
    match st, h1 with
    | b :: a :: r, _ =>
      have hl := valsS_len r
      have hv : valsS (b :: a :: r) = valsS r ++ [shOf a, shOf b] := by rw [valsS_cons, valsS_cons]; simp
      refine ⟨2, r.length, shOf (.or a b), ⟨hw, by rw [hv]; simp [hl], fun h => absurd h (by omega), fun _ g cap u hu hc => ?_⟩, ?_⟩
      · have e0 := hc r.length (by rw [hv]; simp [hl])
        have e1 := hc (r.length + 1) (by rw [hv]; simp [hl])
        simp only [hv] at e0 e1
        rw [List.getElem_append_right (by omega)] at e0 e1
        simp [hl] at e0 e1
        rw [show (r.length + 1) * 2 = r.length * 2 + 2 by omega] at e1
        have := shOr S.a S.b S.c S.d (txt a) (txt b) (power a - 1) (power b - 1) g (r.length * 2) cap u (power_as a) (power_as b) (hlen a (by simp)) (hlen b (by simp)) e0.1 e0.2 e1.1 e1.2
        rw [wi_par, wi_par] at this
        exact this
      · rw [hv, show stepS (b :: a :: r) ⟨4, S⟩ = .or a b :: r by simp [stepS], valsS_cons, ← hl, List.take_left]
    | [_], h => simp at h
    | [], h => simp at h
  · rw [hw] at h1
    match st, h1 with
    | a :: r, _ =>
      have hl := valsS_len r
      have hv : valsS (a :: r) = valsS r ++ [shOf a] := valsS_cons _ _
      refine ⟨1, r.length, shOf (.star a), ⟨hw, by rw [hv]; simp [hl], fun h => absurd h (by omega), fun _ g cap u hu hc => ?_⟩, ?_⟩
      · have e0 := hc r.length (by rw [hv]; simp [hl])
        simp only [hv] at e0
        rw [List.getElem_append_right (by omega)] at e0
        simp [hl] at e0
        have := shOne 5 S.a S.b S.c S.d (txt a) (power a - 1) g (r.length * 2) cap u (Or.inl rfl) (power_as a) (hlen a (by simp)) e0.1 e0.2
        rw [wi_par] at this
        exact this
      · rw [hv, show stepS (a :: r) ⟨5, S⟩ = .star a :: r by simp [stepS], valsS_cons, ← hl, List.take_left]
    | [], h => simp at h
  · rw [hw] at h1
    match st, h1 with
    | a :: r, _ =>
      have hl := valsS_len r
      have hv : valsS (a :: r) = valsS r ++ [shOf a] := valsS_cons _ _
      refine ⟨1, r.length, shOf (.plus a), ⟨hw, by rw [hv]; simp [hl], fun h => absurd h (by omega), fun _ g cap u hu hc => ?_⟩, ?_⟩
      · have e0 := hc r.length (by rw [hv]; simp [hl])
        simp only [hv] at e0
        rw [List.getElem_append_right (by omega)] at e0
        simp [hl] at e0
        have := shOne 6 S.a S.b S.c S.d (txt a) (power a - 1) g (r.length * 2) cap u (Or.inr (Or.inl rfl)) (power_as a) (hlen a (by simp)) e0.1 e0.2
        rw [wi_par] at this
        exact this
      · rw [hv, show stepS (a :: r) ⟨6, S⟩ = .plus a :: r by simp [stepS], valsS_cons, ← hl, List.take_left]
    | [], h => simp at h
  · rw [hw] at h1
    match st, h1 with
    | a :: r, _ =>
      have hl := valsS_len r
      have hv : valsS (a :: r) = valsS r ++ [shOf a] := valsS_cons _ _
      refine ⟨1, r.length, shOf (.opt a), ⟨hw, by rw [hv]; simp [hl], fun h => absurd h (by omega), fun _ g cap u hu hc => ?_⟩, ?_⟩
      · have e0 := hc r.length (by rw [hv]; simp [hl])
        simp only [hv] at e0
        rw [List.getElem_append_right (by omega)] at e0
        simp [hl] at e0
        have := shOne 7 S.a S.b S.c S.d (txt a) (power a - 1) g (r.length * 2) cap u (Or.inr (Or.inr rfl)) (power_as a) (hlen a (by simp)) e0.1 e0.2
        rw [wi_par] at this
        exact this
      · rw [hv, show stepS (a :: r) ⟨7, S⟩ = .opt a :: r by simp [stepS], valsS_cons, ← hl, List.take_left]
    | [], h => simp at h

end Go.Proofs.YtcledgljbmepaaaGreatDoor
namespace Go.Proofs.YtcledgljbmepaaaGreatDoor
open Go.RowKit

abbrev OwnS (w : World) (B : Nat) (v : Value) (l : List Sh) : Prop := w.ownsRow B 143 2 v l.length (flatS l)
theorem OwnS.shape {w : World} {B : Nat} {v : Value} {l : List Sh} (h : OwnS w B v l) : (v = .slice none 0 0 ∧ l = []) ∨ ∃ g cap, v = .slice (some ⟨g, 0, none⟩) l.length cap ∧ l.length ≤ cap ∧ B ≤ g ∧ g < w.heap.size := by
  have h' := h
  rcases h.2 with ⟨rfl, h0⟩ | ⟨g, cap, cur, rfl, hb, _, hc, _⟩
  · exact Or.inl ⟨rfl, List.length_eq_zero_iff.1 h0⟩
  · exact Or.inr ⟨g, cap, rfl, hc, hb, (h'.lt g rfl).2⟩
theorem OwnS.at {w : World} {B g cap : Nat} {l : List Sh} (h : OwnS w B (.slice (some ⟨g, 0, none⟩) l.length cap) l) : ∀ j (hj : j < l.length), w.cell? ⟨g, j * 2, none⟩ = some (.string (strT l[j].1)) ∧ w.cell? ⟨g, j * 2 + 1, none⟩ = some (.int .i64 (l[j].2 : Int)) := fun j hj => by
  obtain ⟨f0, f1⟩ := flatS_at l j hj
  have a0 := h.cells rfl _ _ f0
  have a1 := h.cells rfl _ _ f1
  rw [Go.WideShapes.add_plain] at a0 a1
  exact ⟨by simpa using a0, by simpa using a1⟩
theorem lain_size : ∀ st : List Rx, st.length ≤ (lain st).length
  | [] => Nat.le_refl _
  | x :: st => by
    have ih := lain_size st
    have := post_pos x
    have e : (lain (x :: st)).length = (lain st).length + (post x).length := by simp [lain]
    rw [e, List.length_cons]
    omega
theorem lain_mem : ∀ (st : List Rx) (t : Rx), t ∈ st → (post t).length ≤ (lain st).length
  | x :: st, t, h => by
    have e : (lain (x :: st)).length = (lain st).length + (post x).length := by simp [lain]
    rw [e]
    rcases List.mem_cons.1 h with rfl | h
    · omega
    · have := lain_mem st t h; omega
theorem step_lain {st : List Rx} {c : Cel} (h0 : 0 ≤ wants c.op) (h1 : wants c.op ≤ (st.length : Int)) : (lain (stepS st c)).length = (lain st).length + 1 := by
  obtain ⟨op, S⟩ := c
  simp only at h0 h1 ⊢
  rcases wants_cases op h0 with ⟨rfl, hw⟩ | ⟨rfl, hw⟩ | ⟨rfl, hw⟩ | ⟨rfl, hw⟩ | ⟨rfl, hw⟩ | ⟨rfl, hw⟩ | ⟨rfl, hw⟩
  · simp [stepS, lain, post]
  · simp [stepS, lain, post]
  · rw [hw] at h1
    match st, h1 with
    | b :: a :: r, _ => simp [stepS, lain, post]; omega
    | [_], h => simp at h
    | [], h => simp at h
  · rw [hw] at h1
    match st, h1 with
    | b :: a :: r, _ => simp [stepS, lain, post]; omega
    | [_], h => simp at h
    | [], h => simp at h
  · rw [hw] at h1
    match st, h1 with
    | a :: r, _ => simp [stepS, lain, post]; omega
    | [], h => simp at h
  · rw [hw] at h1
    match st, h1 with
    | a :: r, _ => simp [stepS, lain, post]; omega
    | [], h => simp at h
  · rw [hw] at h1
    match st, h1 with
    | a :: r, _ => simp [stepS, lain, post]; omega
    | [], h => simp at h
theorem stK_lain {l : List Cel} (hr : rightB l = true) : ∀ k, k ≤ l.length → (lain (stK l k)).length = k
  | 0, _ => rfl
  | k + 1, hk => by
    have hw := stK_wants hr k (by omega)
    rw [stK_succ l k (by omega), step_lain hw.1 hw.2, stK_lain hr k (by omega)]
theorem stK_txt {l : List Cel} (hr : rightB l = true) (h60 : l.length ≤ 60) (k : Nat) (hk : k ≤ l.length) : ∀ t ∈ stK l k, (txt t).length ≤ 200000 := fun t ht => by
  have h1 := lain_mem _ t ht
  rw [stK_lain hr k hk] at h1
  have := txt_len t
  have : 3000 * (post t).length ≤ 3000 * 60 := Nat.mul_le_mul_left _ (by omega)
  omega

set_option maxRecDepth 20000 in
set_option maxHeartbeats 4000000 in
theorem foldShow (v : Value) (t : Rx) (w : World) (hA : Cels w v (post t)) (ho : t.ok) (h60 : (post t).length ≤ 60) (hT : Tab w) :
    Calls Tryz.prog 84 #[v, .func (.func 85) #[] #[]] w fun e w' => e = .returned (shV (strT (txt t)) ((power t - 1 : Nat) : Int)) ∧ Below w.heap.size w w' := by
  obtain ⟨i0, hi, hz0, hz1, hz2⟩ := info_parts Tryz.infoS143
  have hrt := right_post ho h60
  have hend : Hid (valsS (stK (post t) (post t).length) = [(txt t, power t - 1)]) := hid (by rw [stK_end]; rfl)
  obtain ⟨l, hl⟩ : ∃ l, l = post t := ⟨_, rfl⟩
  rw [← hl] at hA hrt hend h60
  have hpos : 0 < l.length := by rw [hl]; exact post_pos t
  obtain ⟨av, cv, rfl, _, _, hFl, hAt⟩ := hA
  have hAt := hid hAt
  have hstep := hid (fun k (hk : k < l.length) => shown_step (stK l k) l[k] (hFl _ (List.getElem_mem hk)).s (stK_txt hrt h60 k (by omega)) (stK_wants hrt k hk).1 (stK_wants hrt k hk).2)
  have hsuc := hid (fun k (hk : k < l.length) => stK_succ l k hk)
  have hk60 : Hid (∀ k, k ≤ l.length → (valsS (stK l k)).length ≤ 60) := hid (fun k hk => by
    rw [valsS_len]
    have h2 := lain_size (stK l k)
    rw [stK_lain hrt k hk] at h2
    omega)
  have h00 := hid (show valsS (stK l 0) = [] from rfl)
  have GO := hid operandsC
  have hTab := hid (fun u (hu : Below w.heap.size w u) => hT.keep hu)
  have hR0 := hid (heap_new w (.cells #[.string ⟨#[]⟩, .int .i64 0] 143))
  clear ho hrt hl hT
  generalize hTX : strT (txt t) = TX
  have hTX' := hid hTX
  generalize hPX : power t - 1 = PX at hend ⊢
  clear hTX hPX
  go_enter Tryz.func84, Tryz.ntmps84
  go_wp2
  go_loopw [5, 12] (fun dv i wr => ∃ k : Nat, k ≤ l.length ∧ i = .int .i64 k ∧ Hid (OwnS wr (w.heap.size + 1) dv (valsS (stK l k))) ∧ Hid (wr.heap[w.heap.size]? = some (.cells #[.string ⟨#[]⟩, .int .i64 0] 143 (0, 0))) ∧ Below w.heap.size w wr) (fun _ i _ => l.length - (intOf i).toNat)
  case atStart => exact ⟨0, Nat.zero_le _, rfl, hid (by rw [h00.out]; exact World.ownsRow_nil _ _ _ _), hR0, al' w _⟩
  case round =>
    obtain ⟨k, hk, rfl, hO, hRb, hbl⟩ := hrel
    have hn60 := hk60.out k hk
    have hszr : w.heap.size + 1 ≤ wr.heap.size := blk_lt hRb.out
    by_cases hlt : k < l.length
    · have hltz : (k : Int) < (l.length : Int) := by omega
      obtain ⟨b', o', rfl, hb', hat0⟩ := hAt.out k hlt
      have hat := hat0.keep hbl
      clear hat0
      obtain ⟨m, r, y, ⟨hw, hlen, hz, hp⟩, hv⟩ := hstep.out k hlt
      rw [← hsuc.out k hlt] at hv
      have hv' := hid hv
      clear hv
      generalize l[k] = c at hat hw hz hp
      obtain ⟨op, S⟩ := c
      obtain ⟨sa, sb, sc, sd⟩ := S
      obtain ⟨d0, d1, d2, d3, d4⟩ := hat
      simp only at d0 d1 d2 d3 d4 hw hz hp
      have GO0 := hid (fun u => GO.out op u)
      rw [hw] at GO0
      generalize valsS (stK l k) = vs at hO hv' hlen hz hp hn60
      have hbb := hid (al' wr (.cells #[.int .i64 op, .int .u64 (sa : Int), .int .u64 (sb : Int), .int .u64 (sc : Int), .int .u64 (sd : Int)] 112))
      have hbd := hid (hbb.out.drew)
      have hc0 := heap_new wr (.cells #[.int .i64 op, .int .u64 (sa : Int), .int .u64 (sb : Int), .int .u64 (sc : Int), .int .u64 (sd : Int)] 112)
      obtain ⟨q0, q1, q2, q3, q4⟩ := cells5 hc0
      have hbd2 := hid ((bl_step hbb.out (al' _ (.cells #[.string ⟨#[]⟩, .int .i64 0] 143))).drew)
      have hm2 := hid (show (((wr.alloc (.cells #[.int .i64 op, .int .u64 (sa : Int), .int .u64 (sb : Int), .int .u64 (sc : Int), .int .u64 (sd : Int)] 112)).alloc (.cells #[.string ⟨#[]⟩, .int .i64 0] 143)).drew).heap[wr.heap.size + 1]? = some (.cells #[.string ⟨#[]⟩, .int .i64 0] 143 (0, 0)) from (two_blocks wr _ _).2)
      obtain ⟨y1, y2⟩ := y
      simp only at hz hp
      generalize hY : strT y1 = Y at hz hp
      have hY' := hid hY
      clear hw hc0 hY
      rcases hO.out.shape with ⟨hd, hvs⟩ | ⟨g, cap, hd, hcap, hg1, hg2⟩
      · subst hvs
        subst hd
        have hm : m = 0 := by simp at hlen; omega
        have hr : r = 0 := by simp at hlen; omega
        subst hm hr
        have GC := hid (fun u (hu : Below w.heap.size w u) => hz rfl (.slice none 0 0) u (hTab.out u hu))
        have s1 := cutS_nil
        have s2 := cutS_nil2
        have hOn := hid (fun u => World.ownsRow_nil u (w.heap.size + 1) 143 2)
        clear hz hp hlen hO hn60
        have fin : Hid (∀ u w2 g' cap', Below wr.heap.size wr u → w2.ownsRow (w.heap.size + 1) 143 2 (.slice (some ⟨g', 0, none⟩) (0 + 1) cap') (0 + 1) ([] ++ [.string Y, .int .i64 (y2 : Int)]) → u.grownBy w2 none → Hid (OwnS w2 (w.heap.size + 1) (.slice (some ⟨g', 0, none⟩) (0 + 1) cap') (valsS (stK l (k + 1)))) ∧ Hid (w2.heap[w.heap.size]? = some (.cells #[.string ⟨#[]⟩, .int .i64 0] 143 (0, 0))) ∧ Below w.heap.size w w2) := hid (fun u w2 g' cap' hu hown hgrow => by
          refine ⟨hid ?_, hid ?_, ?_⟩
          · rw [hv'.out]
            unfold OwnS
            have hfl : flatS (List.take 0 ([] : List Sh) ++ [(y1, y2)]) = [] ++ [.string Y, .int .i64 (y2 : Int)] := by rw [← hY'.out]; rfl
            have hle : (List.take 0 ([] : List Sh) ++ [(y1, y2)]).length = 0 + 1 := rfl
            rw [hfl, hle]
            exact hown
          · exact (hgrow.block _ (Nat.lt_of_lt_of_le (Nat.lt_of_lt_of_le (Nat.lt_succ_self _) hszr) hu.size) (by simp)).trans ((hu.block _ (Nat.lt_of_lt_of_le (Nat.lt_succ_self _) hszr)).trans hRb.out)
          · exact (bl_step hbl hu).grown hgrow (Nat.le_trans hbl.size hu.size) (fun i hi => by cases hi))
        go_wp2_with (go_at_call 99; refine (GO0.out _).mono ?_; rintro e u1 ⟨rfl, hu⟩; subst u1)
        go_region_with (first
          | (go_at_call 85; refine (GC.out _ (bl_step hbl hbd.out)).mono ?_; rintro e w1 ⟨rfl, hb1⟩; have hb1' := bl_step hbd.out hb1)
          | (go_at_call 85; refine (GC.out _ (bl_step hbl hbd2.out)).mono ?_; rintro e w1 ⟨rfl, hb1⟩; have hb1' := bl_step hbd2.out hb1; have hm1 := hid ((hb1.block _ (blk_lt hm2.out)).trans hm2.out); obtain ⟨t0, t1, t2, t3⟩ := res2 hm1.out)
          | fail)
        all_goals
          first
            | (have hM : ((w1.setCell ⟨wr.heap.size + 1, 0, none⟩ (.string Y)).setCell ⟨wr.heap.size + 1, 1, none⟩ (.int .i64 (y2 : Int))).heap[wr.heap.size + 1]? = some (.cells #[.string Y, .int .i64 (y2 : Int)] 143 (0, 0)) := heap_setCell (heap_setCell hm1.out); have hbW := bl_two hb1' (b := wr.heap.size + 1) (.string Y) (.int .i64 (y2 : Int)) (by omega); clear t0 t1 t2 t3; generalize ((w1.setCell ⟨wr.heap.size + 1, 0, none⟩ (.string Y)).setCell ⟨wr.heap.size + 1, 1, none⟩ (.int .i64 (y2 : Int))) = W at hM hbW ⊢; generalize wr.heap.size + 1 = mb at hM ⊢)
            | (have hM := heap_new w1 (.cells #[.string Y, .int .i64 (y2 : Int)] 143); have hbW := bl_step hb1' (al' w1 (.cells #[.string Y, .int .i64 (y2 : Int)] 143)); generalize w1.alloc (.cells #[.string Y, .int .i64 (y2 : Int)] 143) = W at hM hbW ⊢; generalize w1.heap.size = mb at hM ⊢)
          have hMd : W.drew.heap[mb]? = some (.cells #[.string Y, .int .i64 (y2 : Int)] 143 (0, 0)) := hM
          obtain ⟨t0, t1, t2, t3⟩ := res2 hMd
          have hbWd := hid hbW.drew
          have hN := hid (World.news_of_block (w := W.drew.alloc (.cells #[.string Y, .int .i64 (y2 : Int)] 143)) (heap_new W.drew (.cells #[.string Y, .int .i64 (y2 : Int)] 143)))
          have hbase : w.heap.size + 1 ≤ W.heap.size := Nat.le_trans hszr hbW.size
          clear hM hMd hm2 hbd hbd2 hb1 hb1' hbb
          go_wp2_with fail
          go_region_law ((first
            | (refine step_append_lies _ (by rfl) (.tmp 30) (.tmp 32) 155 (by rfl) (w.heap.size + 1) 143 i0 (.agg #[.string ⟨#[]⟩, .int .i64 0]) 2 24 Tryz.underlying155 hi hz0 hz1 hz2 rfl (by decide) (.slice none 0 0) 0 [] (by rfl) (hOn.out _) ⟨W.heap.size, 0, none⟩ 1 1 [.string Y, .int .i64 (y2 : Int)] (by rfl) (by rfl) hN.out (by simp [Value.oneCell']) (by omega) (by (unfold maxLen); omega) (by omega) (Nat.le_trans hbase (by simp)) (W.heap.size + 1) (by simp) ?_; intro g' cap' w2 hown hgrow hat hlt'; have hfin := fin.out _ w2 g' cap' (bl_step hbWd.out (al' _ _)) hown hgrow)
            | fail))
          all_goals
            go_wp2
            obtain ⟨f1, f2, f3⟩ := hfin
            go_roundw
            case rel => exact ⟨k + 1, by omega, by go_num, f1, f2, f3⟩
            case measure => simp [intOf]; omega
      · subst hd
        have hr0 : (vs.length : Int) - (m : Int) = (r : Int) := by omega
        have s2 := cutS_hi g vs.length cap r (by omega)
        have hOc := own_cut hO.out r (by omega)
        rw [flatS_take vs r (by omega)] at hOc
        have hOx : Hid (∀ u, Below wr.heap.size wr u → u.ownsRow (w.heap.size + 1) 143 2 (.slice (some ⟨g, 0, none⟩) r cap) r (flatS (vs.take r))) := hid (fun u hu => own_below hOc hu)
        have hcells := hid (hO.out.at)
        have GC : Hid (∀ pv u, Below wr.heap.size wr u → (0 < m → pv = .slice (some ⟨g, r * 2, none⟩) m (cap - r)) → Calls Tryz.prog 85 #[celV op sa sb sc sd, pv] u fun e w' => e = .returned (shV Y (y2 : Int)) ∧ Below u.heap.size u w') := hid (fun pv u hu hpv => by
          rcases Nat.eq_zero_or_pos m with hm | hm
          · exact hz hm pv u (hTab.out u (bl_step hbl hu))
          · rw [hpv hm]; exact hp hm g (cap - r) u (hTab.out u (bl_step hbl hu)) (fun j hj => ⟨keep_cell hu (hcells.out j hj).1, keep_cell hu (hcells.out j hj).2⟩))
        have hcr : (m = 0 ∧ r = vs.length ∧ cap = r) ∨ (m = 0 ∧ r = vs.length ∧ ¬ cap = r) ∨ (0 < m ∧ ¬ cap = r ∧ vs.length - r = m) := by omega
        have hr60 : r ≤ 60 := by omega
        have hfl : Hid (flatS (vs.take r ++ [(y1, y2)]) = flatS (vs.take r) ++ [.string Y, .int .i64 (y2 : Int)]) := hid (by rw [flatS_app, ← hY'.out]; rfl)
        have hle : Hid ((vs.take r ++ [(y1, y2)]).length = r + 1) := hid (by rw [List.length_append, List.length_take]; simp; omega)
        have hgB := hid hg1
        clear hz hp hO hn60 hOc hcells hg1 hg2
        generalize flatS (vs.take r) = XS at hOx hfl
        generalize hnn : vs.length = n at s2 hr0 hlen hcap hcr
        clear hlen hnn
        have fin : Hid (∀ u w2 g' cap', Below wr.heap.size wr u → w2.ownsRow (w.heap.size + 1) 143 2 (.slice (some ⟨g', 0, none⟩) (r + 1) cap') (r + 1) (XS ++ [.string Y, .int .i64 (y2 : Int)]) → u.grownBy w2 (some g) → Hid (OwnS w2 (w.heap.size + 1) (.slice (some ⟨g', 0, none⟩) (r + 1) cap') (valsS (stK l (k + 1)))) ∧ Hid (w2.heap[w.heap.size]? = some (.cells #[.string ⟨#[]⟩, .int .i64 0] 143 (0, 0))) ∧ Below w.heap.size w w2) := hid (fun u w2 g' cap' hu hown hgrow => by
          refine ⟨hid ?_, hid ?_, ?_⟩
          · rw [hv'.out]
            unfold OwnS
            rw [hfl.out, hle.out]
            exact hown
          · exact (hgrow.block _ (Nat.lt_of_lt_of_le (Nat.lt_of_lt_of_le (Nat.lt_succ_self _) hszr) hu.size) (by have := hgB.out; simp; omega)).trans ((hu.block _ (Nat.lt_of_lt_of_le (Nat.lt_succ_self _) hszr)).trans hRb.out)
          · exact (bl_step hbl hu).grown hgrow (Nat.le_trans hbl.size hu.size) (fun i hi => by have := hgB.out; simp at hi; subst hi; omega))
        rcases hcr with ⟨hm0, hrn, hcr⟩ | ⟨hm0, hrn, hcr⟩ | ⟨hm0, hcr, hnm⟩
        · subst hm0
          subst hrn
          subst cap
          clear hr0 hcap
          go_wp2_with (go_at_call 99; refine (GO0.out _).mono ?_; rintro e u1 ⟨rfl, hu⟩; subst u1)
          go_region_with (first
            | (go_at_call 85; refine (GC.out _ _ hbd.out (by first | (intro h0; exact absurd h0 (by omega)) | (intro h0; rfl) | (intro h0; simp [Addr.add, hnm]) | (intro h0; simp [Addr.add]; omega))).mono ?_; rintro e w1 ⟨rfl, hb1⟩; have hb1' := bl_step hbd.out hb1)
            | (go_at_call 85; refine (GC.out _ _ hbd2.out (by first | (intro h0; exact absurd h0 (by omega)) | (intro h0; rfl) | (intro h0; simp [Addr.add, hnm]) | (intro h0; simp [Addr.add]; omega))).mono ?_; rintro e w1 ⟨rfl, hb1⟩; have hb1' := bl_step hbd2.out hb1; have hm1 := hid ((hb1.block _ (blk_lt hm2.out)).trans hm2.out); obtain ⟨t0, t1, t2, t3⟩ := res2 hm1.out)
            | fail)
          all_goals
            first
              | (have hM : ((w1.setCell ⟨wr.heap.size + 1, 0, none⟩ (.string Y)).setCell ⟨wr.heap.size + 1, 1, none⟩ (.int .i64 (y2 : Int))).heap[wr.heap.size + 1]? = some (.cells #[.string Y, .int .i64 (y2 : Int)] 143 (0, 0)) := heap_setCell (heap_setCell hm1.out); have hbW := bl_two hb1' (b := wr.heap.size + 1) (.string Y) (.int .i64 (y2 : Int)) (by omega); clear t0 t1 t2 t3; generalize ((w1.setCell ⟨wr.heap.size + 1, 0, none⟩ (.string Y)).setCell ⟨wr.heap.size + 1, 1, none⟩ (.int .i64 (y2 : Int))) = W at hM hbW ⊢; generalize wr.heap.size + 1 = mb at hM ⊢)
              | (have hM := heap_new w1 (.cells #[.string Y, .int .i64 (y2 : Int)] 143); have hbW := bl_step hb1' (al' w1 (.cells #[.string Y, .int .i64 (y2 : Int)] 143)); generalize w1.alloc (.cells #[.string Y, .int .i64 (y2 : Int)] 143) = W at hM hbW ⊢; generalize w1.heap.size = mb at hM ⊢)
            have hMd : W.drew.heap[mb]? = some (.cells #[.string Y, .int .i64 (y2 : Int)] 143 (0, 0)) := hM
            obtain ⟨t0, t1, t2, t3⟩ := res2 hMd
            have hbWd := hid hbW.drew
            have hN := hid (World.news_of_block (w := W.drew.alloc (.cells #[.string Y, .int .i64 (y2 : Int)] 143)) (heap_new W.drew (.cells #[.string Y, .int .i64 (y2 : Int)] 143)))
            have hbase : w.heap.size + 1 ≤ W.heap.size := Nat.le_trans hszr hbW.size
            clear hM hMd hm2 hbd hbd2 hb1 hb1' hbb
            go_wp2_with fail
            go_region_law ((first
              | (refine step_append_lies _ (by rfl) (.tmp 30) (.tmp 32) 155 (by rfl) (w.heap.size + 1) 143 i0 (.agg #[.string ⟨#[]⟩, .int .i64 0]) 2 24 Tryz.underlying155 hi hz0 hz1 hz2 rfl (by decide) (.slice (some ⟨g, 0, none⟩) r _) r XS (by rfl) (hOx.out _ (bl_step hbWd.out (al' _ _))) ⟨W.heap.size, 0, none⟩ 1 1 [.string Y, .int .i64 (y2 : Int)] (by rfl) (by rfl) hN.out (by simp [Value.oneCell']) (by omega) (by (unfold maxLen); omega) (by omega) (Nat.le_trans hbase (by simp)) (W.heap.size + 1) (by simp) ?_; intro g' cap' w2 hown hgrow hat hlt'; have hfin := fin.out _ w2 g' cap' (bl_step hbWd.out (al' _ _)) hown hgrow)
              | fail))
            all_goals
              go_wp2
              obtain ⟨f1, f2, f3⟩ := hfin
              go_roundw
              case rel => exact ⟨k + 1, by omega, by go_num, f1, f2, f3⟩
              case measure => simp [intOf]; omega
        · subst hm0
          subst hrn
          clear hr0 hcap
          go_wp2_with (go_at_call 99; refine (GO0.out _).mono ?_; rintro e u1 ⟨rfl, hu⟩; subst u1)
          go_region_with (first
            | (go_at_call 85; refine (GC.out _ _ hbd.out (by first | (intro h0; exact absurd h0 (by omega)) | (intro h0; rfl) | (intro h0; simp [Addr.add, hnm]) | (intro h0; simp [Addr.add]; omega))).mono ?_; rintro e w1 ⟨rfl, hb1⟩; have hb1' := bl_step hbd.out hb1)
            | (go_at_call 85; refine (GC.out _ _ hbd2.out (by first | (intro h0; exact absurd h0 (by omega)) | (intro h0; rfl) | (intro h0; simp [Addr.add, hnm]) | (intro h0; simp [Addr.add]; omega))).mono ?_; rintro e w1 ⟨rfl, hb1⟩; have hb1' := bl_step hbd2.out hb1; have hm1 := hid ((hb1.block _ (blk_lt hm2.out)).trans hm2.out); obtain ⟨t0, t1, t2, t3⟩ := res2 hm1.out)
            | fail)
          all_goals
            first
              | (have hM : ((w1.setCell ⟨wr.heap.size + 1, 0, none⟩ (.string Y)).setCell ⟨wr.heap.size + 1, 1, none⟩ (.int .i64 (y2 : Int))).heap[wr.heap.size + 1]? = some (.cells #[.string Y, .int .i64 (y2 : Int)] 143 (0, 0)) := heap_setCell (heap_setCell hm1.out); have hbW := bl_two hb1' (b := wr.heap.size + 1) (.string Y) (.int .i64 (y2 : Int)) (by omega); clear t0 t1 t2 t3; generalize ((w1.setCell ⟨wr.heap.size + 1, 0, none⟩ (.string Y)).setCell ⟨wr.heap.size + 1, 1, none⟩ (.int .i64 (y2 : Int))) = W at hM hbW ⊢; generalize wr.heap.size + 1 = mb at hM ⊢)
              | (have hM := heap_new w1 (.cells #[.string Y, .int .i64 (y2 : Int)] 143); have hbW := bl_step hb1' (al' w1 (.cells #[.string Y, .int .i64 (y2 : Int)] 143)); generalize w1.alloc (.cells #[.string Y, .int .i64 (y2 : Int)] 143) = W at hM hbW ⊢; generalize w1.heap.size = mb at hM ⊢)
            have hMd : W.drew.heap[mb]? = some (.cells #[.string Y, .int .i64 (y2 : Int)] 143 (0, 0)) := hM
            obtain ⟨t0, t1, t2, t3⟩ := res2 hMd
            have hbWd := hid hbW.drew
            have hN := hid (World.news_of_block (w := W.drew.alloc (.cells #[.string Y, .int .i64 (y2 : Int)] 143)) (heap_new W.drew (.cells #[.string Y, .int .i64 (y2 : Int)] 143)))
            have hbase : w.heap.size + 1 ≤ W.heap.size := Nat.le_trans hszr hbW.size
            clear hM hMd hm2 hbd hbd2 hb1 hb1' hbb
            go_wp2_with fail
            go_region_law ((first
              | (refine step_append_lies _ (by rfl) (.tmp 30) (.tmp 32) 155 (by rfl) (w.heap.size + 1) 143 i0 (.agg #[.string ⟨#[]⟩, .int .i64 0]) 2 24 Tryz.underlying155 hi hz0 hz1 hz2 rfl (by decide) (.slice (some ⟨g, 0, none⟩) r _) r XS (by rfl) (hOx.out _ (bl_step hbWd.out (al' _ _))) ⟨W.heap.size, 0, none⟩ 1 1 [.string Y, .int .i64 (y2 : Int)] (by rfl) (by rfl) hN.out (by simp [Value.oneCell']) (by omega) (by (unfold maxLen); omega) (by omega) (Nat.le_trans hbase (by simp)) (W.heap.size + 1) (by simp) ?_; intro g' cap' w2 hown hgrow hat hlt'; have hfin := fin.out _ w2 g' cap' (bl_step hbWd.out (al' _ _)) hown hgrow)
              | fail))
            all_goals
              go_wp2
              obtain ⟨f1, f2, f3⟩ := hfin
              go_roundw
              case rel => exact ⟨k + 1, by omega, by go_num, f1, f2, f3⟩
              case measure => simp [intOf]; omega
        · go_wp2_with (go_at_call 99; refine (GO0.out _).mono ?_; rintro e u1 ⟨rfl, hu⟩; subst u1)
          go_region_with (first
            | (go_at_call 85; refine (GC.out _ _ hbd.out (by first | (intro h0; exact absurd h0 (by omega)) | (intro h0; rfl) | (intro h0; simp [Addr.add, hnm]) | (intro h0; simp [Addr.add]; omega))).mono ?_; rintro e w1 ⟨rfl, hb1⟩; have hb1' := bl_step hbd.out hb1)
            | (go_at_call 85; refine (GC.out _ _ hbd2.out (by first | (intro h0; exact absurd h0 (by omega)) | (intro h0; rfl) | (intro h0; simp [Addr.add, hnm]) | (intro h0; simp [Addr.add]; omega))).mono ?_; rintro e w1 ⟨rfl, hb1⟩; have hb1' := bl_step hbd2.out hb1; have hm1 := hid ((hb1.block _ (blk_lt hm2.out)).trans hm2.out); obtain ⟨t0, t1, t2, t3⟩ := res2 hm1.out)
            | fail)
          all_goals
            first
              | (have hM : ((w1.setCell ⟨wr.heap.size + 1, 0, none⟩ (.string Y)).setCell ⟨wr.heap.size + 1, 1, none⟩ (.int .i64 (y2 : Int))).heap[wr.heap.size + 1]? = some (.cells #[.string Y, .int .i64 (y2 : Int)] 143 (0, 0)) := heap_setCell (heap_setCell hm1.out); have hbW := bl_two hb1' (b := wr.heap.size + 1) (.string Y) (.int .i64 (y2 : Int)) (by omega); clear t0 t1 t2 t3; generalize ((w1.setCell ⟨wr.heap.size + 1, 0, none⟩ (.string Y)).setCell ⟨wr.heap.size + 1, 1, none⟩ (.int .i64 (y2 : Int))) = W at hM hbW ⊢; generalize wr.heap.size + 1 = mb at hM ⊢)
              | (have hM := heap_new w1 (.cells #[.string Y, .int .i64 (y2 : Int)] 143); have hbW := bl_step hb1' (al' w1 (.cells #[.string Y, .int .i64 (y2 : Int)] 143)); generalize w1.alloc (.cells #[.string Y, .int .i64 (y2 : Int)] 143) = W at hM hbW ⊢; generalize w1.heap.size = mb at hM ⊢)
            have hMd : W.drew.heap[mb]? = some (.cells #[.string Y, .int .i64 (y2 : Int)] 143 (0, 0)) := hM
            obtain ⟨t0, t1, t2, t3⟩ := res2 hMd
            have hbWd := hid hbW.drew
            have hN := hid (World.news_of_block (w := W.drew.alloc (.cells #[.string Y, .int .i64 (y2 : Int)] 143)) (heap_new W.drew (.cells #[.string Y, .int .i64 (y2 : Int)] 143)))
            have hbase : w.heap.size + 1 ≤ W.heap.size := Nat.le_trans hszr hbW.size
            clear hM hMd hm2 hbd hbd2 hb1 hb1' hbb
            go_wp2_with fail
            go_region_law ((first
              | (refine step_append_lies _ (by rfl) (.tmp 30) (.tmp 32) 155 (by rfl) (w.heap.size + 1) 143 i0 (.agg #[.string ⟨#[]⟩, .int .i64 0]) 2 24 Tryz.underlying155 hi hz0 hz1 hz2 rfl (by decide) (.slice (some ⟨g, 0, none⟩) r _) r XS (by rfl) (hOx.out _ (bl_step hbWd.out (al' _ _))) ⟨W.heap.size, 0, none⟩ 1 1 [.string Y, .int .i64 (y2 : Int)] (by rfl) (by rfl) hN.out (by simp [Value.oneCell']) (by omega) (by (unfold maxLen); omega) (by omega) (Nat.le_trans hbase (by simp)) (W.heap.size + 1) (by simp) ?_; intro g' cap' w2 hown hgrow hat hlt'; have hfin := fin.out _ w2 g' cap' (bl_step hbWd.out (al' _ _)) hown hgrow)
              | fail))
            all_goals
              go_wp2
              obtain ⟨f1, f2, f3⟩ := hfin
              go_roundw
              case rel => exact ⟨k + 1, by omega, by go_num, f1, f2, f3⟩
              case measure => simp [intOf]; omega
    · have hltz : ¬ (k : Int) < (l.length : Int) := by omega
      have e : k = l.length := by omega
      subst e
      rw [hend.out] at hO
      rcases hO.out.shape with ⟨_, hvs⟩ | ⟨g, cap, hd, hcap, hg1, hg2⟩
      · cases hvs
      · subst hd
        obtain ⟨x0, x1⟩ := hO.out.at 0 (by simp)
        simp at x0 x1
        rw [hTX'.out] at x0
        obtain ⟨r0, r1, r2, r3⟩ := res2 hRb.out
        clear hn60 hO
        go_wp2
        refine bodyPost_ret (v := .agg #[.string TX, .int .i64 (PX : Int)]) (by simp [results, Tryz.results84, go_sem, r0, r1]) rfl ⟨rfl, bl_two hbl _ _ (Nat.le_refl _)⟩

end Go.Proofs.YtcledgljbmepaaaGreatDoor
namespace Go.Proofs.YtcledgljbmepaaaGreatDoor
open Go.RowKit

set_option maxRecDepth 20000 in
set_option maxHeartbeats 1000000 in
theorem showPYes (v : Value) (t : Rx) (w : World) (hA : Cels w v (post t)) (ho : t.ok) (h60 : (post t).length ≤ 60) (hT : Tab w) : Calls Tryz.prog 55 #[v] w fun e w' => e = .returned (.tuple #[.string (strT (txt t)), .int .i64 0]) ∧ Below w.heap.size w w' := by
  have G := hid (rightP v _ w hA)
  rw [right_post ho h60] at G
  have GF := hid (fun u (hu : Below w.heap.size w u) => foldShow v t u (hA.keep hu) ho h60 (hT.keep hu))
  have hsz : (strT (txt t)).size ≤ 281474976710656 := by rw [strT_size]; have := txt_len t; omega
  have GC := hid (fun u => cloneC (strT (txt t)) u hsz)
  obtain ⟨av, cv, rfl, _⟩ := hA
  generalize (post t).length = n at G GF
  generalize strT (txt t) = X at GF GC ⊢
  generalize ((power t - 1 : Nat) : Int) = P at GF
  have hfd : ∀ u : World, (Instr.field 143 (shV X P) 0).run Tryz.prog u = .ok (.string X) u := fun u => by kernel_rfl
  clear hsz hT ho h60
  go_enter Tryz.func55, Tryz.ntmps55
  go_wp2_with (first
    | (go_at_call 83; refine G.out.mono ?_; rintro e w1 ⟨rfl, hb1⟩)
    | (go_at_call 84; refine (GF.out _ hb1).mono ?_; rintro e w2 ⟨rfl, hb2⟩)
    | (go_at_call 44; refine (GC.out _).mono ?_; rintro e w3 ⟨rfl, hb3⟩))
  go_ret2
  exact ⟨rfl, bl_step (bl_step hb1 hb2) hb3⟩

end Go.Proofs.YtcledgljbmepaaaGreatDoor
