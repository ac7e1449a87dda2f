/- A rule's cells, gone through with a stack of rules. fold, of texts: what a cell makes of those behind. -/
import Derived.Test.YtjiljfmejgiabaaDoorJ8
import Derived.Test.YtjiljfmejgiabaaDoorJ25
import Derived.Laws.OwnMore
import Derived.Deep.AppendLies
import Derived.Deep.RegionLaw
namespace Go.Proofs.YtjiljfmejgiabaaDoor
open Go.RowKit

/-- a cell, with the rules that lie there, the last first -/
def stepS (st : List Rx) (c : Cel) : List Rx :=
  if c.op = 1 then .set c.s :: st
  else if c.op = 2 then .eps :: st
  else if c.op = 3 then match st with | b :: a :: r => .cat a b :: r | r => r
  else if c.op = 4 then match st with | b :: a :: r => .or a b :: r | r => r
  else if c.op = 5 then match st with | a :: r => .star a :: r | r => r
  else if c.op = 6 then match st with | a :: r => .plus a :: r | r => r
  else match st with | a :: r => .opt a :: r | r => r
def stK (l : List Cel) (k : Nat) : List Rx := (l.take k).foldl stepS []
theorem fold_post : ∀ (t : Rx) (st : List Rx), (post t).foldl stepS st = t :: st
  | .set S, st => by simp [post, stepS]
  | .eps, st => by simp [post, stepS]
  | .cat a b, st => by
    show (post a ++ (post b ++ [(⟨3, noneB⟩ : Cel)])).foldl stepS st = _
    rw [List.foldl_append, fold_post a st, List.foldl_append, fold_post b (a :: st)]
    simp [stepS]
  | .or a b, st => by
    show (post a ++ (post b ++ [(⟨4, noneB⟩ : Cel)])).foldl stepS st = _
    rw [List.foldl_append, fold_post a st, List.foldl_append, fold_post b (a :: st)]
    simp [stepS]
  | .star a, st => by
    show (post a ++ [(⟨5, noneB⟩ : Cel)]).foldl stepS st = _
    rw [List.foldl_append, fold_post a st]
    simp [stepS]
  | .plus a, st => by
    show (post a ++ [(⟨6, noneB⟩ : Cel)]).foldl stepS st = _
    rw [List.foldl_append, fold_post a st]
    simp [stepS]
  | .opt a, st => by
    show (post a ++ [(⟨7, noneB⟩ : Cel)]).foldl stepS st = _
    rw [List.foldl_append, fold_post a st]
    simp [stepS]
theorem stK_end (t : Rx) : stK (post t) (post t).length = [t] := by
  unfold stK
  rw [List.take_length, fold_post]
theorem stK_succ (l : List Cel) (k : Nat) (h : k < l.length) : stK l (k + 1) = stepS (stK l k) l[k] := by
  unfold stK
  rw [List.take_succ_eq_append_getElem h, List.foldl_append]
  rfl
theorem stepS_len {st : List Rx} {c : Cel} (h0 : 0 ≤ wants c.op) (h1 : wants c.op ≤ (st.length : Int)) : ((stepS st c).length : Int) = (st.length : Int) - wants c.op + 1 := by
  obtain ⟨op, S⟩ := c
  simp only at h0 h1 ⊢
  rcases wants_cases op h0 with ⟨rfl, hw⟩ | ⟨rfl, hw⟩ | ⟨rfl, hw⟩ | ⟨rfl, hw⟩ | ⟨rfl, hw⟩ | ⟨rfl, hw⟩ | ⟨rfl, hw⟩
  · rw [hw]; simp [stepS]
  · rw [hw]; simp [stepS]
  · rw [hw] at h1 ⊢
    match st, h1 with
    | b :: a :: r, _ => simp [stepS]; omega
    | [_], h => simp at h
    | [], h => simp at h
  · rw [hw] at h1 ⊢
    match st, h1 with
    | b :: a :: r, _ => simp [stepS]; omega
    | [_], h => simp at h
    | [], h => simp at h
  · rw [hw] at h1 ⊢
    match st, h1 with
    | a :: r, _ => simp [stepS]
    | [], h => simp at h
  · rw [hw] at h1 ⊢
    match st, h1 with
    | a :: r, _ => simp [stepS]
    | [], h => simp at h
  · rw [hw] at h1 ⊢
    match st, h1 with
    | a :: r, _ => simp [stepS]
    | [], h => simp at h
/-- of a right rule: at each cell its operands lie there -/
theorem stK_right {l : List Cel} (hr : rightB l = true) : ∀ k, k ≤ l.length → depthN l k = some ((stK l k).length : Int)
  | 0, _ => rfl
  | k + 1, hk => by
    have ih := stK_right hr k (by omega)
    have hd : depthN l (k + 1) ≠ none := fun e => by
      have := right_bad (depth_none l e l.length hk)
      rw [hr] at this
      cases this
    rw [depth_succ l ih (by omega)] at hd ⊢
    rw [stK_succ l k (by omega)]
    by_cases hb : badC ((stK l k).length : Int) l[k] = true
    · rw [if_pos hb] at hd; exact absurd rfl hd
    · rw [if_neg hb]
      simp only [badC, Bool.or_eq_true, decide_eq_true_eq, not_or, Int.not_lt] at hb
      rw [stepS_len hb.1.1 hb.1.2]
theorem stK_wants {l : List Cel} (hr : rightB l = true) (k : Nat) (hk : k < l.length) : 0 ≤ wants l[k].op ∧ wants l[k].op ≤ ((stK l k).length : Int) := by
  have h1 := stK_right hr (k + 1) hk
  rw [depth_succ l (stK_right hr k (by omega)) hk] at h1
  by_cases hb : badC ((stK l k).length : Int) l[k] = true
  · rw [if_pos hb] at h1; cases h1
  · simp only [badC, Bool.or_eq_true, decide_eq_true_eq, not_or, Int.not_lt] at hb
    exact hb.1
/-- the first of a row -/
theorem own_cut {w : World} {base size n g cap : Nat} {e : TypeId} {xs : List Value} (h : w.ownsRow base e size (.slice (some ⟨g, 0, none⟩) n cap) n xs) (r : Nat) (hr : r ≤ n) : w.ownsRow base e size (.slice (some ⟨g, 0, none⟩) r cap) r (xs.take (r * size)) := by
  rcases h.2 with ⟨e', _⟩ | ⟨g', cap', cur, e', h1, h2, h3, h4, h5, h6⟩
  · cases e'
  · injection e' with e1 e2 e3
    subst e3
    injection e1 with e1
    injection e1 with e1
    subst e1
    have hle : r * size ≤ n * size := Nat.mul_le_mul_right _ hr
    refine ⟨by rw [List.length_take, h.1]; omega, .inr ⟨g, cap, cur, rfl, h1, h2, by omega, h4, h5, ?_⟩⟩
    rw [← h6, List.take_take, Nat.min_eq_left hle]

end Go.Proofs.YtjiljfmejgiabaaDoor
namespace Go.Proofs.YtjiljfmejgiabaaDoor
open Go.RowKit

theorem Tryd.infoS37 : (Tryd.prog.info? 37).map (fun i => (i.zero, i.size, i.bytes)) = some (some (.agg #[.string ⟨#[]⟩, .int .i64 0]), 2, 24) := by kernel_rfl
theorem Tryd.sizeS (u : World) : (sizeOf 37).run Tryd.prog u = .ok 2 u := by kernel_rfl
theorem Tryd.elemS : Tryd.prog.elem 48 = 37 := by kernel_rfl
theorem cutS_hi (g n cap r : Nat) (h : r ≤ cap) (u : World) : (Instr.slice 48 (.slice (some ⟨g, 0, none⟩) n cap) none (some (.int .i64 (r : Int))) none).run Tryd.prog u = .ok (.slice (some ⟨g, 0, none⟩) r cap) u := by
  rw [run_slice_h u 48 _ _ _ Tryd.underlying48 .i64 _ (by omega) (by omega), Tryd.elemS, Tryd.sizeS]
  simp [sliced, Addr.add]
theorem cutS_nil2 (u : World) : (Instr.slice 48 (.slice none 0 0) none (some (.int .i64 0)) none).run Tryd.prog u = .ok (.slice none 0 0) u := by
  rw [run_slice_h u 48 _ _ _ Tryd.underlying48 .i64 _ (by omega) (by omega), Tryd.elemS, Tryd.sizeS]
  simp [sliced]
theorem cutS_nil (u : World) : (Instr.slice 48 (.slice none 0 0) (some (.int .i64 0)) none none).run Tryd.prog u = .ok (.slice none 0 0) u := by
  rw [run_slice_l u 48 _ _ _ Tryd.underlying48 .i64 _ (by omega) (by omega), Tryd.elemS, Tryd.sizeS]
  simp [sliced]

abbrev Sh := Txt × Nat
def shOf (t : Rx) : Sh := (txt t, power t - 1)
def valsS (st : List Rx) : List Sh := st.reverse.map shOf
theorem valsS_len (st : List Rx) : (valsS st).length = st.length := by simp [valsS]
theorem valsS_cons (t : Rx) (st : List Rx) : valsS (t :: st) = valsS st ++ [shOf t] := by simp [valsS]
def cellsS (x : Sh) : List Value := [.string (strT x.1), .int .i64 (x.2 : Int)]
def flatS (l : List Sh) : List Value := l.flatMap cellsS
theorem flatS_app (l m : List Sh) : flatS (l ++ m) = flatS l ++ flatS m := by unfold flatS; rw [List.flatMap_append]
theorem flatS_len : ∀ l : List Sh, (flatS l).length = l.length * 2
  | [] => rfl
  | c :: t => by
    have ih := flatS_len t
    unfold flatS at ih ⊢
    rw [List.flatMap_cons, List.length_append, ih, List.length_cons]
    simp [cellsS]
    omega
theorem flatS_at : ∀ (l : List Sh) (j : Nat) (hj : j < l.length), (flatS l)[j * 2]? = some (.string (strT l[j].1)) ∧ (flatS l)[j * 2 + 1]? = some (.int .i64 (l[j].2 : Int))
  | c :: t, 0, _ => ⟨rfl, rfl⟩
  | c :: t, j + 1, hj => by
    have ih := flatS_at t j (by simpa using hj)
    have e : flatS (c :: t) = cellsS c ++ flatS t := by unfold flatS; rw [List.flatMap_cons]
    rw [e, show (j + 1) * 2 = 2 + j * 2 by omega, show 2 + j * 2 + 1 = 2 + (j * 2 + 1) by omega, List.getElem?_append_right (by simp [cellsS]), List.getElem?_append_right (by simp [cellsS])]
    simpa [cellsS] using ih
theorem flatS_take (l : List Sh) (r : Nat) (h : r ≤ l.length) : (flatS l).take (r * 2) = flatS (l.take r) := by
  have e : flatS l = flatS (l.take r) ++ flatS (l.drop r) := by rw [← flatS_app, List.take_append_drop]
  rw [e]
  exact List.take_left' (by rw [flatS_len, List.length_take]; omega)
theorem power_as (t : Rx) : power t - 1 ≤ 2 := by cases t <;> simp [power]
theorem wi_par (q : Nat) (t : Rx) : wi (power t - 1) q (txt t) = par (q + 1) t (txt t) := by
  unfold wi par
  have hp : 1 ≤ power t := by cases t <;> simp [power]
  by_cases h : power t - 1 < q
  · rw [if_pos h, if_pos (by omega)]
  · rw [if_neg h, if_neg (by omega)]
/-- a cell's text: from how many of those behind, and what -/
def ShownAt (OK : World → Prop) (c : Cel) (vs : List Sh) (m r : Nat) (y : Sh) : Prop :=
  wants c.op = (m : Int) ∧ vs.length = r + m ∧
  (m = 0 → ∀ v u, OK u → Calls Tryd.prog 16 #[celV c.op c.s.a c.s.b c.s.c c.s.d, v] u fun e w' => e = .returned (shV (strT y.1) (y.2 : Int)) ∧ Below u.heap.size u w') ∧
  (0 < m → ∀ g cap u, OK u → (∀ j (hj : j < vs.length), u.cell? ⟨g, j * 2, none⟩ = some (.string (strT vs[j].1)) ∧ u.cell? ⟨g, j * 2 + 1, none⟩ = some (.int .i64 (vs[j].2 : Int))) → Calls Tryd.prog 16 #[celV c.op c.s.a c.s.b c.s.c c.s.d, .slice (some ⟨g, r * 2, none⟩) m cap] u fun e w' => e = .returned (shV (strT y.1) (y.2 : Int)) ∧ Below u.heap.size u w')
theorem shown_step (st : List Rx) (c : Cel) (hf : Fit4 c.s) (hlen : ∀ t ∈ st, (txt t).length ≤ 200000) (h0 : 0 ≤ wants c.op) (h1 : wants c.op ≤ (st.length : Int)) : ∃ m r y, ShownAt Tab c (valsS st) m r y ∧ valsS (stepS st c) = (valsS st).take r ++ [y] := by
  obtain ⟨op, S⟩ := c
  simp only at h0 h1 hf
  rcases wants_cases op h0 with ⟨rfl, hw⟩ | ⟨rfl, hw⟩ | ⟨rfl, hw⟩ | ⟨rfl, hw⟩ | ⟨rfl, hw⟩ | ⟨rfl, hw⟩ | ⟨rfl, hw⟩
  · refine ⟨0, (valsS st).length, (toldL S, 2), ⟨hw, rfl, fun _ v u hu => shSet _ _ _ _ v u hf hu, fun h => absurd h (by omega)⟩, ?_⟩
    rw [List.take_length]
    exact valsS_cons _ _
  · refine ⟨0, (valsS st).length, ([40, 41], 2), ⟨hw, rfl, fun _ v u _ => shEps _ _ _ _ v u, fun h => absurd h (by omega)⟩, ?_⟩
    rw [List.take_length]
    exact valsS_cons _ _
  · rw [hw] at h1
    match st, h1 with
    | b :: a :: r, _ =>
      have hl := valsS_len r
      have hv : valsS (b :: a :: r) = valsS r ++ [shOf a, shOf b] := by rw [valsS_cons, valsS_cons]; simp
      refine ⟨2, r.length, shOf (.cat a b), ⟨hw, by rw [hv]; simp [hl], fun h => absurd h (by omega), fun _ g cap u hu hc => ?_⟩, ?_⟩
      · have e0 := hc r.length (by rw [hv]; simp [hl])
        have e1 := hc (r.length + 1) (by rw [hv]; simp [hl])
        simp only [hv] at e0 e1
        rw [List.getElem_append_right (by omega)] at e0 e1
        simp [hl] at e0 e1
        rw [show (r.length + 1) * 2 = r.length * 2 + 2 by omega] at e1
        have := shCat S.a S.b S.c S.d (txt a) (txt b) (power a - 1) (power b - 1) g (r.length * 2) cap u (power_as a) (power_as b) (hlen a (by simp)) (hlen b (by simp)) e0.1 e0.2 e1.1 e1.2
        rw [wi_par, wi_par] at this
        exact this
      · rw [hv, show stepS (b :: a :: r) ⟨3, S⟩ = .cat a b :: r by simp [stepS], valsS_cons, ← hl, List.take_left]
    | [_], h => simp at h
    | [], h => simp at h
  · rw [hw] at h1
    match st, h1 with
    | b :: a :: r, _ =>
      have hl := valsS_len r
      have hv : valsS (b :: a :: r) = valsS r ++ [shOf a, shOf b] := by rw [valsS_cons, valsS_cons]; simp
      refine ⟨2, r.length, shOf (.or a b), ⟨hw, by rw [hv]; simp [hl], fun h => absurd h (by omega), fun _ g cap u hu hc => ?_⟩, ?_⟩
      · have e0 := hc r.length (by rw [hv]; simp [hl])
        have e1 := hc (r.length + 1) (by rw [hv]; simp [hl])
        simp only [hv] at e0 e1
        rw [List.getElem_append_right (by omega)] at e0 e1
        simp [hl] at e0 e1
        rw [show (r.length + 1) * 2 = r.length * 2 + 2 by omega] at e1
        have := shOr S.a S.b S.c S.d (txt a) (txt b) (power a - 1) (power b - 1) g (r.length * 2) cap u (power_as a) (power_as b) (hlen a (by simp)) (hlen b (by simp)) e0.1 e0.2 e1.1 e1.2
        rw [wi_par, wi_par] at this
        exact this
      · rw [hv, show stepS (b :: a :: r) ⟨4, S⟩ = .or a b :: r by simp [stepS], valsS_cons, ← hl, List.take_left]
    | [_], h => simp at h
    | [], h => simp at h
  · rw [hw] at h1
    match st, h1 with
    | a :: r, _ =>
      have hl := valsS_len r
      have hv : valsS (a :: r) = valsS r ++ [shOf a] := valsS_cons _ _
      refine ⟨1, r.length, shOf (.star a), ⟨hw, by rw [hv]; simp [hl], fun h => absurd h (by omega), fun _ g cap u hu hc => ?_⟩, ?_⟩
      · have e0 := hc r.length (by rw [hv]; simp [hl])
        simp only [hv] at e0
        rw [List.getElem_append_right (by omega)] at e0
        simp [hl] at e0
        have := shOne 5 S.a S.b S.c S.d (txt a) (power a - 1) g (r.length * 2) cap u (Or.inl rfl) (power_as a) (hlen a (by simp)) e0.1 e0.2
        rw [wi_par] at this
        exact this
      · rw [hv, show stepS (a :: r) ⟨5, S⟩ = .star a :: r by simp [stepS], valsS_cons, ← hl, List.take_left]
    | [], h => simp at h
  · rw [hw] at h1
    match st, h1 with
    | a :: r, _ =>
      have hl := valsS_len r
      have hv : valsS (a :: r) = valsS r ++ [shOf a] := valsS_cons _ _
      refine ⟨1, r.length, shOf (.plus a), ⟨hw, by rw [hv]; simp [hl], fun h => absurd h (by omega), fun _ g cap u hu hc => ?_⟩, ?_⟩
      · have e0 := hc r.length (by rw [hv]; simp [hl])
        simp only [hv] at e0
        rw [List.getElem_append_right (by omega)] at e0
        simp [hl] at e0
        have := shOne 6 S.a S.b S.c S.d (txt a) (power a - 1) g (r.length * 2) cap u (Or.inr (Or.inl rfl)) (power_as a) (hlen a (by simp)) e0.1 e0.2
        rw [wi_par] at this
        exact this
      · rw [hv, show stepS (a :: r) ⟨6, S⟩ = .plus a :: r by simp [stepS], valsS_cons, ← hl, List.take_left]
    | [], h => simp at h
  · rw [hw] at h1
    match st, h1 with
    | a :: r, _ =>
      have hl := valsS_len r
      have hv : valsS (a :: r) = valsS r ++ [shOf a] := valsS_cons _ _
      refine ⟨1, r.length, shOf (.opt a), ⟨hw, by rw [hv]; simp [hl], fun h => absurd h (by omega), fun _ g cap u hu hc => ?_⟩, ?_⟩
      · have e0 := hc r.length (by rw [hv]; simp [hl])
        simp only [hv] at e0
        rw [List.getElem_append_right (by omega)] at e0
        simp [hl] at e0
        have := shOne 7 S.a S.b S.c S.d (txt a) (power a - 1) g (r.length * 2) cap u (Or.inr (Or.inr rfl)) (power_as a) (hlen a (by simp)) e0.1 e0.2
        rw [wi_par] at this
        exact this
      · rw [hv, show stepS (a :: r) ⟨7, S⟩ = .opt a :: r by simp [stepS], valsS_cons, ← hl, List.take_left]
    | [], h => simp at h

end Go.Proofs.YtjiljfmejgiabaaDoor
