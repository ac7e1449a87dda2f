/- A rule's cells, gone through with a stack of rules. -/
import Derived.Test.YtjiljfmejgiabaaRight
import Derived.Laws.OwnMore
namespace Go.Proofs.Ytjiljfmejgiabaa
open Go.RowKit

/-- a cell, with the rules that lie there, the last first -/
def stepS (st : List Rx) (c : Cel) : List Rx :=
  if c.op = 1 then .set c.s :: st
  else if c.op = 2 then .eps :: st
  else if c.op = 3 then match st with | b :: a :: r => .cat a b :: r | r => r
  else if c.op = 4 then match st with | b :: a :: r => .or a b :: r | r => r
  else if c.op = 5 then match st with | a :: r => .star a :: r | r => r
  else if c.op = 6 then match st with | a :: r => .plus a :: r | r => r
  else match st with | a :: r => .opt a :: r | r => r
def stK (l : List Cel) (k : Nat) : List Rx := (l.take k).foldl stepS []
theorem fold_post : ∀ (t : Rx) (st : List Rx), (post t).foldl stepS st = t :: st
  | .set S, st => by simp [post, stepS]
  | .eps, st => by simp [post, stepS]
  | .cat a b, st => by
    show (post a ++ (post b ++ [(⟨3, noneB⟩ : Cel)])).foldl stepS st = _
    rw [List.foldl_append, fold_post a st, List.foldl_append, fold_post b (a :: st)]
    simp [stepS]
  | .or a b, st => by
    show (post a ++ (post b ++ [(⟨4, noneB⟩ : Cel)])).foldl stepS st = _
    rw [List.foldl_append, fold_post a st, List.foldl_append, fold_post b (a :: st)]
    simp [stepS]
  | .star a, st => by
    show (post a ++ [(⟨5, noneB⟩ : Cel)]).foldl stepS st = _
    rw [List.foldl_append, fold_post a st]
    simp [stepS]
  | .plus a, st => by
    show (post a ++ [(⟨6, noneB⟩ : Cel)]).foldl stepS st = _
    rw [List.foldl_append, fold_post a st]
    simp [stepS]
  | .opt a, st => by
    show (post a ++ [(⟨7, noneB⟩ : Cel)]).foldl stepS st = _
    rw [List.foldl_append, fold_post a st]
    simp [stepS]
theorem stK_end (t : Rx) : stK (post t) (post t).length = [t] := by
  unfold stK
  rw [List.take_length, fold_post]
theorem stK_succ (l : List Cel) (k : Nat) (h : k < l.length) : stK l (k + 1) = stepS (stK l k) l[k] := by
  unfold stK
  rw [List.take_succ_eq_append_getElem h, List.foldl_append]
  rfl
theorem stepS_len {st : List Rx} {c : Cel} (h0 : 0 ≤ wants c.op) (h1 : wants c.op ≤ (st.length : Int)) : ((stepS st c).length : Int) = (st.length : Int) - wants c.op + 1 := by
  obtain ⟨op, S⟩ := c
  simp only at h0 h1 ⊢
  rcases wants_cases op h0 with ⟨rfl, hw⟩ | ⟨rfl, hw⟩ | ⟨rfl, hw⟩ | ⟨rfl, hw⟩ | ⟨rfl, hw⟩ | ⟨rfl, hw⟩ | ⟨rfl, hw⟩
  · rw [hw]; simp [stepS]
  · rw [hw]; simp [stepS]
  · rw [hw] at h1 ⊢
    match st, h1 with
    | b :: a :: r, _ => simp [stepS]; omega
    | [_], h => simp at h
    | [], h => simp at h
  · rw [hw] at h1 ⊢
    match st, h1 with
    | b :: a :: r, _ => simp [stepS]; omega
    | [_], h => simp at h
    | [], h => simp at h
  · rw [hw] at h1 ⊢
    match st, h1 with
    | a :: r, _ => simp [stepS]
    | [], h => simp at h
  · rw [hw] at h1 ⊢
    match st, h1 with
    | a :: r, _ => simp [stepS]
    | [], h => simp at h
  · rw [hw] at h1 ⊢
    match st, h1 with
    | a :: r, _ => simp [stepS]
    | [], h => simp at h
/-- of a right rule: at each cell its operands lie there -/
theorem stK_right {l : List Cel} (hr : rightB l = true) : ∀ k, k ≤ l.length → depthN l k = some ((stK l k).length : Int)
  | 0, _ => rfl
  | k + 1, hk => by
    have ih := stK_right hr k (by omega)
    have hd : depthN l (k + 1) ≠ none := fun e => by
      have := right_bad (depth_none l e l.length hk)
      rw [hr] at this
      cases this
    rw [depth_succ l ih (by omega)] at hd ⊢
    rw [stK_succ l k (by omega)]
    by_cases hb : badC ((stK l k).length : Int) l[k] = true
    · rw [if_pos hb] at hd; exact absurd rfl hd
    · rw [if_neg hb]
      simp only [badC, Bool.or_eq_true, decide_eq_true_eq, not_or, Int.not_lt] at hb
      rw [stepS_len hb.1.1 hb.1.2]
theorem stK_wants {l : List Cel} (hr : rightB l = true) (k : Nat) (hk : k < l.length) : 0 ≤ wants l[k].op ∧ wants l[k].op ≤ ((stK l k).length : Int) := by
  have h1 := stK_right hr (k + 1) hk
  rw [depth_succ l (stK_right hr k (by omega)) hk] at h1
  by_cases hb : badC ((stK l k).length : Int) l[k] = true
  · rw [if_pos hb] at h1; cases h1
  · simp only [badC, Bool.or_eq_true, decide_eq_true_eq, not_or, Int.not_lt] at hb
    exact hb.1
/-- the first of a row -/
theorem own_cut {w : World} {base size n g cap : Nat} {e : TypeId} {xs : List Value} (h : w.ownsRow base e size (.slice (some ⟨g, 0, none⟩) n cap) n xs) (r : Nat) (hr : r ≤ n) : w.ownsRow base e size (.slice (some ⟨g, 0, none⟩) r cap) r (xs.take (r * size)) := by
  rcases h.2 with ⟨e', _⟩ | ⟨g', cap', cur, e', h1, h2, h3, h4, h5, h6⟩
  · cases e'
  · injection e' with e1 e2 e3
    subst e3
    injection e1 with e1
    injection e1 with e1
    subst e1
    have hle : r * size ≤ n * size := Nat.mul_le_mul_right _ hr
    refine ⟨by rw [List.length_take, h.1]; omega, .inr ⟨g, cap, cur, rfl, h1, h2, by omega, h4, h5, ?_⟩⟩
    rw [← h6, List.take_take, Nat.min_eq_left hle]

end Go.Proofs.Ytjiljfmejgiabaa
