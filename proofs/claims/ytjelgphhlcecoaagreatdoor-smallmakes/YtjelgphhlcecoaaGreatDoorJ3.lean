/- The reference: Wants, Right. The reference: From, Empty, Null. Where operands end. -/
import Derived.Test.YtjelgphhlcecoaaGreatDoorJ2
namespace Go.Proofs.YtjelgphhlcecoaaGreatDoor
open Go.RowKit

theorem depth_none (l : List Cel) {k : Nat} (h : depthN l k = none) : ∀ m, k ≤ m → depthN l m = none
  | 0, hm => by
    have : k = 0 := by omega
    subst this; exact h
  | m + 1, hm => by
    by_cases e : k = m + 1
    · subst e; exact h
    · have ih := depth_none l h m (by omega)
      rw [depthN, ih]
theorem depth_succ (l : List Cel) {k : Nat} {d : Int} (h : depthN l k = some d) (hk : k < l.length) : depthN l (k + 1) = if badC d l[k] then none else some (d - wants l[k].op + 1) := by
  rw [depthN, h, List.getElem?_eq_getElem hk]
theorem wants_le (op : Int) : -1 ≤ wants op ∧ wants op ≤ 2 := by
  unfold wants
  split
  · omega
  · split
    · omega
    · split <;> omega
theorem right_end {l : List Cel} (h1 : 1 ≤ l.length) (h2 : l.length ≤ 60) {d : Int} (h : depthN l l.length = some d) : rightB l = (d == 1) := by
  unfold rightB
  rw [decide_eq_true h1, decide_eq_true h2, h, Bool.eq_iff_iff]
  simp
theorem right_bad {l : List Cel} (h : depthN l l.length = none) : rightB l = false := by
  unfold rightB
  rw [h]
  simp

end Go.Proofs.YtjelgphhlcecoaaGreatDoor
namespace Go.Proofs.YtjelgphhlcecoaaGreatDoor
open Go.RowKit

/-- a rule's operands, the last first, and its own cell -/
def kids : Rx → List Rx
  | .set _ => []
  | .eps => []
  | .cat a b => [b, a]
  | .or a b => [b, a]
  | .star a => [a]
  | .plus a => [a]
  | .opt a => [a]
def rootC : Rx → Cel
  | .set S => ⟨1, S⟩
  | .eps => ⟨2, noneB⟩
  | .cat _ _ => ⟨3, noneB⟩
  | .or _ _ => ⟨4, noneB⟩
  | .star _ => ⟨5, noneB⟩
  | .plus _ => ⟨6, noneB⟩
  | .opt _ => ⟨7, noneB⟩
theorem lain_kids (t : Rx) (st : List Rx) : lain (kids t ++ st) ++ [rootC t] = lain (t :: st) := by
  cases t <;> simp [kids, rootC, lain, post]
theorem wants_root (t : Rx) : wants (rootC t).op = ((kids t).length : Int) := by
  cases t <;> simp [wants, rootC, kids]
theorem lain_len (t : Rx) (st : List Rx) : (lain (t :: st)).length = (lain (kids t ++ st)).length + 1 := by
  rw [← lain_kids, List.length_append]; rfl
theorem lain_pos {st : List Rx} (h : 0 < st.length) : 0 < (lain st).length := by
  cases st with
  | nil => simp at h
  | cons t st => rw [lain_len]; omega
theorem lain_cells (st : List Rx) : st.length ≤ (lain st).length := by
  induction st with
  | nil => simp
  | cons t st ih =>
    have := post_pos t
    simp [lain]
    omega
/-- the last cell of what lies there -/
theorem lain_last {l pre suf : List Cel} {t : Rx} {st : List Rx} (h : l = pre ++ (lain (t :: st) ++ suf)) : l[pre.length + (lain (kids t ++ st)).length]? = some (rootC t) ∧ l = pre ++ (lain (kids t ++ st) ++ (rootC t :: suf)) := by
  have e : l = pre ++ (lain (kids t ++ st) ++ (rootC t :: suf)) := by rw [h, ← lain_kids]; simp
  refine ⟨?_, e⟩
  rw [e, List.getElem?_append_right (by omega), List.getElem?_append_right (by omega)]
  simp
/-- a cell of the list, where it lies -/
theorem cel_at {w : World} {a : Option Addr} {l : List Cel} (hAt : ∀ j (h : j < l.length), ∃ b o, a = some ⟨b, o, none⟩ ∧ b < w.heap.size ∧ At5 w b (o + j * 5) l[j]) {j : Nat} {c : Cel} (h : l[j]? = some c) : j < l.length ∧ ∃ b o, a = some ⟨b, o, none⟩ ∧ At5 w b (o + j * 5) c := by
  have hlt : j < l.length := by
    rcases Nat.lt_or_ge j l.length with h' | h'
    · exact h'
    · rw [List.getElem?_eq_none h'] at h; cases h
  rw [List.getElem?_eq_getElem hlt] at h
  injection h with h
  obtain ⟨b, o, ha, _, h5⟩ := hAt j hlt
  exact ⟨hlt, b, o, ha, h ▸ h5⟩

end Go.Proofs.YtjelgphhlcecoaaGreatDoor
namespace Go.Proofs.YtjelgphhlcecoaaGreatDoor
open Go.RowKit

/-- the last cell of a rule that lies in a list -/
theorem root_at {l pre suf : List Cel} {t : Rx} (h : l = pre ++ (post t ++ suf)) : ∃ J : Nat, J + 1 = pre.length + (post t).length ∧ l[J]? = some (rootC t) := by
  have e : lain [t] = post t := by simp [lain]
  have hl := lain_last (l := l) (pre := pre) (suf := suf) (t := t) (st := []) (by rw [e]; exact h)
  have hn := lain_len t []
  rw [e] at hn
  exact ⟨_, by omega, hl.1⟩
theorem len_le {l pre suf : List Cel} {t : Rx} (h : l = pre ++ (post t ++ suf)) : pre.length + (post t).length ≤ l.length := by
  have := congrArg List.length h
  simp at this
  omega

end Go.Proofs.YtjelgphhlcecoaaGreatDoor
