/- The reference: From, Empty, Null. Where operands end. -/
import Derived.Test.YtgbecehggdkkmaaJ3
namespace Go.Proofs.Ytgbecehggdkkmaa
open Go.RowKit

/-- a rule's operands, the last first, and its own cell -/
def kids : Rx → List Rx
  | .set _ => []
  | .eps => []
  | .cat a b => [b, a]
  | .or a b => [b, a]
  | .star a => [a]
  | .plus a => [a]
  | .opt a => [a]
def rootC : Rx → Cel
  | .set S => ⟨1, S⟩
  | .eps => ⟨2, noneB⟩
  | .cat _ _ => ⟨3, noneB⟩
  | .or _ _ => ⟨4, noneB⟩
  | .star _ => ⟨5, noneB⟩
  | .plus _ => ⟨6, noneB⟩
  | .opt _ => ⟨7, noneB⟩
theorem lain_kids (t : Rx) (st : List Rx) : lain (kids t ++ st) ++ [rootC t] = lain (t :: st) := by
  cases t <;> simp [kids, rootC, lain, post]
theorem wants_root (t : Rx) : wants (rootC t).op = ((kids t).length : Int) := by
  cases t <;> simp [wants, rootC, kids]
theorem lain_len (t : Rx) (st : List Rx) : (lain (t :: st)).length = (lain (kids t ++ st)).length + 1 := by
  rw [← lain_kids, List.length_append]; rfl
theorem lain_pos {st : List Rx} (h : 0 < st.length) : 0 < (lain st).length := by
  cases st with
  | nil => simp at h
  | cons t st => rw [lain_len]; omega
theorem lain_cells (st : List Rx) : st.length ≤ (lain st).length := by
  induction st with
  | nil => simp
  | cons t st ih =>
    have := post_pos t
    simp [lain]
    omega
/-- the last cell of what lies there -/
theorem lain_last {l pre suf : List Cel} {t : Rx} {st : List Rx} (h : l = pre ++ (lain (t :: st) ++ suf)) : l[pre.length + (lain (kids t ++ st)).length]? = some (rootC t) ∧ l = pre ++ (lain (kids t ++ st) ++ (rootC t :: suf)) := by
  have e : l = pre ++ (lain (kids t ++ st) ++ (rootC t :: suf)) := by rw [h, ← lain_kids]; simp
  refine ⟨?_, e⟩
  rw [e, List.getElem?_append_right (by omega), List.getElem?_append_right (by omega)]
  simp
/-- a cell of the list, where it lies -/
theorem cel_at {w : World} {a : Option Addr} {l : List Cel} (hAt : ∀ j (h : j < l.length), ∃ b o, a = some ⟨b, o, none⟩ ∧ b < w.heap.size ∧ At5 w b (o + j * 5) l[j]) {j : Nat} {c : Cel} (h : l[j]? = some c) : j < l.length ∧ ∃ b o, a = some ⟨b, o, none⟩ ∧ At5 w b (o + j * 5) c := by
  have hlt : j < l.length := by
    rcases Nat.lt_or_ge j l.length with h' | h'
    · exact h'
    · rw [List.getElem?_eq_none h'] at h; cases h
  rw [List.getElem?_eq_getElem hlt] at h
  injection h with h
  obtain ⟨b, o, ha, _, h5⟩ := hAt j hlt
  exact ⟨hlt, b, o, ha, h ▸ h5⟩

set_option maxRecDepth 20000 in
set_option maxHeartbeats 2000000 in
theorem fromC (v : Value) (l pre suf : List Cel) (t : Rx) (E : Int) (w : World) (hA : Cels w v l) (hl : l.length ≤ 60) (h : l = pre ++ (post t ++ suf)) (hE : E + 1 = ((pre.length + (post t).length : Nat) : Int)) :
    Calls Try.prog 29 #[v, .int .i64 E] w fun e w' => e = .returned (.int .i64 (pre.length : Int)) ∧ w' = w := by
  obtain ⟨av, cv, rfl, _, _, _, hAt⟩ := hA
  have hAt := hid (fun j c => @cel_at w av l hAt j c)
  have GW := hid wantsC
  have hL0 : (lain [t]).length = (post t).length := by simp [lain]
  have hpl : pre.length + (post t).length ≤ 60 := by
    have := congrArg List.length h
    simp at this
    omega
  have hst0 : Hid (∃ suf', l = pre ++ (lain [t] ++ suf')) := hid ⟨suf, by rw [h]; simp [lain]⟩
  clear h
  go_enter Try.func29, Try.ntmps29
  go_wp2
  go_loopw [5, 6] (fun nd i wr => ∃ (st : List Rx) (z : Int), nd = .int .i64 (st.length : Int) ∧ i = .int .i64 z ∧ z + 1 = ((pre.length + (lain st).length : Nat) : Int) ∧ pre.length + (lain st).length ≤ 60 ∧ Hid (∃ suf', l = pre ++ (lain st ++ suf')) ∧ Hid (wr = w)) (fun _ i _ => (intOf i + 1).toNat)
  case atStart => exact ⟨[t], E, rfl, rfl, by rw [hL0]; exact hE, by omega, hst0, hid rfl⟩
  case round =>
    obtain ⟨st, z, rfl, rfl, hz, hle, hsuf, hwr⟩ := hrel
    have hwr' := hwr.out
    subst hwr'
    have hsl := lain_cells st
    cases st with
    | nil =>
      have e : z = (pre.length : Int) - 1 := by simp [lain] at hz; omega
      subst e
      go_wp2
      go_ret
      exact ⟨by first | rfl | (simp; omega), rfl⟩
    | cons u st =>
      obtain ⟨suf', hs⟩ := hsuf.out
      obtain ⟨hc, hs'⟩ := lain_last hs
      have hlen := lain_len u st
      have hk2 := hid (wants_root u)
      have hkl : (kids u).length ≤ 2 := by cases u <;> simp [kids]
      have hnew := hid (show ∃ suf', wr = wr ∧ l = pre ++ (lain (kids u ++ st) ++ suf') from ⟨_, rfl, hs'⟩)
      obtain ⟨hjl, b', o', rfl, hat⟩ := hAt.out _ _ hc
      have GW0 := hid (fun w => GW.out (rootC u).op w)
      rw [hk2.out] at GW0
      obtain ⟨d0, -, -, -, -⟩ := hat
      have hsl1 := lain_cells (kids u ++ st)
      generalize (rootC u).op = op at d0 GW0
      clear hc hs hs' hsuf hk2
      rw [hlen] at hle hsl hz
      have hn1 : ((u :: st).length : Int) = (st.length : Int) + 1 := by simp
      have hn2 : (kids u ++ st).length = (kids u).length + st.length := by simp
      rw [hn1]
      have hpos : (0 : Int) < (st.length : Int) + 1 := by omega
      generalize hM : (lain (kids u ++ st)).length = M at d0 hjl hle hsl hsl1 hz
      generalize hQ : (kids u).length = q at GW0 hkl hn2
      generalize hJ : pre.length + M = J at d0 hjl
      obtain rfl : z = (J : Int) := by omega
      have hjz : (J : Int) < (l.length : Int) := by omega
      go_wp2_with (go_at_call 22; refine (GW0.out _).mono ?_; rintro e u1 ⟨rfl, hu⟩; subst u1)
      obtain ⟨suf2, _, hs2⟩ := hnew.out
      exact ⟨⟨kids u ++ st, (J : Int) - 1, by rw [hn2]; go_num, by go_num, by rw [hM]; omega, by omega, hid ⟨suf2, hs2⟩, by first | exact hid rfl | exact hid trivial⟩, by simp [intOf]⟩

end Go.Proofs.Ytgbecehggdkkmaa
namespace Go.Proofs.Ytgbecehggdkkmaa
open Go.RowKit

/-- the last cell of a rule that lies in a list -/
theorem root_at {l pre suf : List Cel} {t : Rx} (h : l = pre ++ (post t ++ suf)) : ∃ J : Nat, J + 1 = pre.length + (post t).length ∧ l[J]? = some (rootC t) := by
  have e : lain [t] = post t := by simp [lain]
  have hl := lain_last (l := l) (pre := pre) (suf := suf) (t := t) (st := []) (by rw [e]; exact h)
  have hn := lain_len t []
  rw [e] at hn
  exact ⟨_, by omega, hl.1⟩
theorem len_le {l pre suf : List Cel} {t : Rx} (h : l = pre ++ (post t ++ suf)) : pre.length + (post t).length ≤ l.length := by
  have := congrArg List.length h
  simp at this
  omega

end Go.Proofs.Ytgbecehggdkkmaa
