/- The maths of layer 11: blanks, words, a text's words. -/
import Derived.Test.YtkpakpfjgeannaaBase
namespace Go.Proofs.Ytkpakpfjgeannaa

def letB (c : Nat) : Bool := c == 95 || (decide (65 ≤ c) && decide (c ≤ 90)) || (decide (97 ≤ c) && decide (c ≤ 122))
def digB (c : Nat) : Bool := decide (48 ≤ c) && decide (c ≤ 57)
def blnB (c : Nat) : Bool := c == 9 || c == 10 || c == 13 || c == 32
def sgnB (c : Nat) : Bool := c == 58 || c == 59 || c == 124 || c == 37
/-- how many bytes of blanks stand ahead; the flag: within a remark -/
def skL : Bool → Txt → Nat
  | _, [] => 0
  | true, c :: r => 1 + skL (c.toNat != 10) r
  | false, c :: r => if c.toNat = 35 then 1 + skL true r else if blnB c.toNat then 1 + skL false r else 0
/-- how many bytes of a name stand ahead -/
def namL : Txt → Nat
  | [] => 0
  | c :: r => if letB c.toNat || digB c.toNat then 1 + namL r else 0
/-- how many bytes up to the slash that ends a rule's text, that one, too; the flag: the next byte is taken along -/
def rgL : Bool → Txt → Option Nat
  | _, [] => none
  | tk, c :: r => if c.toNat = 10 then none else if c.toNat = 47 ∧ tk = false then some 1 else (rgL (c.toNat == 92 && !tk) r).map (· + 1)
/-- how long the word is that stands ahead; none: none does -/
def endL : Txt → Option Nat
  | [] => none
  | c :: r => if sgnB c.toNat then some 1 else if letB c.toNat then (if 16 < namL (c :: r) then none else some (namL (c :: r))) else if c.toNat = 47 then (rgL false r).map (· + 1) else none
/-- a word: its kind, its place, its text -/
abbrev Wd := Nat × Nat × Txt
def kndW (c : Nat) : Nat := if letB c then 1 else if c = 47 then 2 else 3
def wdOf (T : Txt) (a n : Nat) : Wd := (kndW ((T.drop a).headD 0).toNat, a, if ((T.drop a).headD 0).toNat = 47 then ((T.drop (a + 1)).take (n - 2)) else (T.drop a).take n)
def wrdR (T : Txt) : Nat → Nat → List Wd → List Wd × Nat × Int
  | 0, _, l => (l, 0, 0)
  | f + 1, a, l => if T.length ≤ a then (l, 0, 0) else match endL (T.drop a) with
    | none => ([], a, 1)
    | some n => wrdR T f (a + n + skL false (T.drop (a + n))) (l ++ [wdOf T a n])
def wrdA (T : Txt) : List Wd × Nat × Int := if 4000 < T.length then ([], 0, 3) else wrdR T T.length (skL false T) []
theorem skL_le : ∀ (b : Bool) (u : Txt), skL b u ≤ u.length
  | _, [] => Nat.zero_le _
  | true, c :: r => by have := skL_le (c.toNat != 10) r; rw [skL, List.length_cons]; omega
  | false, c :: r => by
    have h1 := skL_le true r
    have h2 := skL_le false r
    rw [skL, List.length_cons]
    split
    · omega
    · split <;> omega
theorem namL_le : ∀ u : Txt, namL u ≤ u.length
  | [] => Nat.zero_le _
  | c :: r => by
    have := namL_le r
    rw [namL, List.length_cons]
    split <;> omega
theorem rgL_le : ∀ (tk : Bool) (u : Txt) (n : Nat), rgL tk u = some n → 0 < n ∧ n ≤ u.length
  | _, [], n, h => by cases h
  | tk, c :: r, n, h => by
    rw [rgL] at h
    split at h
    · cases h
    · split at h
      · injection h with h
        rw [List.length_cons]
        omega
      · cases e : rgL (c.toNat == 92 && !tk) r with
        | none => rw [e] at h; cases h
        | some m =>
          rw [e] at h
          have h1 := rgL_le _ r m e
          have h : m + 1 = n := by injection h
          rw [List.length_cons]
          omega
theorem endL_le {u : Txt} {n : Nat} (h : endL u = some n) : 0 < n ∧ n ≤ u.length := by
  cases u with
  | nil => cases h
  | cons c r =>
    rw [endL] at h
    split at h
    · injection h with h
      rw [List.length_cons]
      omega
    · split at h
      · rename_i h1
        split at h
        · cases h
        · injection h with h
          have h2 := namL_le (c :: r)
          have h3 : 0 < namL (c :: r) := by rw [namL, h1]; simp; omega
          omega
      · split at h
        · cases e : rgL false r with
          | none => rw [e] at h; cases h
          | some m =>
            rw [e] at h
            have h1 := rgL_le _ r m e
            have h : m + 1 = n := by injection h
            rw [List.length_cons]
            omega
        · cases h
/-- a word between slashes has two bytes at least -/
theorem endL_two {u : Txt} {n : Nat} (h : endL u = some n) (h47 : (u.headD 0).toNat = 47) : 2 ≤ n := by
  cases u with
  | nil => cases h
  | cons c r =>
    have h47 : c.toNat = 47 := h47
    rw [endL, h47] at h
    rw [if_neg (by decide), if_neg (by decide), if_pos rfl] at h
    cases e : rgL false r with
    | none => rw [e] at h; cases h
    | some m =>
      rw [e] at h
      have h1 := rgL_le _ r m e
      have h : m + 1 = n := by injection h
      omega
/-- what a loop over the words holds -/
def WrdI (T : Txt) (a : Nat) (l : List Wd) : Prop := ∃ f, T.length ≤ a + f ∧ wrdR T f a l = wrdR T T.length (skL false T) []
theorem WrdI.start (T : Txt) : WrdI T (skL false T) [] := ⟨T.length, by omega, rfl⟩
theorem WrdI.fin {T : Txt} {a : Nat} {l : List Wd} (h : WrdI T a l) (ha : T.length ≤ a) : wrdR T T.length (skL false T) [] = (l, 0, 0) := by
  obtain ⟨f, -, h2⟩ := h
  rw [← h2]
  cases f with
  | zero => rfl
  | succ f => rw [wrdR, if_pos ha]
theorem WrdI.stop {T : Txt} {a : Nat} {l : List Wd} (h : WrdI T a l) (ha : a < T.length) (he : endL (T.drop a) = none) : wrdR T T.length (skL false T) [] = ([], a, 1) := by
  obtain ⟨f, h1, h2⟩ := h
  rw [← h2]
  cases f with
  | zero => omega
  | succ f => rw [wrdR, if_neg (by omega), he]
theorem WrdI.next {T : Txt} {a n : Nat} {l : List Wd} (h : WrdI T a l) (ha : a < T.length) (he : endL (T.drop a) = some n) : WrdI T (a + n + skL false (T.drop (a + n))) (l ++ [wdOf T a n]) := by
  obtain ⟨f, h1, h2⟩ := h
  cases f with
  | zero => omega
  | succ f =>
    have h3 := endL_le he
    refine ⟨f, by omega, ?_⟩
    rw [← h2, wrdR, if_neg (by omega), he]

end Go.Proofs.Ytkpakpfjgeannaa
