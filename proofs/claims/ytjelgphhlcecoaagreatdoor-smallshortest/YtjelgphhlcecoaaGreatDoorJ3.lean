/- Where operands end. The reference: Empty. Spots of a rule: a way is a way by its first, its last and what stands behind what. A byte as it is told in a rule's text, and as it is read. -/
import Derived.Test.YtjelgphhlcecoaaGreatDoorJ2
import Derived.Test.YtjelgphhlcecoaaGreatDoorJ1
namespace Go.Proofs.YtjelgphhlcecoaaGreatDoor
open Go.RowKit

end Go.Proofs.YtjelgphhlcecoaaGreatDoor
namespace Go.Proofs.YtjelgphhlcecoaaGreatDoor
open Go.RowKit

end Go.Proofs.YtjelgphhlcecoaaGreatDoor
namespace Go.Proofs.YtjelgphhlcecoaaGreatDoor

/-- how many spots -/
def nSets : Rx → Nat
  | .set _ => 1
  | .eps => 0
  | .cat a b => nSets a + nSets b
  | .or a b => nSets a + nSets b
  | .star a => nSets a
  | .plus a => nSets a
  | .opt a => nSets a
/-- spots, numbered from n on: with which a way begins -/
def Fst : Rx → Nat → Nat → Prop
  | .set _, n, k => k = n
  | .eps, _, _ => False
  | .cat a b, n, k => Fst a n k ∨ (a.null = true ∧ Fst b (n + nSets a) k)
  | .or a b, n, k => Fst a n k ∨ Fst b (n + nSets a) k
  | .star a, n, k => Fst a n k
  | .plus a, n, k => Fst a n k
  | .opt a, n, k => Fst a n k
def Lst : Rx → Nat → Nat → Prop
  | .set _, n, k => k = n
  | .eps, _, _ => False
  | .cat a b, n, k => Lst b (n + nSets a) k ∨ (b.null = true ∧ Lst a n k)
  | .or a b, n, k => Lst a n k ∨ Lst b (n + nSets a) k
  | .star a, n, k => Lst a n k
  | .plus a, n, k => Lst a n k
  | .opt a, n, k => Lst a n k
def Fol : Rx → Nat → Nat → Nat → Prop
  | .set _, _, _, _ => False
  | .eps, _, _, _ => False
  | .cat a b, n, j, k => Fol a n j k ∨ Fol b (n + nSets a) j k ∨ (Lst a n j ∧ Fst b (n + nSets a) k)
  | .or a b, n, j, k => Fol a n j k ∨ Fol b (n + nSets a) j k
  | .star a, n, j, k => Fol a n j k ∨ (Lst a n j ∧ Fst a n k)
  | .plus a, n, j, k => Fol a n j k ∨ (Lst a n j ∧ Fst a n k)
  | .opt a, n, j, k => Fol a n j k
theorem fst_in : ∀ (t : Rx) (n k : Nat), Fst t n k → n ≤ k ∧ k < n + nSets t
  | .set _, n, k, h => by simp only [Fst] at h; simp [nSets]; omega
  | .eps, _, _, h => h.elim
  | .cat a b, n, k, h => by
    simp only [nSets]
    rcases h with h | ⟨_, h⟩
    · have := fst_in a n k h; omega
    · have := fst_in b _ k h; omega
  | .or a b, n, k, h => by
    simp only [nSets]
    rcases h with h | h
    · have := fst_in a n k h; omega
    · have := fst_in b _ k h; omega
  | .star a, n, k, h => fst_in a n k h
  | .plus a, n, k, h => fst_in a n k h
  | .opt a, n, k, h => fst_in a n k h
theorem lst_in : ∀ (t : Rx) (n k : Nat), Lst t n k → n ≤ k ∧ k < n + nSets t
  | .set _, n, k, h => by simp only [Lst] at h; simp [nSets]; omega
  | .eps, _, _, h => h.elim
  | .cat a b, n, k, h => by
    simp only [nSets]
    rcases h with h | ⟨_, h⟩
    · have := lst_in b _ k h; omega
    · have := lst_in a n k h; omega
  | .or a b, n, k, h => by
    simp only [nSets]
    rcases h with h | h
    · have := lst_in a n k h; omega
    · have := lst_in b _ k h; omega
  | .star a, n, k, h => lst_in a n k h
  | .plus a, n, k, h => lst_in a n k h
  | .opt a, n, k, h => lst_in a n k h
theorem fol_in : ∀ (t : Rx) (n j k : Nat), Fol t n j k → (n ≤ j ∧ j < n + nSets t) ∧ n ≤ k ∧ k < n + nSets t
  | .set _, _, _, _, h => h.elim
  | .eps, _, _, _, h => h.elim
  | .cat a b, n, j, k, h => by
    simp only [nSets]
    rcases h with h | h | ⟨h, h'⟩
    · have := fol_in a n j k h; omega
    · have := fol_in b _ j k h; omega
    · have := lst_in a n j h; have := fst_in b _ k h'; omega
  | .or a b, n, j, k, h => by
    simp only [nSets]
    rcases h with h | h
    · have := fol_in a n j k h; omega
    · have := fol_in b _ j k h; omega
  | .star a, n, j, k, h => by
    simp only [nSets]
    rcases h with h | ⟨h, h'⟩
    · exact fol_in a n j k h
    · exact ⟨lst_in a n j h, fst_in a n k h'⟩
  | .plus a, n, j, k, h => by
    simp only [nSets]
    rcases h with h | ⟨h, h'⟩
    · exact fol_in a n j k h
    · exact ⟨lst_in a n j h, fst_in a n k h'⟩
  | .opt a, n, j, k, h => fol_in a n j k h

/-- a way: spots, read at those very cells -/
inductive Way : Rx → Nat → List Nat → Prop
  | set (S : W4) (n : Nat) : Way (.set S) n [n]
  | eps (n : Nat) : Way .eps n []
  | cat {a b : Rx} {n : Nat} {u v : List Nat} : Way a n u → Way b (n + nSets a) v → Way (.cat a b) n (u ++ v)
  | orL {a b : Rx} {n : Nat} {u : List Nat} : Way a n u → Way (.or a b) n u
  | orR {a b : Rx} {n : Nat} {u : List Nat} : Way b (n + nSets a) u → Way (.or a b) n u
  | star0 (a : Rx) (n : Nat) : Way (.star a) n []
  | starS {a : Rx} {n : Nat} {u v : List Nat} : Way a n u → Way (.star a) n v → Way (.star a) n (u ++ v)
  | plus {a : Rx} {n : Nat} {u v : List Nat} : Way a n u → Way (.star a) n v → Way (.plus a) n (u ++ v)
  | opt0 (a : Rx) (n : Nat) : Way (.opt a) n []
  | opt1 {a : Rx} {n : Nat} {u : List Nat} : Way a n u → Way (.opt a) n u

/-- each stands behind the one ahead -/
def Chn (R : Nat → Nat → Prop) : List Nat → Prop
  | [] => True
  | [_] => True
  | x :: y :: r => R x y ∧ Chn R (y :: r)
theorem Chn.imp {R R' : Nat → Nat → Prop} (h : ∀ x y, R x y → R' x y) : ∀ {u : List Nat}, Chn R u → Chn R' u
  | [], _ => trivial
  | [_], _ => trivial
  | x :: y :: r, hc => ⟨h x y hc.1, Chn.imp h (u := y :: r) hc.2⟩
theorem Chn.tail {R : Nat → Nat → Prop} {x : Nat} : ∀ {u : List Nat}, Chn R (x :: u) → Chn R u
  | [], _ => trivial
  | _ :: _, h => h.2
/-- the last of a list that isn't empty -/
def lastD : Nat → List Nat → Nat
  | x, [] => x
  | _, y :: r => lastD y r
theorem Chn.app {R : Nat → Nat → Prop} : ∀ {x : Nat} {u : List Nat} {y : Nat} {v : List Nat}, Chn R (x :: u) → Chn R (y :: v) → R (lastD x u) y → Chn R (x :: (u ++ y :: v))
  | _, [], _, _, _, hv, h => ⟨h, hv⟩
  | _, z :: _, _, _, hu, hv, h => ⟨hu.1, Chn.app (x := z) hu.2 hv h⟩
theorem Chn.split {R : Nat → Nat → Prop} : ∀ {x : Nat} {u : List Nat} {y : Nat} {v : List Nat}, Chn R (x :: (u ++ y :: v)) → Chn R (x :: u) ∧ Chn R (y :: v) ∧ R (lastD x u) y
  | x, [], y, v, h => ⟨trivial, h.2, h.1⟩
  | x, z :: u, y, v, h => by
    obtain ⟨h1, h2, h3⟩ := Chn.split (x := z) (u := u) h.2
    exact ⟨⟨h.1, h1⟩, h2, h3⟩
end Go.Proofs.YtjelgphhlcecoaaGreatDoor
namespace Go.Proofs.YtjelgphhlcecoaaGreatDoor

abbrev Txt := List UInt8
/-- left out of plain atoms (by itself, but \), of classes; told by \ -/
def leftA (c : UInt8) : Bool := [46, 42, 43, 63, 40, 41, 91, 93, 124, 47].contains c
def leftC (c : UInt8) : Bool := [91, 93, 94, 45, 47].contains c
def escD (c : UInt8) : Bool := [46, 42, 43, 63, 40, 41, 91, 93, 124, 92, 47, 45, 94].contains c
def hexF (c : UInt8) : Option Nat :=
  if 48 ≤ c ∧ c ≤ 57 then some (c.toNat - 48) else if 97 ≤ c ∧ c ≤ 102 then some (c.toNat - 87) else if 65 ≤ c ∧ c ≤ 70 then some (c.toNat - 55) else none
/-- behind a \ -/
def escF : Txt → Option (Nat × Txt)
  | [] => none
  | d :: r =>
    if d = 110 then some (10, r) else if d = 116 then some (9, r) else if d = 114 then some (13, r)
    else if d = 120 then
      match r with
      | x :: y :: q => match hexF x, hexF y with
        | some a, some b => some (16 * a + b, q)
        | _, _ => none
      | _ => none
    else if escD d then some (d.toNat, r) else none
def signF (left : UInt8 → Bool) : Txt → Option (Nat × Txt)
  | [] => none
  | c :: r => if c < 32 ∨ 126 < c then none else if c = 92 then escF r else if left c then none else some (c.toNat, r)
theorem escF_ext {s : Txt} {b : Nat} {q : Txt} (r : Txt) (h : escF s = some (b, q)) : escF (s ++ r) = some (b, q ++ r) := by
  cases s with
  | nil => cases h
  | cons d s =>
    simp only [List.cons_append, escF] at h ⊢
    split
    · rename_i h1; rw [if_pos h1] at h; injection h with h; injection h with h2 h3; subst h2 h3; rfl
    rename_i h1; rw [if_neg h1] at h
    split
    · rename_i h1; rw [if_pos h1] at h; injection h with h; injection h with h2 h3; subst h2 h3; rfl
    rename_i h1; rw [if_neg h1] at h
    split
    · rename_i h1; rw [if_pos h1] at h; injection h with h; injection h with h2 h3; subst h2 h3; rfl
    rename_i h1; rw [if_neg h1] at h
    split
    · rename_i h1; rw [if_pos h1] at h
      match s, h with
      | x :: y :: z, h =>
        simp only [List.cons_append] at h ⊢
        split at h
        · rename_i a b' ha hb
          injection h with h; injection h with h2 h3; subst h2 h3
          first | rfl | rw [ha, hb]
        · cases h
    rename_i h1; rw [if_neg h1] at h
    split
    · rename_i h1; rw [if_pos h1] at h; injection h with h; injection h with h2 h3; subst h2 h3; rfl
    · rename_i h1; rw [if_neg h1] at h; cases h
theorem signF_ext {left : UInt8 → Bool} {s : Txt} {b : Nat} {q : Txt} (r : Txt) (h : signF left s = some (b, q)) : signF left (s ++ r) = some (b, q ++ r) := by
  cases s with
  | nil => cases h
  | cons c s =>
    simp only [List.cons_append, signF] at h ⊢
    split
    · rename_i h1; rw [if_pos h1] at h; cases h
    rename_i h1; rw [if_neg h1] at h
    split
    · rename_i h1; rw [if_pos h1] at h; exact escF_ext r h
    rename_i h1; rw [if_neg h1] at h
    split
    · rename_i h1; rw [if_pos h1] at h; cases h
    · rename_i h1; rw [if_neg h1] at h; injection h with h; injection h with h2 h3; subst h2 h3; rfl
/-- what is read is shorter -/
theorem escF_lt {s : Txt} {b : Nat} {q : Txt} (h : escF s = some (b, q)) : q.length < s.length := by
  cases s with
  | nil => cases h
  | cons d s =>
    simp only [escF] at h
    split at h
    · injection h with h; injection h with h2 h3; subst h3; simp
    split at h
    · injection h with h; injection h with h2 h3; subst h3; simp
    split at h
    · injection h with h; injection h with h2 h3; subst h3; simp
    split at h
    · match s, h with
      | x :: y :: z, h =>
        simp only at h
        split at h
        · injection h with h; injection h with h2 h3; subst h3; simp; omega
        · cases h
    split at h
    · injection h with h; injection h with h2 h3; subst h3; simp
    · cases h
theorem signF_lt {left : UInt8 → Bool} {s : Txt} {b : Nat} {q : Txt} (h : signF left s = some (b, q)) : q.length < s.length := by
  cases s with
  | nil => cases h
  | cons c s =>
    simp only [signF] at h
    split at h
    · cases h
    split at h
    · have := escF_lt h; simp; omega
    split at h
    · cases h
    · injection h with h; injection h with h2 h3; subst h3; simp
def digL (n : Nat) : UInt8 := if n < 10 then UInt8.ofNat (48 + n) else UInt8.ofNat (87 + n)
/-- a byte as it is told: 'left' tells which must be told by \ -/
def aloneL (b : Nat) (left : UInt8 → Bool) : Txt :=
  if b = 10 then [92, 110] else if b = 9 then [92, 116] else if b = 13 then [92, 114]
  else if b < 32 ∨ 126 < b then [92, 120, digL (b / 16), digL (b % 16)]
  else if left (UInt8.ofNat b) then [92, UInt8.ofNat b] else [UInt8.ofNat b]
def tellA (c : UInt8) : Bool := leftA c || c == 92
def tellC (c : UInt8) : Bool := leftC c || c == 92
theorem aloneA_all : ∀ b : Fin 256, signF leftA (aloneL b tellA) = some (b.val, []) := by decide +kernel
theorem aloneC_all : ∀ b : Fin 256, signF leftC (aloneL b tellC) = some (b.val, []) := by decide +kernel
theorem aloneA (b : Nat) (h : b < 256) (r : Txt) : signF leftA (aloneL b tellA ++ r) = some (b, r) := by
  have := signF_ext r (aloneA_all ⟨b, h⟩)
  simpa using this
theorem aloneC (b : Nat) (h : b < 256) (r : Txt) : signF leftC (aloneL b tellC ++ r) = some (b, r) := by
  have := signF_ext r (aloneC_all ⟨b, h⟩)
  simpa using this
/-- how such a text begins: by none of the signs that mean something else there -/
theorem headA_all : ∀ b : Fin 256, (match aloneL b tellA with | c :: _ => !(leftA c) | [] => false) = true := by decide +kernel
theorem headC_all : ∀ b : Fin 256, (match aloneL b tellC with | c :: _ => !(leftC c) | [] => false) = true := by decide +kernel
theorem headA (b : Nat) (h : b < 256) : ∃ c r, aloneL b tellA = c :: r ∧ leftA c = false := by
  have := headA_all ⟨b, h⟩
  simp only at this
  split at this
  · rename_i c r e; exact ⟨c, r, e, by simpa using this⟩
  · cases this
theorem headC (b : Nat) (h : b < 256) : ∃ c r, aloneL b tellC = c :: r ∧ leftC c = false := by
  have := headC_all ⟨b, h⟩
  simp only at this
  split at this
  · rename_i c r e; exact ⟨c, r, e, by simpa using this⟩
  · cases this

end Go.Proofs.YtjelgphhlcecoaaGreatDoor
