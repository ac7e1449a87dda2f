/- A byte as it is told in a rule's text, and as it is read. The fewest sets that share nothing, hold all bytes, and of which each is wholly in, or wholly out of, each of a list. The least byte of a set; the chapter's example. A set as it is told, and as it is read. -/
import Derived.Test.YtfhokapfkclckaaGreatK1
import Derived.Lib.TrailingZeros
namespace Go.Proofs.YtfhokapfkclckaaGreat
abbrev Txt:=List UInt8
def leftA (c:UInt8):Bool:=[46,42,43,63,40,41,91,93,124,47].contains c
def leftC (c:UInt8):Bool:=[91,93,94,45,47].contains c
def escD (c:UInt8):Bool:=[46,42,43,63,40,41,91,93,124,92,47,45,94].contains c
def hexF (c:UInt8):Option Nat:=
 if 48 ≤ c ∧ c ≤ 57 then some (c.toNat - 48) else if 97 ≤ c ∧ c ≤ 102 then some (c.toNat - 87) else if 65 ≤ c ∧ c ≤ 70 then some (c.toNat - 55) else none
def escF:Txt → Option (Nat × Txt)
 | [] => none
 | d :: r =>
  if d = 110 then some (10,r) else if d = 116 then some (9,r) else if d = 114 then some (13,r)
  else if d = 120 then
   match r with
   | x :: y :: q => match hexF x,hexF y with
    | some a,some b => some (16 * a + b,q)
    | _,_ => none
   | _ => none
  else if escD d then some (d.toNat,r) else none
def signF (left:UInt8 → Bool):Txt → Option (Nat × Txt)
 | [] => none
 | c :: r => if c < 32 ∨ 126 < c then none else if c = 92 then escF r else if left c then none else some (c.toNat,r)
theorem escF_ext {s:Txt} {b:Nat} {q:Txt} (r:Txt) (h:escF s = some (b,q)):escF (s ++ r) = some (b,q ++ r):=by
 cases s with
 | nil => cases h
 | cons d s =>
  simp only [List.cons_append,escF] at h ⊢
  split
  · rename_i h1;rw [if_pos h1] at h;injection h with h;injection h with h2 h3;subst h2 h3;rfl
  rename_i h1;rw [if_neg h1] at h
  split
  · rename_i h1;rw [if_pos h1] at h;injection h with h;injection h with h2 h3;subst h2 h3;rfl
  rename_i h1;rw [if_neg h1] at h
  split
  · rename_i h1;rw [if_pos h1] at h;injection h with h;injection h with h2 h3;subst h2 h3;rfl
  rename_i h1;rw [if_neg h1] at h
  split
  · rename_i h1;rw [if_pos h1] at h
    match s,h with
    | x :: y :: z,h =>
     simp only [List.cons_append] at h ⊢
     split at h
     · rename_i a b' ha hb
       injection h with h;injection h with h2 h3;subst h2 h3
       first | rfl | rw [ha,hb]
     · cases h
  rename_i h1;rw [if_neg h1] at h
  split
  · rename_i h1;rw [if_pos h1] at h;injection h with h;injection h with h2 h3;subst h2 h3;rfl
  · rename_i h1;rw [if_neg h1] at h;cases h
theorem escF_lt {s:Txt} {b:Nat} {q:Txt} (h:escF s = some (b,q)):q.length < s.length:=by
 cases s with
 | nil => cases h
 | cons d s =>
  simp only [escF] at h
  split at h
  · injection h with h;injection h with h2 h3;subst h3;simp
  split at h
  · injection h with h;injection h with h2 h3;subst h3;simp
  split at h
  · injection h with h;injection h with h2 h3;subst h3;simp
  split at h
  · match s,h with
    | x :: y :: z,h =>
     simp only at h
     split at h
     · injection h with h;injection h with h2 h3;subst h3;simp;omega
     · cases h
  split at h
  · injection h with h;injection h with h2 h3;subst h3;simp
  · cases h
theorem signF_lt {left:UInt8 → Bool} {s:Txt} {b:Nat} {q:Txt} (h:signF left s = some (b,q)):q.length < s.length:=by
 cases s with
 | nil => cases h
 | cons c s =>
  simp only [signF] at h
  split at h
  · cases h
  split at h
  · have:=escF_lt h;simp;omega
  split at h
  · cases h
  · injection h with h;injection h with h2 h3;subst h3;simp
def tellA (c:UInt8):Bool:=leftA c || c == 92
def tellC (c:UInt8):Bool:=leftC c || c == 92
def itemsF:Nat → Bool → W4 → Txt → Option (W4 × Txt)
 | 0,_,_,_ => none
 | n + 1,first,acc,s =>
  if !first && s.head? == some 93 then some (acc,s.tail) else
  match signF leftC s with
  | none => none
  | some (a,s1) =>
   if s1.head? == some 45 then
    match signF leftC s1.tail with
    | none => none
    | some (b,s2) => if b < a then none else itemsF n false (orB acc (spanB a b)) s2
   else itemsF n false (orB acc (spanB a a)) s1
def classF (n:Nat) (s:Txt):Option (W4 × Txt):=
 if s.head? == some 94 then
  match itemsF n true noneB s.tail with
  | none => none
  | some (S,r) => if notB S = noneB then none else some (notB S,r)
 else
  match itemsF n true noneB s with
  | none => none
  | some (S,r) => if S = noneB then none else some (S,r)
end Go.Proofs.YtfhokapfkclckaaGreat
