/- Parse. The example: the automaton of "ab" and "a". The maths of layer 9: what the states of an automaton do, and how kinds of them are told. The maths of layer 10: the longest match at a place, and the tokens of a text. -/
import Derived.Test.YtonlcnmlklaicaaGreatDoorJ23
import Derived.Test.YtonlcnmlklaicaaGreatDoorJ18
import Derived.Test.YtonlcnmlklaicaaGreatDoorJ19
namespace Go.Proofs.YtonlcnmlklaicaaGreatDoor
open Go.RowKit

end Go.Proofs.YtonlcnmlklaicaaGreatDoor
namespace Go.Proofs.YtonlcnmlklaicaaGreatDoor
open Go.RowKit

/-- what a built automaton accepts -/
theorem rgtA_built {ts : List Rx} {all : List Sp} (R : RuS ts all) {n : Nat} (h : BldTo all n) : RgtA (nxtK all n) (accK all n) := by
  have H := nxtK_right R h.fin h.on h.pos
  have hl : (nxtK all n).length = n := nxtK_len all n
  have hl' : (accK all n).length = n := accK_len all n
  refine ⟨fun j hj => ?_, by rw [hl]; exact h.pos, by rw [hl]; exact h.le, by rw [hl, hl'], fun j hj => (H j (by rw [← hl']; exact hj)).2.1⟩
  rw [hl] at hj ⊢
  exact ⟨(H j hj).1, (H j hj).2.2⟩
theorem accB_built {ts : List Rx} {all : List Sp} (R : RuS ts all) {n : Nat} (h : BldTo all n) (s : Txt) : accB (nxtK all n) (accK all n) s = accG all n s := by
  have hr := rgtB_of (rgtA_built R h)
  have hin := goK_in (rgtA_built R h).rgt (rgtA_built R h).pos s s.length
  unfold accB accG
  rw [goB_yes hr]
  by_cases e : goK (nxtK all n) s s.length = -1
  · rw [if_pos e, if_pos (by omega)]
  · rw [if_neg e, if_neg (by omega)]
theorem rowK_dead {all : List Sp} {st : St} {S : List St} : ∀ b, (∀ c, c < b → byS all st c = []) → (rowK all st S b).1 = S
  | 0, _ => rfl
  | b + 1, h => by rw [rowK_met1, h b (by omega), metS_nil, rowK_dead b fun c hc => h c (by omega)]
end Go.Proofs.YtonlcnmlklaicaaGreatDoor
namespace Go.Proofs.YtonlcnmlklaicaaGreatDoor

/-- where a state leads by a byte; nowhere is the number behind all -/
def nxA (N : List (List Int)) (i b : Nat) : Nat := if N.length ≤ i then N.length else if (N.getD i []).getD b 0 < 0 then N.length else ((N.getD i []).getD b 0).toNat
def acA (N : List (List Int)) (A : List Int) (i : Nat) : Int := if N.length ≤ i then -1 else A.getD i 0
def goA (N : List (List Int)) : Nat → Txt → Nat
  | i, [] => i
  | i, c :: s => goA N (nxA N i c.toNat) s
/-- what a state does -/
def doA (N : List (List Int)) (A : List Int) (i : Nat) (s : Txt) : Int := acA N A (goA N i s)
def Alk (N : List (List Int)) (A : List Int) (i j : Nat) : Prop := ∀ s, doA N A i s = doA N A j s
theorem nxA_none (N : List (List Int)) (b : Nat) : nxA N N.length b = N.length := by unfold nxA; rw [if_pos (Nat.le_refl _)]
theorem nxA_le {N : List (List Int)} (h : RgtN N) (i : Nat) {b : Nat} (hb : b < 256) : nxA N i b ≤ N.length := by
  unfold nxA
  split
  · exact Nat.le_refl _
  · split
    · exact Nat.le_refl _
    · have := (h i (by omega)).2 b hb
      omega
theorem doA_cons (N : List (List Int)) (A : List Int) (i : Nat) (c : UInt8) (s : Txt) : doA N A i (c :: s) = doA N A (nxA N i c.toNat) s := rfl
theorem goA_le {N : List (List Int)} (h : RgtN N) : ∀ (s : Txt) (i : Nat), i ≤ N.length → goA N i s ≤ N.length
  | [], _, hi => hi
  | c :: s, i, _ => goA_le h s _ (nxA_le h i c.toNat_lt)
theorem goA_app (N : List (List Int)) : ∀ (s t : Txt) (i : Nat), goA N i (s ++ t) = goA N (goA N i s) t
  | [], _, _ => rfl
  | c :: s, t, i => goA_app N s t (nxA N i c.toNat)
theorem Alk.refl (N : List (List Int)) (A : List Int) (i : Nat) : Alk N A i i := fun _ => rfl
theorem Alk.symm {N : List (List Int)} {A : List Int} {i j : Nat} (h : Alk N A i j) : Alk N A j i := fun s => (h s).symm
theorem Alk.trans {N : List (List Int)} {A : List Int} {i j k : Nat} (h : Alk N A i j) (h' : Alk N A j k) : Alk N A i k := fun s => (h s).trans (h' s)
theorem Alk.next {N : List (List Int)} {A : List Int} {i j : Nat} (h : Alk N A i j) {b : Nat} (hb : b < 256) : Alk N A (nxA N i b) (nxA N j b) := fun s => by
  have := h (UInt8.ofNat b :: s)
  rw [doA_cons, doA_cons, UInt8.toNat_ofNat', Nat.mod_eq_of_lt hb] at this
  exact this
end Go.Proofs.YtonlcnmlklaicaaGreatDoor
namespace Go.Proofs.YtonlcnmlklaicaaGreatDoor

/-- the longest match (its rule, its length) and how many bytes were seen, from a state on: k bytes are read, m is what was met -/
def lngG (N : List (List Int)) (A : List Int) : Nat → Nat → Int × Nat → Txt → (Int × Nat) × Nat
  | _, k, m, [] => (m, k + 1)
  | i, k, m, c :: r => if N.length ≤ nxA N i c.toNat then (m, k + 1) else lngG N A (nxA N i c.toNat) (k + 1) (if acA N A (nxA N i c.toNat) = -1 then m else (acA N A (nxA N i c.toNat), k + 1)) r
def lngR (N : List (List Int)) (A : List Int) (u : Txt) : (Int × Nat) × Nat := lngG N A 0 0 (0, 0) u
/-- the longest match by what texts do -/
def mtK (N : List (List Int)) (A : List Int) (u : Txt) : Nat → Int × Nat
  | 0 => (0, 0)
  | k + 1 => if doA N A 0 (u.take (k + 1)) = -1 then mtK N A u k else (doA N A 0 (u.take (k + 1)), k + 1)
theorem goA_none (N : List (List Int)) : ∀ (s : Txt) (i : Nat), N.length ≤ i → N.length ≤ goA N i s
  | [], _, h => h
  | c :: s, i, h => goA_none N s _ (by unfold nxA; rw [if_pos h]; exact Nat.le_refl _)
theorem doA_dead {N : List (List Int)} {A : List Int} {s : Txt} (t : Txt) (h : N.length ≤ goA N 0 s) : doA N A 0 (s ++ t) = -1 := by
  unfold doA
  rw [goA_app]
  have := goA_none N t _ h
  unfold acA
  rw [if_pos this]
theorem mtK_dead {N : List (List Int)} {A : List Int} {u : Txt} {k : Nat} (h : N.length ≤ goA N 0 (u.take k)) : ∀ j, mtK N A u (k + j) = mtK N A u k
  | 0 => rfl
  | j + 1 => by
    rw [← Nat.add_assoc, mtK, if_pos, mtK_dead h j]
    have e : u.take (k + j + 1) = u.take k ++ (u.drop k).take (j + 1) := by rw [← List.take_add, Nat.add_assoc]
    rw [e]
    exact doA_dead _ h
theorem lngG_is {N : List (List Int)} {A : List Int} {u : Txt} : ∀ (r : Txt) (k : Nat), u.drop k = r → k ≤ u.length → (lngG N A (goA N 0 (u.take k)) k (mtK N A u k) r).1 = mtK N A u u.length
  | [], k, h, hk => by
    have h1 : u.length - k = 0 := by rw [← List.length_drop, h]; rfl
    have : k = u.length := by omega
    rw [lngG, this]
  | c :: r, k, h, hk => by
    have hl : u.length - k = r.length + 1 := by rw [← List.length_drop, h]; rfl
    have ht : u.take (k + 1) = u.take k ++ [c] := by
      rw [List.take_add, h]
      rfl
    have hd : u.drop (k + 1) = r := by rw [← List.drop_drop, h]; rfl
    have hg : goA N 0 (u.take (k + 1)) = nxA N (goA N 0 (u.take k)) c.toNat := by rw [ht, goA_app]; rfl
    rw [lngG]
    by_cases hn : N.length ≤ nxA N (goA N 0 (u.take k)) c.toNat
    · rw [if_pos hn]
      have h1 : mtK N A u u.length = mtK N A u (k + 1) := by
        have := mtK_dead (A := A) (u := u) (k := k + 1) (by rw [hg]; exact hn) (u.length - (k + 1))
        rw [show k + 1 + (u.length - (k + 1)) = u.length by omega] at this
        exact this
      rw [h1, mtK, if_pos]
      have h2 := doA_dead (N := N) (A := A) (s := u.take (k + 1)) [] (by rw [hg]; exact hn)
      rw [List.append_nil] at h2
      exact h2
    · rw [if_neg hn]
      have ih := lngG_is (N := N) (A := A) (u := u) r (k + 1) hd (by omega)
      rw [hg, mtK] at ih
      have e : doA N A 0 (u.take (k + 1)) = acA N A (nxA N (goA N 0 (u.take k)) c.toNat) := by unfold doA; rw [hg]
      rw [e] at ih
      exact ih
theorem lngR_is (N : List (List Int)) (A : List Int) (u : Txt) : (lngR N A u).1 = mtK N A u u.length := lngG_is u 0 rfl (Nat.zero_le _)
theorem mtK_le (N : List (List Int)) (A : List Int) (u : Txt) : ∀ k, (mtK N A u k).2 ≤ k
  | 0 => Nat.le_refl _
  | k + 1 => by
    have := mtK_le N A u k
    unfold mtK
    split
    · omega
    · exact Nat.le_refl _
/-- what a match is: its rule is what its text does; no longer text does anything -/
theorem mtK_spec (N : List (List Int)) (A : List Int) (u : Txt) : ∀ k, (∀ j, (mtK N A u k).2 < j → j ≤ k → doA N A 0 (u.take j) = -1) ∧ ((mtK N A u k).2 = 0 ∧ (mtK N A u k).1 = 0 ∨ 0 < (mtK N A u k).2 ∧ doA N A 0 (u.take (mtK N A u k).2) = (mtK N A u k).1 ∧ (mtK N A u k).1 ≠ -1)
  | 0 => ⟨fun j h1 h2 => by omega, Or.inl ⟨rfl, rfl⟩⟩
  | k + 1 => by
    obtain ⟨h1, h2⟩ := mtK_spec N A u k
    by_cases e : doA N A 0 (u.take (k + 1)) = -1
    · have e1 : mtK N A u (k + 1) = mtK N A u k := by rw [mtK, if_pos e]
      rw [e1]
      refine ⟨fun j h3 h4 => ?_, h2⟩
      rcases Nat.lt_or_ge k j with h5 | h5
      · obtain rfl : j = k + 1 := by omega
        exact e
      · exact h1 j h3 h5
    · have e1 : mtK N A u (k + 1) = (doA N A 0 (u.take (k + 1)), k + 1) := by rw [mtK, if_neg e]
      rw [e1]
      exact ⟨fun j h3 h4 => by have h3 : k + 1 < j := h3; omega, Or.inr ⟨Nat.succ_pos _, rfl, e⟩⟩
theorem lngG_seen {N : List (List Int)} {A : List Int} : ∀ (r : Txt) (i k : Nat) (m : Int × Nat), k + 1 ≤ (lngG N A i k m r).2 ∧ (lngG N A i k m r).2 ≤ k + r.length + 1
  | [], _, _, _ => ⟨Nat.le_refl _, Nat.le_refl _⟩
  | c :: r, i, k, m => by
    unfold lngG
    split
    · exact ⟨Nat.le_refl _, by show k + 1 ≤ _; omega⟩
    · obtain ⟨h1, h2⟩ := lngG_seen (N := N) (A := A) r (nxA N i c.toNat) (k + 1) (if acA N A (nxA N i c.toNat) = -1 then m else (acA N A (nxA N i c.toNat), k + 1))
      rw [List.length_cons]
      omega
theorem lngR_len (N : List (List Int)) (A : List Int) (u : Txt) : (lngR N A u).1.2 ≤ u.length := by rw [lngR_is]; exact mtK_le N A u _

/-- a token: its rule, its place, its length -/
abbrev Tk := Int × Nat × Nat
/-- the tokens from a place on, behind those that were cut: fuel is as many bytes as there are -/
def cutR (N : List (List Int)) (A : List Int) (T : Txt) : Nat → Nat → List Tk → List Nat → List Tk × List Nat × Int
  | 0, _, l, sn => (l, sn, -1)
  | f + 1, a, l, sn => if T.length ≤ a then (l, sn, -1) else if (lngR N A (T.drop a)).1.2 = 0 then (l, sn, (a : Int)) else cutR N A T f (a + (lngR N A (T.drop a)).1.2) (l ++ [((lngR N A (T.drop a)).1.1, a, (lngR N A (T.drop a)).1.2)]) (sn ++ [a + (lngR N A (T.drop a)).2])
def cutA (N : List (List Int)) (A : List Int) (T : Txt) : List Tk × List Nat × Int := cutR N A T T.length 0 [] []
theorem cutR_end {N : List (List Int)} {A : List Int} {T : Txt} {f a : Nat} {l : List Tk} {sn : List Nat} (h : T.length ≤ a) : cutR N A T f a l sn = (l, sn, -1) := by
  cases f with
  | zero => rfl
  | succ f => rw [cutR, if_pos h]
/-- what a loop over the tokens holds -/
def CutI (N : List (List Int)) (A : List Int) (T : Txt) (a : Nat) (l : List Tk) (sn : List Nat) : Prop := ∃ f, T.length ≤ a + f ∧ cutR N A T f a l sn = cutA N A T
theorem CutI.start (N : List (List Int)) (A : List Int) (T : Txt) : CutI N A T 0 [] [] := ⟨T.length, by omega, rfl⟩
theorem CutI.fin {N : List (List Int)} {A : List Int} {T : Txt} {a : Nat} {l : List Tk} {sn : List Nat} (h : CutI N A T a l sn) (ha : T.length ≤ a) : cutA N A T = (l, sn, -1) := by
  obtain ⟨f, _, h2⟩ := h
  rw [← h2, cutR_end ha]
theorem CutI.stop {N : List (List Int)} {A : List Int} {T : Txt} {a : Nat} {l : List Tk} {sn : List Nat} (h : CutI N A T a l sn) (ha : a < T.length) (h0 : (lngR N A (T.drop a)).1.2 = 0) : cutA N A T = (l, sn, (a : Int)) := by
  obtain ⟨f, h1, h2⟩ := h
  cases f with
  | zero => omega
  | succ f => rw [← h2, cutR, if_neg (by omega), if_pos h0]
theorem CutI.next {N : List (List Int)} {A : List Int} {T : Txt} {a : Nat} {l : List Tk} {sn : List Nat} (h : CutI N A T a l sn) (ha : a < T.length) (h0 : 0 < (lngR N A (T.drop a)).1.2) : CutI N A T (a + (lngR N A (T.drop a)).1.2) (l ++ [((lngR N A (T.drop a)).1.1, a, (lngR N A (T.drop a)).1.2)]) (sn ++ [a + (lngR N A (T.drop a)).2]) := by
  obtain ⟨f, h1, h2⟩ := h
  cases f with
  | zero => omega
  | succ f =>
    refine ⟨f, by omega, ?_⟩
    rw [← h2, cutR, if_neg (by omega), if_neg (by omega)]

/-- tokens one behind the other from a place on, each the longest match there; they end at e -/
def ChnT (N : List (List Int)) (A : List Int) (T : Txt) : Nat → List Tk → Nat → Prop
  | a, [], e => a = e
  | a, t :: l, e => t.2.1 = a ∧ a < T.length ∧ 0 < t.2.2 ∧ (lngR N A (T.drop a)).1 = (t.1, t.2.2) ∧ ChnT N A T (a + t.2.2) l e
theorem ChnT.snoc {N : List (List Int)} {A : List Int} {T : Txt} {e : Nat} : ∀ {l : List Tk} {a : Nat}, ChnT N A T a l e → e < T.length → 0 < (lngR N A (T.drop e)).1.2 → ChnT N A T a (l ++ [((lngR N A (T.drop e)).1.1, e, (lngR N A (T.drop e)).1.2)]) (e + (lngR N A (T.drop e)).1.2)
  | [], a, h, he, h0 => by
    have h : a = e := h
    subst h
    exact ⟨rfl, he, h0, rfl, rfl⟩
  | t :: l, a, h, he, h0 => ⟨h.1, h.2.1, h.2.2.1, h.2.2.2.1, ChnT.snoc h.2.2.2.2 he h0⟩
/-- the tokens of a text are such a chain; it ends at the text's end, or where there is no match -/
theorem cutR_chn {N : List (List Int)} {A : List Int} {T : Txt} : ∀ (f a : Nat) (l : List Tk) (sn : List Nat), a ≤ T.length → T.length ≤ a + f → ChnT N A T 0 l a → l.length = sn.length → ∃ e, e ≤ T.length ∧ ChnT N A T 0 (cutR N A T f a l sn).1 e ∧ (cutR N A T f a l sn).1.length = (cutR N A T f a l sn).2.1.length ∧ ((cutR N A T f a l sn).2.2 = -1 ∧ e = T.length ∨ (cutR N A T f a l sn).2.2 = (e : Int) ∧ e < T.length ∧ (lngR N A (T.drop e)).1.2 = 0)
  | 0, a, l, sn, h1, h2, h3, h4 => ⟨a, h1, h3, h4, Or.inl ⟨rfl, by omega⟩⟩
  | f + 1, a, l, sn, h1, h2, h3, h4 => by
    unfold cutR
    by_cases ha : T.length ≤ a
    · rw [if_pos ha]
      exact ⟨a, h1, h3, h4, Or.inl ⟨rfl, by omega⟩⟩
    · rw [if_neg ha]
      by_cases h0 : (lngR N A (T.drop a)).1.2 = 0
      · rw [if_pos h0]
        exact ⟨a, h1, h3, h4, Or.inr ⟨rfl, by omega, h0⟩⟩
      · rw [if_neg h0]
        have hl := lngR_len N A (T.drop a)
        rw [List.length_drop] at hl
        exact cutR_chn f _ _ _ (by omega) (by omega) (h3.snoc (by omega) (by omega)) (by rw [List.length_append, List.length_append, h4]; rfl)
theorem cutA_chn (N : List (List Int)) (A : List Int) (T : Txt) : ∃ e, e ≤ T.length ∧ ChnT N A T 0 (cutA N A T).1 e ∧ (cutA N A T).1.length = (cutA N A T).2.1.length ∧ ((cutA N A T).2.2 = -1 ∧ e = T.length ∨ (cutA N A T).2.2 = (e : Int) ∧ e < T.length ∧ (lngR N A (T.drop e)).1.2 = 0) := cutR_chn _ _ _ _ (Nat.zero_le _) (by omega) rfl rfl
/-- such a chain is one alone -/
theorem ChnT.uniq {N : List (List Int)} {A : List Int} {T : Txt} {e e' : Nat} (he : e = T.length ∨ e < T.length ∧ (lngR N A (T.drop e)).1.2 = 0) (he' : e' = T.length ∨ e' < T.length ∧ (lngR N A (T.drop e')).1.2 = 0) : ∀ {l l' : List Tk} {a : Nat}, ChnT N A T a l e → ChnT N A T a l' e' → l = l' ∧ e = e'
  | [], [], a, h, h' => ⟨rfl, by have h : a = e := h; have h' : a = e' := h'; omega⟩
  | [], t :: l', a, h, h' => by
    exfalso
    have h : a = e := h
    subst h
    obtain ⟨g1, g2, g3, g4, -⟩ := h'
    rcases he with he | ⟨-, he⟩
    · omega
    · rw [g4] at he
      have he : t.2.2 = 0 := he
      omega
  | t :: l, [], a, h, h' => by
    exfalso
    have h' : a = e' := h'
    subst h'
    obtain ⟨g1, g2, g3, g4, -⟩ := h
    rcases he' with he | ⟨-, he⟩
    · omega
    · rw [g4] at he
      have he : t.2.2 = 0 := he
      omega
  | t :: l, t' :: l', a, h, h' => by
    obtain ⟨g1, g2, g3, g4, g5⟩ := h
    obtain ⟨k1, k2, k3, k4, k5⟩ := h'
    rw [g4] at k4
    have e1 : t.1 = t'.1 := (Prod.mk.inj k4).1
    have e2 : t.2.2 = t'.2.2 := (Prod.mk.inj k4).2
    rw [← e2] at k5
    obtain ⟨r1, r2⟩ := ChnT.uniq he he' g5 k5
    refine ⟨?_, r2⟩
    rw [r1]
    congr 1
    exact Prod.ext e1 (Prod.ext (by rw [g1, k1]) e2)
/-- a chain from place b on is, b places ahead, a chain of the rest of the text -/
theorem ChnT.shift {N : List (List Int)} {A : List Int} {T : Txt} {b e : Nat} : ∀ {l : List Tk} {a : Nat}, b ≤ a → ChnT N A T a l e → ChnT N A (T.drop b) (a - b) (l.map fun t => (t.1, t.2.1 - b, t.2.2)) (e - b)
  | [], a, _, h => by have h : a = e := h; subst h; rfl
  | t :: l, a, hb, h => by
    obtain ⟨g1, g2, g3, g4, g5⟩ := h
    have ih := ChnT.shift (b := b) (by omega) g5
    rw [show a + t.2.2 - b = a - b + t.2.2 by omega] at ih
    refine ⟨by show t.2.1 - b = a - b; rw [g1], by rw [List.length_drop]; omega, g3, ?_, ih⟩
    rw [List.drop_drop, show b + (a - b) = a by omega]
    exact g4
theorem ChnT.part {N : List (List Int)} {A : List Int} {T : Txt} {e : Nat} : ∀ {l : List Tk} {a n : Nat}, ChnT N A T a l e → n < l.length → ChnT N A T (l.getD n (0, 0, 0)).2.1 (l.drop n) e ∧ a ≤ (l.getD n (0, 0, 0)).2.1
  | [], _, n, _, hn => absurd hn (Nat.not_lt_zero _)
  | t :: l, a, 0, h, _ => by
    have g1 := h.1
    refine ⟨?_, ?_⟩
    · show ChnT N A T t.2.1 (t :: l) e
      rw [g1]
      exact h
    · show a ≤ t.2.1
      omega
  | t :: l, a, n + 1, h, hn => by
    obtain ⟨h1, h2⟩ := ChnT.part (n := n) h.2.2.2.2 (by simpa using hn)
    exact ⟨h1, by show a ≤ (l.getD n (0, 0, 0)).2.1; omega⟩
/-- the rest of a text, from a token on, has the rest of the tokens -/
theorem cutA_rest {N : List (List Int)} {A : List Int} {T : Txt} {n : Nat} (hn : n < (cutA N A T).1.length) : (cutA N A (T.drop ((cutA N A T).1.getD n (0, 0, 0)).2.1)).1 = ((cutA N A T).1.drop n).map fun t => (t.1, t.2.1 - ((cutA N A T).1.getD n (0, 0, 0)).2.1, t.2.2) := by
  obtain ⟨e, he, hc, -, hs⟩ := cutA_chn N A T
  obtain ⟨h1, -⟩ := hc.part hn
  have hfe : ∀ {l : List Tk} {a : Nat}, ChnT N A T a l e → a ≤ e := by
    intro l
    induction l with
    | nil => intro a h; have h : a = e := h; omega
    | cons t l ih => intro a h; have := ih h.2.2.2.2; omega
  have hbe := hfe h1
  generalize ((cutA N A T).1.getD n (0, 0, 0)).2.1 = b at *
  have h2 := h1.shift (Nat.le_refl b)
  rw [Nat.sub_self] at h2
  obtain ⟨e', he', hc', -, hs'⟩ := cutA_chn N A (T.drop b)
  refine (ChnT.uniq (N := N) (A := A) (T := T.drop b) ?_ ?_ hc' h2).1
  · rcases hs' with ⟨-, h⟩ | ⟨-, h⟩
    · exact Or.inl h
    · exact Or.inr h
  · rcases hs with ⟨-, h⟩ | ⟨-, h, h'⟩
    · exact Or.inl (by rw [List.length_drop]; omega)
    · refine Or.inr ⟨by rw [List.length_drop]; omega, ?_⟩
      rw [List.drop_drop, show b + (e - b) = e by omega]
      exact h'

end Go.Proofs.YtonlcnmlklaicaaGreatDoor
