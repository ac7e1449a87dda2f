/- A byte as it is told in a rule's text, and as it is read. The fewest sets that share nothing, hold all bytes, and of which each is wholly in, or wholly out of, each of a list. -/
import Derived.Test.YtjiljfmejgiabaaDoorJ2
import Derived.Test.YtjiljfmejgiabaaDoorJ1
namespace Go.Proofs.YtjiljfmejgiabaaDoor

abbrev Txt := List UInt8
/-- left out of plain atoms (by itself, but \), of classes; told by \ -/
def leftA (c : UInt8) : Bool := [46, 42, 43, 63, 40, 41, 91, 93, 124, 47].contains c
def leftC (c : UInt8) : Bool := [91, 93, 94, 45, 47].contains c
def escD (c : UInt8) : Bool := [46, 42, 43, 63, 40, 41, 91, 93, 124, 92, 47, 45, 94].contains c
def hexF (c : UInt8) : Option Nat :=
  if 48 ≤ c ∧ c ≤ 57 then some (c.toNat - 48) else if 97 ≤ c ∧ c ≤ 102 then some (c.toNat - 87) else if 65 ≤ c ∧ c ≤ 70 then some (c.toNat - 55) else none
/-- behind a \ -/
def escF : Txt → Option (Nat × Txt)
  | [] => none
  | d :: r =>
    if d = 110 then some (10, r) else if d = 116 then some (9, r) else if d = 114 then some (13, r)
    else if d = 120 then
      match r with
      | x :: y :: q => match hexF x, hexF y with
        | some a, some b => some (16 * a + b, q)
        | _, _ => none
      | _ => none
    else if escD d then some (d.toNat, r) else none
def signF (left : UInt8 → Bool) : Txt → Option (Nat × Txt)
  | [] => none
  | c :: r => if c < 32 ∨ 126 < c then none else if c = 92 then escF r else if left c then none else some (c.toNat, r)
theorem escF_ext {s : Txt} {b : Nat} {q : Txt} (r : Txt) (h : escF s = some (b, q)) : escF (s ++ r) = some (b, q ++ r) := by
  cases s with
  | nil => cases h
  | cons d s =>
    simp only [List.cons_append, escF] at h ⊢
    split
    · rename_i h1; rw [if_pos h1] at h; injection h with h; injection h with h2 h3; subst h2 h3; rfl
    rename_i h1; rw [if_neg h1] at h
    split
    · rename_i h1; rw [if_pos h1] at h; injection h with h; injection h with h2 h3; subst h2 h3; rfl
    rename_i h1; rw [if_neg h1] at h
    split
    · rename_i h1; rw [if_pos h1] at h; injection h with h; injection h with h2 h3; subst h2 h3; rfl
    rename_i h1; rw [if_neg h1] at h
    split
    · rename_i h1; rw [if_pos h1] at h
      match s, h with
      | x :: y :: z, h =>
        simp only [List.cons_append] at h ⊢
        split at h
        · rename_i a b' ha hb
          injection h with h; injection h with h2 h3; subst h2 h3
          first | rfl | rw [ha, hb]
        · cases h
    rename_i h1; rw [if_neg h1] at h
    split
    · rename_i h1; rw [if_pos h1] at h; injection h with h; injection h with h2 h3; subst h2 h3; rfl
    · rename_i h1; rw [if_neg h1] at h; cases h
theorem signF_ext {left : UInt8 → Bool} {s : Txt} {b : Nat} {q : Txt} (r : Txt) (h : signF left s = some (b, q)) : signF left (s ++ r) = some (b, q ++ r) := by
  cases s with
  | nil => cases h
  | cons c s =>
    simp only [List.cons_append, signF] at h ⊢
    split
    · rename_i h1; rw [if_pos h1] at h; cases h
    rename_i h1; rw [if_neg h1] at h
    split
    · rename_i h1; rw [if_pos h1] at h; exact escF_ext r h
    rename_i h1; rw [if_neg h1] at h
    split
    · rename_i h1; rw [if_pos h1] at h; cases h
    · rename_i h1; rw [if_neg h1] at h; injection h with h; injection h with h2 h3; subst h2 h3; rfl
/-- what is read is shorter -/
theorem escF_lt {s : Txt} {b : Nat} {q : Txt} (h : escF s = some (b, q)) : q.length < s.length := by
  cases s with
  | nil => cases h
  | cons d s =>
    simp only [escF] at h
    split at h
    · injection h with h; injection h with h2 h3; subst h3; simp
    split at h
    · injection h with h; injection h with h2 h3; subst h3; simp
    split at h
    · injection h with h; injection h with h2 h3; subst h3; simp
    split at h
    · match s, h with
      | x :: y :: z, h =>
        simp only at h
        split at h
        · injection h with h; injection h with h2 h3; subst h3; simp; omega
        · cases h
    split at h
    · injection h with h; injection h with h2 h3; subst h3; simp
    · cases h
theorem signF_lt {left : UInt8 → Bool} {s : Txt} {b : Nat} {q : Txt} (h : signF left s = some (b, q)) : q.length < s.length := by
  cases s with
  | nil => cases h
  | cons c s =>
    simp only [signF] at h
    split at h
    · cases h
    split at h
    · have := escF_lt h; simp; omega
    split at h
    · cases h
    · injection h with h; injection h with h2 h3; subst h3; simp
def digL (n : Nat) : UInt8 := if n < 10 then UInt8.ofNat (48 + n) else UInt8.ofNat (87 + n)
/-- a byte as it is told: 'left' tells which must be told by \ -/
def aloneL (b : Nat) (left : UInt8 → Bool) : Txt :=
  if b = 10 then [92, 110] else if b = 9 then [92, 116] else if b = 13 then [92, 114]
  else if b < 32 ∨ 126 < b then [92, 120, digL (b / 16), digL (b % 16)]
  else if left (UInt8.ofNat b) then [92, UInt8.ofNat b] else [UInt8.ofNat b]
def tellA (c : UInt8) : Bool := leftA c || c == 92
def tellC (c : UInt8) : Bool := leftC c || c == 92
theorem aloneA_all : ∀ b : Fin 256, signF leftA (aloneL b tellA) = some (b.val, []) := by decide +kernel
theorem aloneC_all : ∀ b : Fin 256, signF leftC (aloneL b tellC) = some (b.val, []) := by decide +kernel
theorem aloneA (b : Nat) (h : b < 256) (r : Txt) : signF leftA (aloneL b tellA ++ r) = some (b, r) := by
  have := signF_ext r (aloneA_all ⟨b, h⟩)
  simpa using this
theorem aloneC (b : Nat) (h : b < 256) (r : Txt) : signF leftC (aloneL b tellC ++ r) = some (b, r) := by
  have := signF_ext r (aloneC_all ⟨b, h⟩)
  simpa using this
/-- how such a text begins: by none of the signs that mean something else there -/
theorem headA_all : ∀ b : Fin 256, (match aloneL b tellA with | c :: _ => !(leftA c) | [] => false) = true := by decide +kernel
theorem headC_all : ∀ b : Fin 256, (match aloneL b tellC with | c :: _ => !(leftC c) | [] => false) = true := by decide +kernel
theorem headA (b : Nat) (h : b < 256) : ∃ c r, aloneL b tellA = c :: r ∧ leftA c = false := by
  have := headA_all ⟨b, h⟩
  simp only at this
  split at this
  · rename_i c r e; exact ⟨c, r, e, by simpa using this⟩
  · cases this
theorem headC (b : Nat) (h : b < 256) : ∃ c r, aloneL b tellC = c :: r ∧ leftC c = false := by
  have := headC_all ⟨b, h⟩
  simp only at this
  split at this
  · rename_i c r e; exact ⟨c, r, e, by simpa using this⟩
  · cases this

end Go.Proofs.YtjiljfmejgiabaaDoor
namespace Go.Proofs.YtjiljfmejgiabaaDoor

/-- are two bytes in the same sets of a list? -/
def al (l : List W4) (a b : Nat) : Bool := l.all fun S => hasB S a == hasB S b
theorem al_iff (l : List W4) (a b : Nat) : al l a b = true ↔ ∀ S ∈ l, hasB S a = hasB S b := by
  unfold al
  rw [List.all_eq_true]
  exact ⟨fun h S hS => beq_iff_eq.1 (h S hS), fun h S hS => beq_iff_eq.2 (h S hS)⟩
theorem al_refl (l : List W4) (a : Nat) : al l a a = true := (al_iff l a a).2 fun _ _ => rfl
theorem al_symm {l : List W4} {a b : Nat} (h : al l a b = true) : al l b a = true := (al_iff l b a).2 fun S hS => ((al_iff l a b).1 h S hS).symm
theorem al_trans {l : List W4} {a b c : Nat} (h : al l a b = true) (h' : al l b c = true) : al l a c = true := (al_iff l a c).2 fun S hS => ((al_iff l a b).1 h S hS).trans ((al_iff l b c).1 h' S hS)

/-- the least byte of each part, up to a byte -/
def repN (l : List W4) : Nat → List Nat
  | 0 => []
  | k + 1 => repN l k ++ (if (repN l k).any (fun r => al l r k) then [] else [k])
theorem repN_zero (l : List W4) : repN l 0 = [] := rfl
theorem repN_old {l : List W4} {k : Nat} (h : (repN l k).any (fun r => al l r k) = true) : repN l (k + 1) = repN l k := by rw [repN, h]; simp
theorem repN_new {l : List W4} {k : Nat} (h : (repN l k).any (fun r => al l r k) = false) : repN l (k + 1) = repN l k ++ [k] := by rw [repN, h]; simp
theorem repN_lt (l : List W4) : ∀ k, ∀ r ∈ repN l k, r < k
  | 0, r, h => absurd h (List.not_mem_nil)
  | k + 1, r, h => by
    cases hk : (repN l k).any (fun r => al l r k) with
    | true => rw [repN_old hk] at h; have := repN_lt l k r h; omega
    | false =>
      rw [repN_new hk, List.mem_append, List.mem_singleton] at h
      rcases h with h | rfl
      · have := repN_lt l k r h; omega
      · omega
theorem repN_len (l : List W4) : ∀ k, (repN l k).length ≤ k
  | 0 => Nat.le_refl _
  | k + 1 => by
    have := repN_len l k
    cases hk : (repN l k).any (fun r => al l r k) with
    | true => rw [repN_old hk]; omega
    | false => rw [repN_new hk, List.length_append]; simp; omega
/-- each byte is in a part -/
theorem repN_all (l : List W4) : ∀ k x, x < k → (repN l k).any (fun r => al l r x) = true
  | 0, x, h => absurd h (by omega)
  | k + 1, x, h => by
    by_cases e : x = k
    · subst e
      cases hk : (repN l x).any (fun r => al l r x) with
      | true => rw [repN_old hk]; exact hk
      | false => rw [repN_new hk, List.any_append, hk]; simp [al_refl]
    · have ih := repN_all l k x (by omega)
      cases hk : (repN l k).any (fun r => al l r k) with
      | true => rw [repN_old hk]; exact ih
      | false => rw [repN_new hk, List.any_append, ih]; rfl
/-- and in one alone -/
theorem repN_one (l : List W4) : ∀ k, (repN l k).Pairwise (fun r r' => al l r r' = false)
  | 0 => List.Pairwise.nil
  | k + 1 => by
    cases hk : (repN l k).any (fun r => al l r k) with
    | true => rw [repN_old hk]; exact repN_one l k
    | false =>
      rw [repN_new hk]
      refine List.pairwise_append.2 ⟨repN_one l k, List.pairwise_singleton _ _, fun r hr z hz => ?_⟩
      rw [List.mem_singleton] at hz
      subst hz
      have := List.any_eq_false.1 hk r hr
      simpa using this
/-- the part of a byte that none ahead is alike -/
def clsB (l : List W4) (a : Nat) : W4 := mkB fun x => al l a x
def partsB (l : List W4) : List W4 := (repN l 256).map (clsB l)
theorem cls_low {l : List W4} {a x : Nat} (h : (repN l a).any (fun r => al l r a) = false) (hx : x < a) : al l a x = false := by
  cases hax : al l a x with
  | false => rfl
  | true =>
    obtain ⟨r, hr, hrx⟩ := List.any_eq_true.1 (repN_all l a x hx)
    have h1 : al l r a = true := al_trans hrx (al_symm hax)
    have := List.any_eq_false.1 h r hr
    exact absurd h1 this
/-- what a new part holds, byte by byte from its least one on -/
theorem cls_eq {l : List W4} {a : Nat} (h : (repN l a).any (fun r => al l r a) = false) : clsB l a = mkB fun x => decide (a ≤ x) && al l a x :=
  mkB_congr fun x hx => by
    by_cases hxa : a ≤ x
    · simp [hxa]
    · rw [cls_low h (by omega)]; simp

/-! ### all parts together -/
def sumN (f : Nat → Nat) : List Nat → Nat
  | [] => 0
  | r :: t => f r + sumN f t
theorem sumN_add (f g : Nat → Nat) : ∀ t, sumN (fun r => f r + g r) t = sumN f t + sumN g t
  | [] => rfl
  | r :: t => by rw [sumN, sumN, sumN, sumN_add f g t]; omega
theorem sumN_zero {f : Nat → Nat} : ∀ {t : List Nat}, (∀ r ∈ t, f r = 0) → sumN f t = 0
  | [], _ => rfl
  | r :: t, h => by rw [sumN, h r List.mem_cons_self, sumN_zero fun r' hr' => h r' (List.mem_cons_of_mem _ hr')]
/-- of those that are apart from each other just one is alike a byte that one is alike -/
theorem sum_one (l : List W4) (x : Nat) : ∀ t : List Nat, t.Pairwise (fun r r' => al l r r' = false) → t.any (fun r => al l r x) = true → sumN (fun r => if al l r x then 1 else 0) t = 1
  | [], _, h => by simp at h
  | r :: t, hp, h => by
    rw [List.pairwise_cons] at hp
    rw [sumN]
    cases hr : al l r x with
    | true =>
      rw [sumN_zero]
      · rfl
      · intro r' hr'
        cases hr2 : al l r' x with
        | false => rfl
        | true =>
          have := hp.1 r' hr'
          rw [al_trans hr (al_symm hr2)] at this
          cases this
    | false =>
      have ht : t.any (fun r => al l r x) = true := by
        rw [List.any_cons, hr] at h
        simpa using h
      rw [sum_one l x t hp.2 ht]
      rfl
theorem sum_count (l : List W4) (t : List Nat) (hp : t.Pairwise (fun r r' => al l r r' = false)) (h : ∀ x, x < 256 → t.any (fun r => al l r x) = true) : ∀ k, k ≤ 256 → sumN (fun r => countN (clsB l r) k) t = k
  | 0, _ => sumN_zero fun _ _ => countN_zero _
  | k + 1, hk => by
    have ih := sum_count l t hp h k (by omega)
    have h1 := sum_one l k t hp (h k (by omega))
    have he : (fun r => countN (clsB l r) (k + 1)) = fun r => countN (clsB l r) k + (if al l r k then 1 else 0) := by
      funext r
      rw [countN_succ]
      unfold clsB
      rw [mkB_has _ k (by omega)]
    rw [he, sumN_add, ih, h1]
theorem parts_count (l : List W4) : sumN (fun r => countB (clsB l r)) (repN l 256) = 256 := by
  simp only [countB_eq]
  exact sum_count l _ (repN_one l 256) (fun x hx => repN_all l 256 x hx) 256 (Nat.le_refl _)
theorem count_pos {S : W4} {x : Nat} (hx : hasB S x = true) : ∀ k, x < k → 0 < countN S k
  | 0, h => absurd h (by omega)
  | k + 1, h => by
    rw [countN_succ]
    by_cases e : x = k
    · subst e; rw [hx]; simp
    · have := count_pos hx k (by omega); omega
theorem cls_pos (l : List W4) (r : Nat) (hr : r < 256) : 0 < countB (clsB l r) := by
  rw [countB_eq]
  exact count_pos (S := clsB l r) (x := r) (by unfold clsB; rw [mkB_has _ r hr]; exact al_refl l r) 256 hr
/-- each part is wholly in, or wholly out of, each of the list -/
theorem cls_in {l : List W4} {S : W4} (hS : S ∈ l) (r : Nat) : andB (clsB l r) S = if hasB S r then clsB l r else noneB := by
  cases hr : hasB S r with
  | true =>
    simp only [if_true]
    exact (mkB_eq (S := clsB l r) (by unfold clsB; exact mkB_fit _) fun x hx => by
      unfold clsB
      rw [mkB_has _ x hx]
      cases ha : al l r x with
      | false => rfl
      | true => rw [← (al_iff l r x).1 ha S hS, hr]; rfl).symm
  | false =>
    simp only [Bool.false_eq_true, if_false]
    exact (mkB_eq noneB_fit fun x hx => by
      rw [noneB_has]
      unfold clsB
      rw [mkB_has _ x hx]
      cases ha : al l r x with
      | false => rfl
      | true => rw [← (al_iff l r x).1 ha S hS, hr]; rfl).symm

attribute [irreducible] repN

end Go.Proofs.YtjiljfmejgiabaaDoor
