/- The text of a list of numbers: no other list has it. -/
import Derived.Lib.ItoaMem
import Derived.Lib.ItoaLen
namespace Go.Proofs.YtklfcjgambdncaaDoor
open Go.Lib

def keyB (l : List Int) : List UInt8 := l.flatMap fun n => itoa n ++ [32]
theorem keyB_nil : keyB [] = [] := rfl
theorem keyB_cons (n : Int) (l : List Int) : keyB (n :: l) = itoa n ++ 32 :: keyB l := by
  unfold keyB; rw [List.flatMap_cons, List.append_assoc]; rfl
theorem keyB_snoc (l : List Int) (n : Int) : keyB (l ++ [n]) = keyB l ++ itoa n ++ [32] := by
  unfold keyB; rw [List.flatMap_append, List.flatMap_cons, List.flatMap_nil, List.append_nil, List.append_assoc]

theorem dec_not32 : ∀ (u : Nat), ∀ c ∈ decDigits u, 48 ≤ c.toNat ∧ c.toNat ≤ 57
  | u, c, h => by
    rw [decDigits] at h
    split at h
    · rename_i hu
      rw [List.mem_singleton] at h
      subst h
      rw [UInt8.toNat_ofNat']
      omega
    · rename_i hu
      rcases List.mem_append.1 h with h | h
      · exact dec_not32 (u / 10) c h
      · rw [List.mem_singleton] at h
        subst h
        rw [UInt8.toNat_ofNat']
        omega
termination_by u => u
decreasing_by omega
theorem dec_inj : ∀ (u v : Nat), decDigits u = decDigits v → u = v
  | u, v, h => by
    have e1 : decDigits u = if _ : u < 10 then [UInt8.ofNat (48 + u)] else decDigits (u / 10) ++ [UInt8.ofNat (48 + u % 10)] := by rw [decDigits]
    have e2 : decDigits v = if _ : v < 10 then [UInt8.ofNat (48 + v)] else decDigits (v / 10) ++ [UInt8.ofNat (48 + v % 10)] := by rw [decDigits]
    have pos : ∀ n, decDigits n ≠ [] := fun n e => by
      have := decDigits_length n
      rw [e] at this
      have := nDigits_pos n
      simp at *
      omega
    have byte : ∀ a b : Nat, a < 10 → b < 10 → UInt8.ofNat (48 + a) = UInt8.ofNat (48 + b) → a = b := fun a b ha hb e => by
      have := congrArg UInt8.toNat e
      rw [UInt8.toNat_ofNat', UInt8.toNat_ofNat'] at this
      omega
    rw [e1, e2] at h
    by_cases hu : u < 10
    · rw [dif_pos hu] at h
      by_cases hv : v < 10
      · rw [dif_pos hv] at h
        exact byte u v hu hv (List.cons.inj h).1
      · rw [dif_neg hv] at h
        have h' : [] ++ [UInt8.ofNat (48 + u)] = decDigits (v / 10) ++ [UInt8.ofNat (48 + v % 10)] := h
        exact absurd (List.append_inj_left' h' rfl).symm (pos _)
    · rw [dif_neg hu] at h
      by_cases hv : v < 10
      · rw [dif_pos hv] at h
        have h' : decDigits (u / 10) ++ [UInt8.ofNat (48 + u % 10)] = [] ++ [UInt8.ofNat (48 + v)] := h
        exact absurd (List.append_inj_left' h' rfl) (pos _)
      · rw [dif_neg hv] at h
        have h1 := dec_inj (u / 10) (v / 10) (List.append_inj_left' h rfl)
        have h2 := byte (u % 10) (v % 10) (by omega) (by omega) (List.cons.inj (List.append_inj_right' h rfl)).1
        omega
termination_by u => u
decreasing_by omega
theorem dec_head (u : Nat) : ∀ t, decDigits u ≠ 45 :: t := fun t e => by
  have := dec_not32 u 45 (by rw [e]; exact List.mem_cons_self)
  simp at this
theorem itoa_inj {m n : Int} (h : itoa m = itoa n) : m = n := by
  unfold itoa at h
  by_cases hm : m < 0
  · rw [if_pos hm] at h
    by_cases hn : n < 0
    · rw [if_pos hn] at h
      have := dec_inj _ _ (List.cons.inj h).2
      omega
    · rw [if_neg hn] at h
      exact absurd h.symm (dec_head _ _)
  · rw [if_neg hm] at h
    by_cases hn : n < 0
    · rw [if_pos hn] at h
      exact absurd h (dec_head _ _)
    · rw [if_neg hn] at h
      have := dec_inj _ _ h
      omega
theorem itoa_not32 (n : Int) : ∀ c ∈ itoa n, c ≠ 32 := fun c h e => by
  subst e
  unfold itoa at h
  split at h
  · rcases List.mem_cons.1 h with h | h
    · exact absurd h (by decide)
    · have := dec_not32 _ _ h; simp at this
  · have := dec_not32 _ _ h; simp at this
theorem cut32 : ∀ {a b x y : List UInt8}, (∀ c ∈ a, c ≠ 32) → (∀ c ∈ b, c ≠ 32) → a ++ 32 :: x = b ++ 32 :: y → a = b ∧ x = y
  | [], [], _, _, _, _, h => ⟨rfl, (List.cons.inj h).2⟩
  | [], c :: b, _, _, _, hb, h => absurd (List.cons.inj h).1.symm (hb c List.mem_cons_self)
  | c :: a, [], _, _, ha, _, h => absurd (List.cons.inj h).1 (ha c List.mem_cons_self)
  | c :: a, d :: b, x, y, ha, hb, h => by
    obtain ⟨h1, h2⟩ := List.cons.inj h
    obtain ⟨h3, h4⟩ := cut32 (fun z hz => ha z (List.mem_cons_of_mem _ hz)) (fun z hz => hb z (List.mem_cons_of_mem _ hz)) h2
    exact ⟨by rw [h1, h3], h4⟩
theorem keyB_inj : ∀ {l m : List Int}, keyB l = keyB m → l = m
  | [], [], _ => rfl
  | [], n :: m, h => by rw [keyB_nil, keyB_cons] at h; exact absurd h.symm (by simp)
  | n :: l, [], h => by rw [keyB_nil, keyB_cons] at h; exact absurd h (by simp)
  | a :: l, b :: m, h => by
    rw [keyB_cons, keyB_cons] at h
    obtain ⟨h1, h2⟩ := cut32 (itoa_not32 a) (itoa_not32 b) h
    rw [itoa_inj h1, keyB_inj h2]
/-- numbers that an int can be -/
abbrev Fit (l : List Int) : Prop := ∀ x ∈ l, -9223372036854775808 ≤ x ∧ x ≤ 9223372036854775807
theorem keyB_len : ∀ (l : List Int), Fit l → (keyB l).length ≤ 22 * l.length
  | [], _ => Nat.le_refl _
  | n :: l, h => by
    have h1 := itoa_length_le n (h n List.mem_cons_self).1 (h n List.mem_cons_self).2
    have h2 := keyB_len l fun x hx => h x (List.mem_cons_of_mem _ hx)
    rw [keyB_cons, List.length_append, List.length_cons, List.length_cons]
    omega

end Go.Proofs.YtklfcjgambdncaaDoor
