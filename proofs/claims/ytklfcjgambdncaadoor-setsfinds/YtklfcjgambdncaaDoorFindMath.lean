/- Where a list stands first among others; the map that says so. -/
import Derived.Test.YtklfcjgambdncaaDoorKeyMath
import Derived.Maps.OwnSet
namespace Go.Proofs.YtklfcjgambdncaaDoor
open Go.Maps

def findL : List (List Int) → List Int → Nat → Int
  | [], _, _ => -1
  | l :: r, s, k => if l = s then (k : Int) else findL r s (k + 1)
def dOf {H : Type} : List (List Int) → Nat → DataW H
  | [], _ => .map []
  | l :: r, k => (dOf r (k + 1)).put (.string (keyB l)) (.lit (.int .i64 k))
theorem dOf_map {H : Type} : ∀ (ls : List (List Int)) (k : Nat), IsMap (dOf (H := H) ls k)
  | [], _ => isMap_empty
  | _ :: r, k => (dOf_map r (k + 1)).put _ _
theorem dOf_step {H : Type} {ls : List (List Int)} {k : Nat} (h : k < ls.length) : dOf (H := H) (ls.drop k) k = (dOf (H := H) (ls.drop (k + 1)) (k + 1)).put (.string (keyB ls[k])) (.lit (.int .i64 k)) := by
  rw [List.drop_eq_getElem_cons h, dOf]
theorem find_no : ∀ (ls : List (List Int)) (s : List Int) (k : Nat), ¬ s ∈ ls → findL ls s k = -1
  | [], _, _, _ => rfl
  | l :: r, s, k, h => by
    rw [findL, if_neg (fun e => h (by rw [e]; exact List.mem_cons_self))]
    exact find_no r s (k + 1) fun h' => h (List.mem_cons_of_mem _ h')
theorem dOf_no {H : Type} : ∀ (ls : List (List Int)) (s : List Int) (k : Nat), ¬ s ∈ ls → Maps.has (dOf (H := H) ls k) (.string (keyB s)) = false
  | [], _, _, _ => rfl
  | l :: r, s, k, h => by
    rw [dOf, has_put_other (fun e => h (by injection e with e; rw [keyB_inj e]; exact List.mem_cons_self))]
    exact dOf_no r s (k + 1) fun h' => h (List.mem_cons_of_mem _ h')
theorem dOf_yes {H : Type} : ∀ (ls : List (List Int)) (s : List Int) (k : Nat), s ∈ ls → Maps.has (dOf (H := H) ls k) (.string (keyB s)) = true ∧ ∀ z, (dOf (H := H) ls k).atKey (.string (keyB s)) z = .lit (.int .i64 (findL ls s k))
  | [], _, _, h => absurd h (List.not_mem_nil)
  | l :: r, s, k, h => by
    by_cases e : l = s
    · subst e
      rw [dOf, findL, if_pos rfl]
      have hk : WideAt.IsKeyLit (.string (keyB l)) := trivial
      exact ⟨has_put_same (dOf_map r _) hk _, fun z => atKey_put_same (dOf_map r _) hk _ z⟩
    · have hne : (Lit.string (keyB s)) ≠ .string (keyB l) := fun e' => e (by injection e' with e'; exact (keyB_inj e').symm)
      rw [dOf, findL, if_neg e, has_put_other hne]
      have ih := dOf_yes (H := H) r s (k + 1) (by rcases List.mem_cons.1 h with h | h; exact absurd h.symm e; exact h)
      exact ⟨ih.1, fun z => by rw [atKey_put_other hne]; exact ih.2 z⟩
theorem find_ge : ∀ (ls : List (List Int)) (s : List Int) (k : Nat), s ∈ ls → (k : Int) ≤ findL ls s k
  | [], _, _, h => absurd h (List.not_mem_nil)
  | l :: r, s, k, h => by
    by_cases e : l = s
    · rw [findL, if_pos e]; omega
    · rw [findL, if_neg e]
      have := find_ge r s (k + 1) (by rcases List.mem_cons.1 h with h | h; exact absurd h.symm e; exact h)
      omega
theorem find_at {ls : List (List Int)} {s : List Int} {k : Nat} (h : k < ls.length) : findL (ls.drop k) s k = if ls[k] = s then (k : Int) else findL (ls.drop (k + 1)) s (k + 1) := by
  rw [List.drop_eq_getElem_cons h, findL]
theorem find_end {ls : List (List Int)} {s : List Int} {k : Nat} (h : ¬ k < ls.length) : findL (ls.drop k) s k = -1 := by
  rw [List.drop_eq_nil_of_le (by omega), findL]

end Go.Proofs.YtklfcjgambdncaaDoor
