/- The example of layer 9: the automaton of "a|b" and "c", and the smallest one. Layer 8's law: copied. wakes. regex.Parse once more: its cells lie in memory of its own. -/
import Derived.Test.YtjelgphhlcecoaaGreatDoorJ33
import Derived.Test.YtjelgphhlcecoaaGreatDoorJ15
import Derived.Test.YtjelgphhlcecoaaGreatDoorJ25
import Derived.Test.YtjelgphhlcecoaaGreatDoorJ19
import Derived.Test.YtjelgphhlcecoaaGreatDoorJ29
import Derived.Test.YtjelgphhlcecoaaGreatDoorJ18
import Derived.Defers
import Derived.Recover
namespace Go.Proofs.YtjelgphhlcecoaaGreatDoor
open Go.RowKit

theorem rowK_deadN {all : List Sp} {st : St} {S : List St} (b : Nat) : ∀ d, (∀ c, b ≤ c → c < b + d → byS all st c = []) → (rowK all st S (b + d)).1 = (rowK all st S b).1
  | 0, _ => rfl
  | d + 1, h => by rw [← Nat.add_assoc, rowK_met1, h (b + d) (by omega) (by omega), metS_nil, rowK_deadN b d fun c h1 h2 => h c h1 (by omega)]
def wkO : Rx := .or (.set (spanB 97 97)) (.set (spanB 98 98))
def wkC : Rx := .set (spanB 99 99)
theorem wkO_reads : rowsP [97, 124, 98] = some (wkO, []) := by rfl
theorem wkC_reads : rowsP [99] = some (wkC, []) := by rfl
theorem wkO_fol : FolOK (FolS [wkO]) (nS [wkO]) [[], []] where
  len := rfl
  up := fun j hj => by
    have h2 : j < 2 := hj
    match j, h2 with
    | 0, _ => exact List.Pairwise.nil
    | 1, _ => exact List.Pairwise.nil
  mem := fun j x hj => by
    have h2 : j < 2 := hj
    match j, h2 with
    | 0, _ => simp [FolS, Fol, wkO, nS]
    | 1, _ => simp [FolS, Fol, wkO, nS]
theorem wkC_fol : FolOK (FolS [wkC]) (nS [wkC]) [[]] where
  len := rfl
  up := fun j hj => by
    have h2 : j < 1 := hj
    match j, h2 with
    | 0, _ => exact List.Pairwise.nil
  mem := fun j x hj => by
    have h2 : j < 1 := hj
    match j, h2 with
    | 0, _ => simp [FolS, Fol, wkC, nS]
def wkL : List Sp := [⟨[spanB 97 97, spanB 98 98], false, [0, 1], [0, 1], [[], []]⟩, ⟨[spanB 99 99], false, [0], [0], [[]]⟩]
theorem wkO_sp : spOf wkO [[], []] = ⟨[spanB 97 97, spanB 98 98], false, [0, 1], [0, 1], [[], []]⟩ := by
  have e1 : firstL wkO 0 = [0, 1] := by simp [wkO, firstL, nSets]; first | rfl | decide
  have e2 : lastL wkO 0 = [0, 1] := by simp [wkO, lastL, nSets]; first | rfl | decide
  unfold spOf
  rw [e1, e2]
  rfl
theorem wkC_sp : spOf wkC [[]] = ⟨[spanB 99 99], false, [0], [0], [[]]⟩ := by
  have e1 : firstL wkC 0 = [0] := by simp [wkC, firstL]
  have e2 : lastL wkC 0 = [0] := by simp [wkC, lastL]
  unfold spOf
  rw [e1, e2]
  rfl
theorem wkL_all : SpAll [wkO, wkC] wkL where
  len := rfl
  is := fun r hr => by
    have h2 : r < 2 := hr
    match r, h2 with
    | 0, _ => exact ⟨_, wkO_sp.symm, wkO_fol⟩
    | 1, _ => exact ⟨_, wkC_sp.symm, wkC_fol⟩
theorem wkL_oks : ∀ t ∈ [wkO, wkC], t.ok ∧ (post t).length ≤ 60 := by
  intro t ht
  rcases List.mem_cons.1 ht with rfl | ht
  · exact ⟨(rowsP_good wkO_reads).1, by decide⟩
  · rcases List.mem_cons.1 ht with rfl | ht
    · exact ⟨(rowsP_good wkC_reads).1, by decide⟩
    · cases ht
theorem wkL_first : firstS wkL 2 = [0, 1, 1000] := by simp [firstS, oneS, wideL, wkL]
theorem wkL_s0 (b : Nat) (hb : b < 256) : byS wkL [0, 1, 1000] b = if b = 97 ∨ b = 98 then [999] else if b = 99 then [1999] else [] := by
  have h0 : byOne wkL b (enc 0 0) = if b = 97 then [999] else [] := by
    rw [byOne_eq wkL b 0 0 (by omega)]
    simp [wkL, span_has 97 b hb, wideL]
  have h1 : byOne wkL b (enc 0 1) = if b = 98 then [999] else [] := by
    rw [byOne_eq wkL b 0 1 (by omega)]
    simp [wkL, span_has 98 b hb, wideL]
  have h2 : byOne wkL b (enc 1 0) = if b = 99 then [1999] else [] := by
    rw [byOne_eq wkL b 1 0 (by omega)]
    simp [wkL, span_has 99 b hb, wideL]
  have e : byS wkL [0, 1, 1000] b = ofL (byOne wkL b (enc 0 0) ++ (byOne wkL b (enc 0 1) ++ byOne wkL b (enc 1 0))) := by simp [byS, enc]
  rw [e, h0, h1, h2]
  by_cases ha : b = 97
  · subst ha; simp; exact ofL_self (by simp [Up])
  · by_cases hb' : b = 98
    · subst hb'; simp; exact ofL_self (by simp [Up])
    · by_cases hc : b = 99
      · subst hc; simp; exact ofL_self (by simp [Up])
      · simp [ha, hb', hc]; rfl
theorem wkL_s1 (b : Nat) : byS wkL [999] b = [] := by
  have h1 : byOne wkL b (enc 0 999) = [] := byOne_end wkL b 0
  have e : byS wkL [999] b = ofL (byOne wkL b (enc 0 999)) := by simp [byS, enc]
  rw [e, h1]
  rfl
theorem wkL_s2 (b : Nat) : byS wkL [1999] b = [] := by
  have h1 : byOne wkL b (enc 1 999) = [] := byOne_end wkL b 1
  have e : byS wkL [1999] b = ofL (byOne wkL b (enc 1 999)) := by simp [byS, enc]
  rw [e, h1]
  rfl
theorem wkL_0 : stsK wkL 0 = [[0, 1, 1000]] := by
  rw [stsK, show wkL.length = 2 from rfl, wkL_first]
theorem wkL_1 : stsK wkL 1 = [[0, 1, 1000], [999], [1999]] := by
  have e : stsK wkL 1 = (rowK wkL [0, 1, 1000] [[0, 1, 1000]] 256).1 := by rw [stsK, wkL_0]; rfl
  have h97 : (rowK wkL [0, 1, 1000] [[0, 1, 1000]] 97).1 = [[0, 1, 1000]] := rowK_dead 97 fun c hc => by rw [wkL_s0 c (by omega), if_neg (by omega), if_neg (by omega)]
  have h98 : (rowK wkL [0, 1, 1000] [[0, 1, 1000]] 98).1 = [[0, 1, 1000], [999]] := by
    rw [show (98 : Nat) = 97 + 1 from rfl, rowK_met1, h97, wkL_s0 97 (by omega), if_pos (Or.inl rfl)]
    decide
  have h99 : (rowK wkL [0, 1, 1000] [[0, 1, 1000]] 99).1 = [[0, 1, 1000], [999]] := by
    rw [show (99 : Nat) = 98 + 1 from rfl, rowK_met1, h98, wkL_s0 98 (by omega), if_pos (Or.inr rfl)]
    decide
  have h100 : (rowK wkL [0, 1, 1000] [[0, 1, 1000]] 100).1 = [[0, 1, 1000], [999], [1999]] := by
    rw [show (100 : Nat) = 99 + 1 from rfl, rowK_met1, h99, wkL_s0 99 (by omega), if_neg (by omega), if_pos rfl]
    decide
  rw [e, show (256 : Nat) = 100 + 156 from rfl, rowK_deadN 100 156 fun c h1 h2 => by rw [wkL_s0 c (by omega), if_neg (by omega), if_neg (by omega)]]
  exact h100
theorem wkL_2 : stsK wkL 2 = [[0, 1, 1000], [999], [1999]] := by
  have e : stsK wkL 2 = (rowK wkL [999] [[0, 1, 1000], [999], [1999]] 256).1 := by rw [stsK, wkL_1]; rfl
  rw [e, rowK_dead 256 (fun c _ => wkL_s1 c)]
theorem wkL_3 : stsK wkL 3 = [[0, 1, 1000], [999], [1999]] := by
  have e : stsK wkL 3 = (rowK wkL [1999] [[0, 1, 1000], [999], [1999]] 256).1 := by rw [stsK, wkL_2]; rfl
  rw [e, rowK_dead 256 (fun c _ => wkL_s2 c)]
theorem wkL_to : BldTo wkL 3 where
  on := fun j hj => by
    match j, hj with
    | 0, _ => rw [wkL_0]; decide
    | 1, _ => rw [wkL_1]; decide
    | 2, _ => rw [wkL_2]; decide
  few := fun j hj => by
    match j, hj with
    | 0, _ => rw [wkL_0]; decide
    | 1, _ => rw [wkL_1]; decide
    | 2, _ => rw [wkL_2]; decide
    | 3, _ => rw [wkL_3]; decide
  fin := by rw [wkL_3]; rfl
theorem wkL_right : RgtA (nxtK wkL 3) (accK wkL 3) := rgtA_built (wkL_all.ru (fun t ht => (wkL_oks t ht).2)) wkL_to
theorem wkL_cell (j : Nat) (hj : j < 3) (c : Nat) (hc : c < 256) : RowOK [[0, 1, 1000], [999], [1999]] (byS wkL ((stsK wkL j).getD j []) c) (((nxtK wkL 3).getD j []).getD c 0) := by
  have := (nxtK_row wkL hj).2 c hc
  rw [wkL_3] at this
  exact this
theorem rowOK_none {T : List St} {n : Int} (h : RowOK T [] n) : n = -1 := by
  rcases h with ⟨_, h⟩ | ⟨h, _⟩
  · exact h
  · exact absurd rfl h
theorem wkT_1 {n : Int} (h : RowOK [[0, 1, 1000], [999], [1999]] [999] n) : n = 1 := by
  rcases h with ⟨h, _⟩ | ⟨_, m, e, h⟩
  · cases h
  · match m, h with
    | 0, h => simp at h
    | 1, _ => exact e
    | 2, h => simp at h
    | m + 3, h => simp at h
theorem wkT_2 {n : Int} (h : RowOK [[0, 1, 1000], [999], [1999]] [1999] n) : n = 2 := by
  rcases h with ⟨h, _⟩ | ⟨_, m, e, h⟩
  · cases h
  · match m, h with
    | 0, h => simp at h
    | 1, h => simp at h
    | 2, _ => exact e
    | m + 3, h => simp at h
theorem wkN_len : (nxtK wkL 3).length = 3 := nxtK_len _ _
theorem wkN_0 (c : Nat) (hc : c < 256) : nxA (nxtK wkL 3) 0 c = if c = 97 ∨ c = 98 then 1 else if c = 99 then 2 else 3 := by
  have h := wkL_cell 0 (by omega) c hc
  rw [wkL_0] at h
  have h' : RowOK [[0, 1, 1000], [999], [1999]] (byS wkL [0, 1, 1000] c) (((nxtK wkL 3).getD 0 []).getD c 0) := h
  rw [wkL_s0 c hc] at h'
  unfold nxA
  rw [wkN_len, if_neg (by omega)]
  by_cases h1 : c = 97 ∨ c = 98
  · rw [if_pos h1] at h' ⊢
    rw [wkT_1 h']
    rfl
  · rw [if_neg h1] at h' ⊢
    by_cases h2 : c = 99
    · rw [if_pos h2] at h' ⊢
      rw [wkT_2 h']
      rfl
    · rw [if_neg h2] at h' ⊢
      rw [rowOK_none h']
      rfl
theorem wkN_1 (c : Nat) (hc : c < 256) : nxA (nxtK wkL 3) 1 c = 3 := by
  have h := wkL_cell 1 (by omega) c hc
  rw [wkL_1] at h
  have h' : RowOK [[0, 1, 1000], [999], [1999]] (byS wkL [999] c) (((nxtK wkL 3).getD 1 []).getD c 0) := h
  rw [wkL_s1] at h'
  unfold nxA
  rw [wkN_len, if_neg (by omega), rowOK_none h']
  rfl
theorem wkN_2 (c : Nat) (hc : c < 256) : nxA (nxtK wkL 3) 2 c = 3 := by
  have h := wkL_cell 2 (by omega) c hc
  rw [wkL_2] at h
  have h' : RowOK [[0, 1, 1000], [999], [1999]] (byS wkL [1999] c) (((nxtK wkL 3).getD 2 []).getD c 0) := h
  rw [wkL_s2] at h'
  unfold nxA
  rw [wkN_len, if_neg (by omega), rowOK_none h']
  rfl
theorem wkA_0 : acA (nxtK wkL 3) (accK wkL 3) 0 = -1 := by unfold acA; rw [wkN_len, if_neg (by omega), accK_at wkL (by omega), wkL_0]; rfl
theorem wkA_1 : acA (nxtK wkL 3) (accK wkL 3) 1 = 0 := by unfold acA; rw [wkN_len, if_neg (by omega), accK_at wkL (by omega), wkL_1]; rfl
theorem wkA_2 : acA (nxtK wkL 3) (accK wkL 3) 2 = 1 := by unfold acA; rw [wkN_len, if_neg (by omega), accK_at wkL (by omega), wkL_2]; rfl
theorem wkA_3 : acA (nxtK wkL 3) (accK wkL 3) 3 = -1 := by unfold acA; rw [wkN_len, if_pos (by omega)]
theorem wk_ne {i j : Nat} {x y : Int} (h1 : acA (nxtK wkL 3) (accK wkL 3) i = x) (h2 : acA (nxtK wkL 3) (accK wkL 3) j = y) (h : x ≠ y) : ¬ Alk (nxtK wkL 3) (accK wkL 3) i j := fun e => h (by rw [← h1, ← h2]; exact e [])
theorem rowM_deadN {al : Nat → Nat → Bool} {z : Nat} {to : Nat → Nat} {S : List Nat} (b : Nat) : ∀ d, (∀ c, b ≤ c → c < b + d → al (to c) z = true) → rowM al z to S (b + d) = ((rowM al z to S b).1, (rowM al z to S b).2 ++ List.replicate d (-1))
  | 0, _ => by simp
  | d + 1, h => by
    rw [← Nat.add_assoc, rowM_none (h (b + d) (by omega) (by omega)), rowM_deadN b d fun c h1 h2 => h c h1 (by omega), List.replicate_succ', List.append_assoc]
theorem wk_row (k d : Nat) : (List.replicate k (-1) ++ [1] ++ [1] ++ [2] ++ List.replicate d (-1) : List Int).length = k + 3 + d ∧ (List.replicate k (-1) ++ [1] ++ [1] ++ [2] ++ List.replicate d (-1) : List Int).getD k 0 = 1 ∧ (List.replicate k (-1) ++ [1] ++ [1] ++ [2] ++ List.replicate d (-1) : List Int).getD (k + 1) 0 = 1 ∧ (List.replicate k (-1) ++ [1] ++ [1] ++ [2] ++ List.replicate d (-1) : List Int).getD (k + 2) 0 = 2 := by
  refine ⟨by simp; omega, ?_, ?_, ?_⟩ <;> rw [List.append_assoc, List.append_assoc, List.append_assoc, List.getD_eq_getElem?_getD, List.getElem?_append_right (by simp)] <;> simp
/-- the smallest automaton of the example -/
theorem wk_small {M : List (List Int)} {B : List Int} (h : MkR (nxtK wkL 3) (accK wkL 3) M B) : M.length = 3 ∧ (M.getD 0 []).length = 256 ∧ (M.getD 0 []).getD 97 0 = 1 ∧ (M.getD 0 []).getD 98 0 = 1 ∧ (M.getD 0 []).getD 99 0 = 2 := by
  obtain ⟨al, m, hal, hto, rfl, rfl⟩ := h
  have hr := wkL_right
  have hb : ∀ i j, i ≤ 3 → j ≤ 3 → (al i j = true ↔ Alk (nxtK wkL 3) (accK wkL 3) i j) := fun i j hi hj => hal i j (by rw [wkN_len]; exact hi) (by rw [wkN_len]; exact hj)
  have a33 : al 3 3 = true := (hb 3 3 (by omega) (by omega)).2 (Alk.refl _ _ _)
  have no : ∀ i j, i ≤ 3 → j ≤ 3 → ¬ Alk (nxtK wkL 3) (accK wkL 3) i j → al i j = false := fun i j hi hj hn => by
    cases e : al i j with
    | false => rfl
    | true => exact absurd ((hb i j hi hj).1 e) hn
  have a13 : al 1 3 = false := no 1 3 (by omega) (by omega) (wk_ne wkA_1 wkA_3 (by decide))
  have a23 : al 2 3 = false := no 2 3 (by omega) (by omega) (wk_ne wkA_2 wkA_3 (by decide))
  have a10 : al 1 0 = false := no 1 0 (by omega) (by omega) (wk_ne wkA_1 wkA_0 (by decide))
  have a20 : al 2 0 = false := no 2 0 (by omega) (by omega) (wk_ne wkA_2 wkA_0 (by decide))
  have a21 : al 2 1 = false := no 2 1 (by omega) (by omega) (wk_ne wkA_2 wkA_1 (by decide))
  have a11 : al 1 1 = true := (hb 1 1 (by omega) (by omega)).2 (Alk.refl _ _ _)
  have d0 : ∀ c, c < 256 → ¬ (c = 97 ∨ c = 98) → c ≠ 99 → al (nxA (nxtK wkL 3) 0 c) 3 = true := fun c hc h1 h2 => by rw [wkN_0 c hc, if_neg h1, if_neg h2]; exact a33
  have n97 : nxA (nxtK wkL 3) 0 97 = 1 := by rw [wkN_0 97 (by omega), if_pos (Or.inl rfl)]
  have n98 : nxA (nxtK wkL 3) 0 98 = 1 := by rw [wkN_0 98 (by omega), if_pos (Or.inr rfl)]
  have n99 : nxA (nxtK wkL 3) 0 99 = 2 := by rw [wkN_0 99 (by omega), if_neg (by omega), if_pos rfl]
  have r97 : rowM al 3 (nxA (nxtK wkL 3) 0) [0] 97 = ([0], List.replicate 97 (-1)) := by
    have := rowM_deadN (al := al) (z := 3) (to := nxA (nxtK wkL 3) 0) (S := [0]) 0 97 fun c _ h2 => d0 c (by omega) (by omega) (by omega)
    rw [Nat.zero_add] at this
    rw [this]
    rfl
  have r98 : rowM al 3 (nxA (nxtK wkL 3) 0) [0] 98 = ([0, 1], List.replicate 97 (-1) ++ [1]) := by
    rw [show (98 : Nat) = 97 + 1 from rfl, rowM_new (by rw [n97]; exact a13) (by rw [r97, n97]; simp [List.findIdx_cons, a10]), r97, n97]
    rfl
  have r99 : rowM al 3 (nxA (nxtK wkL 3) 0) [0] 99 = ([0, 1], List.replicate 97 (-1) ++ [1] ++ [1]) := by
    rw [show (99 : Nat) = 98 + 1 from rfl, rowM_old (by rw [n98]; exact a13) (by rw [r98, n98]; simp [List.findIdx_cons, a10, a11]), r98, n98]
    simp [List.findIdx_cons, a10, a11]
  have r100 : rowM al 3 (nxA (nxtK wkL 3) 0) [0] 100 = ([0, 1, 2], List.replicate 97 (-1) ++ [1] ++ [1] ++ [2]) := by
    rw [show (100 : Nat) = 99 + 1 from rfl, rowM_new (by rw [n99]; exact a23) (by rw [r99, n99]; simp [List.findIdx_cons, a20, a21]), r99, n99]
    rfl
  have r256 : rowM al 3 (nxA (nxtK wkL 3) 0) [0] 256 = ([0, 1, 2], List.replicate 97 (-1) ++ [1] ++ [1] ++ [2] ++ List.replicate 156 (-1)) := by
    rw [show (256 : Nat) = 100 + 156 from rfl, rowM_deadN 100 156 (fun c h1 h2 => d0 c (by omega) (by omega) (by omega)), r100]
  have s1 : stM al (nxtK wkL 3) 1 = [0, 1, 2] := by
    have : stM al (nxtK wkL 3) 1 = (rowM al (nxtK wkL 3).length (nxA (nxtK wkL 3) 0) [0] 256).1 := rfl
    rw [this, wkN_len, r256]
  have s2 : stM al (nxtK wkL 3) 2 = [0, 1, 2] := by
    have : stM al (nxtK wkL 3) 2 = (rowM al (nxtK wkL 3).length (nxA (nxtK wkL 3) ((stM al (nxtK wkL 3) 1).getD 1 0)) (stM al (nxtK wkL 3) 1) 256).1 := rfl
    rw [this, s1, wkN_len]
    have := rowM_deadN (al := al) (z := 3) (to := nxA (nxtK wkL 3) 1) (S := [0, 1, 2]) 0 256 fun c _ h2 => by rw [wkN_1 c (by omega)]; exact a33
    rw [Nat.zero_add] at this
    exact congrArg Prod.fst this
  have s3 : stM al (nxtK wkL 3) 3 = [0, 1, 2] := by
    have : stM al (nxtK wkL 3) 3 = (rowM al (nxtK wkL 3).length (nxA (nxtK wkL 3) ((stM al (nxtK wkL 3) 2).getD 2 0)) (stM al (nxtK wkL 3) 2) 256).1 := rfl
    rw [this, s2, wkN_len]
    have := rowM_deadN (al := al) (z := 3) (to := nxA (nxtK wkL 3) 2) (S := [0, 1, 2]) 0 256 fun c _ h2 => by rw [wkN_2 c (by omega)]; exact a33
    rw [Nat.zero_add] at this
    exact congrArg Prod.fst this
  have hto3 : MkTo al (nxtK wkL 3) 3 := ⟨by rw [s3]; rfl, fun j hj => by
    match j, hj with
    | 0, _ => exact Nat.one_pos
    | 1, _ => rw [s1]; decide
    | 2, _ => rw [s2]; decide⟩
  obtain rfl := mkTo_uniq hto hto3
  have hrow : (nxM al (nxtK wkL 3) 3).getD 0 [] = List.replicate 97 (-1) ++ [1] ++ [1] ++ [2] ++ List.replicate 156 (-1) := by
    rw [nxM_get al _ 3 0 (by omega)]
    have : rowM al (nxtK wkL 3).length (nxA (nxtK wkL 3) ((stM al (nxtK wkL 3) 0).getD 0 0)) (stM al (nxtK wkL 3) 0) 256 = rowM al (nxtK wkL 3).length (nxA (nxtK wkL 3) 0) [0] 256 := rfl
    rw [this, wkN_len, r256]
  rw [hrow]
  exact ⟨nxM_len _ _ _, wk_row 97 156⟩

end Go.Proofs.YtjelgphhlcecoaaGreatDoor
namespace Go.Proofs.YtjelgphhlcecoaaGreatDoor
open Go.RowKit

theorem Cels.kept {F : Nat → Prop} {w w' : World} {v : Value} {l : List Cel} (h : Cels w v l) (hk : Kept F w w') (ho : Off F v) : Cels w' v l := by
  obtain ⟨a, cap, rfl, hc, hn, hf, hat⟩ := h
  refine ⟨a, cap, rfl, hc, hn, hf, fun j hj => ?_⟩
  obtain ⟨b, o, rfl, hlt, h5⟩ := hat j hj
  have hn : ¬ F b := ho _ _ _ rfl (by omega)
  exact ⟨b, o, rfl, Nat.lt_of_lt_of_le hlt hk.size, at5_of fun i hi => hk.cell (h5.word i hi) hlt hn⟩
/-- lists of cells, each apart -/
def CelF (F : Nat → Prop) (w : World) (vs : List Value) (L : List (List Cel)) : Prop := vs.length = L.length ∧ ∀ j, Cels w (vs.getD j nilV) (L.getD j []) ∧ Off F (vs.getD j nilV)
theorem CelF.nil (F : Nat → Prop) (w : World) : CelF F w [] [] := ⟨rfl, fun _ => ⟨⟨none, 0, rfl, Nat.le_refl _, fun _ => rfl, fun _ hS => absurd hS (List.not_mem_nil), fun _ hj => absurd hj (Nat.not_lt_zero _)⟩, Off.nil F⟩⟩
theorem celss_of {F : Nat → Prop} {w : World} {B : Nat} {v : Value} {vs : List Value} {L : List (List Cel)} (h : w.ownsRow B 63 1 v vs.length vs) (hn : CelF F w vs L) : Celss w v L := by
  have h' := h
  have hl := hn.1
  rcases h.2 with ⟨rfl, h0⟩ | ⟨g, cap, cur, rfl, _, _, hc, _⟩
  · have e : L.length = 0 := by omega
    exact ⟨none, 0, by rw [e], by omega, fun _ => rfl, fun j hj => by omega⟩
  · refine ⟨_, cap, by rw [hl], by omega, (fun h => by cases h), fun j hj => ⟨g, 0, vs.getD j nilV, rfl, (h'.lt g rfl).2, ?_, ?_⟩⟩
    · rw [Nat.zero_add, h'.cellAt j (by omega), List.getD_eq_getElem?_getD, List.getElem?_eq_getElem (by omega)]
      rfl
    · have := (hn.2 j).1
      rwa [List.getD_eq_getElem?_getD (l := L), List.getElem?_eq_getElem hj] at this
theorem Off.cels {F G : Nat → Prop} {w : World} {v : Value} {l : List Cel} (ho : Off F v) (h : Cels w v l) (hG : ∀ k, G k → F k ∨ w.heap.size ≤ k) : Off G v := fun ad n c e hn hg => by
  obtain ⟨a, cap, rfl, hc, hz, _, hat⟩ := h
  injection e with e1 e2 e3
  subst e1 e2
  obtain ⟨b, o, e, hlt, h1⟩ := hat 0 hn
  rcases hG _ hg with h | h
  · exact ho _ _ _ rfl hn h
  · cases e
    exact absurd hlt (Nat.not_lt.2 h)
/-- one list more: the row may have moved -/
theorem CelF.snoc {F : Nat → Prop} {u w' : World} {v v' x : Value} {vs : List Value} {L : List (List Cel)} {l : List Cel} (h : CelF F u vs L) (hx : Cels u x l) (hxo : Off F x) (hg : u.grownBy w' v.ownBlock) (hv : ∀ k, v.ownBlock = some k → F k) (hat : ∀ k, v'.ownBlock = some k → v.ownBlock = some k ∨ u.heap.size ≤ k) :
    CelF (fun k => v'.ownBlock = some k) w' (vs ++ [x]) (L ++ [l]) := by
  have hk : Kept F u w' := (Kept.of_grown hg).mono fun k _ e => hv k e
  have hG : ∀ k, v'.ownBlock = some k → F k ∨ u.heap.size ≤ k := fun k e => by
    rcases hat k e with h1 | h1
    · exact Or.inl (hv k h1)
    · exact Or.inr h1
  refine ⟨by simp [h.1], fun j => ?_⟩
  rw [getD_snoc, getD_snoc, h.1]
  split
  · exact ⟨hx.kept hk hxo, hxo.cels hx hG⟩
  · exact ⟨(h.2 j).1.kept hk (h.2 j).2, (h.2 j).2.cels (h.2 j).1 hG⟩
set_option maxRecDepth 20000 in
theorem Tryz.infoCs : (Tryz.prog.info? 63).map (fun i => (i.zero, i.size, i.bytes)) = some (some (.slice none 0 0), 1, 24) := by kernel_rfl
end Go.Proofs.YtjelgphhlcecoaaGreatDoor
namespace Go.Proofs.YtjelgphhlcecoaaGreatDoor
open Go.RowKit

end Go.Proofs.YtjelgphhlcecoaaGreatDoor
namespace Go.Proofs.YtjelgphhlcecoaaGreatDoor
open Go.RowKit

set_option maxRecDepth 20000 in
set_option maxHeartbeats 2000000 in
theorem readOkF (s : Txt) (t : Rx) (w : World) (hs : s.length ≤ 200) (hr : rowsP s = some (t, [])) :
    Calls Tryz.prog 39 #[.string (strT s)] w fun e w' => ∃ v, e = .returned (.tuple #[v, .int .i64 0, .int .i64 0]) ∧ (Cels w' v (post t) ∧ Off (fun k => k < w.heap.size) v) ∧ Below w.heap.size w w' := by
  have hmf : ∀ (fn : Fn) (first cap : Array Value) (w : World), (Instr.makeFunc fn first cap).run Tryz.prog w = .ok (.func fn first cap) w := fun _ _ _ _ => rfl
  have G := rowsC (M := 400) (readW_rd w s) hs (by simp; omega) (by omega)
  rw [hr] at G
  have G := hid G
  obtain ⟨h0, h1, h2, h3⟩ := four_blocks w (.cells #[.slice none 0 0] 63) (.cells #[.int .i64 0] 3) (.cells #[.int .i64 0] 28) (.cells #[.string (strT s), .int .i64 0, .slice none 0 0] 89)
  have hsz : (readW w s).heap.size = w.heap.size + 4 := by simp [readW]
  have hpl : plc s [] = (s.length : Int) := by simp [plc]
  have hS := strT_size s
  have HE : Hid (∀ w1, Red (some (t, [])) (readW w s) (w.heap.size + 3) s [] 400 (.returned (.tuple #[])) w1 → ∃ ad cap, (w1.cell? ⟨w.heap.size + 3, 1, none⟩ = some (.int .i64 (s.length : Int)) ∧ w1.cell? ⟨w.heap.size + 3, 2, none⟩ = some (.slice ad (post t).length cap) ∧ w1.heap[w.heap.size]? = some (.cells #[.slice none 0 0] 63 (0, 0)) ∧ w1.heap[w.heap.size + 1]? = some (.cells #[.int .i64 0] 3 (0, 0)) ∧ w1.heap[w.heap.size + 2]? = some (.cells #[.int .i64 0] 28 (0, 0))) ∧ (∀ c ∈ post t, FitC c) ∧ OwnC w1 (w.heap.size + 3) (.slice ad (post t).length cap) (post t) ∧ Below w.heap.size w w1) := hid (fun w1 hw => by
    obtain ⟨-, hrd, -, hb⟩ := hw.yes
    have hp := hrd.place
    rw [hpl] at hp
    obtain ⟨v, hat, ho, hf⟩ := hrd
    obtain ⟨k, hbk⟩ := hat.blk
    have hC := Cels.of_own (l := post t) ho hf
    obtain ⟨ad, cap, rfl⟩ : ∃ ad cap, v = .slice ad (post t).length cap := by obtain ⟨a, c, e, _⟩ := hC; exact ⟨a, c, e⟩
    refine ⟨ad, cap, ⟨hp, (rd3 hbk).2.2.1, (hb.block _ (by omega)).trans h0, (hb.block _ (by omega)).trans h1, (hb.block _ (by omega)).trans h2⟩, hf, ho, ?_⟩
    exact (readW_below w s).trans (hb.mono (by omega)))
  unfold readW at G HE
  generalize strT s = S at G HE hS
  clear h0 h1 h2 h3 hsz hpl hr
  go_enter_defers Tryz.func39, Tryz.ntmps39
  go_wp2_with (go_at_call 47; refine G.out.mono ?_; intro e w1 hw1; obtain ⟨he1, -, -, -⟩ := hw1.yes; subst he1; obtain ⟨ad, cap, ⟨c1, c2, k0, k1, k2⟩, hC, hO, hb⟩ := HE.out w1 hw1; have hC := hid hC; have hO := hid hO; have d0 := blk_cell (o := 0) (v := .slice none 0 0) k0 rfl; have d1 := blk_cell (o := 0) (v := .int .i64 0) k1 rfl; have d2 := blk_cell (o := 0) (v := .int .i64 0) k2 rfl; have f0 := blk_frozen k0 0; have f1 := blk_frozen k1 0; have f2 := blk_frozen k2 0; clear k0 k1 k2)
  refine leaves_cons (f := 46) (args := #[.pointer (some ⟨w.heap.size, 0, none⟩), .pointer (some ⟨w.heap.size + 1, 0, none⟩), .pointer (some ⟨w.heap.size + 2, 0, none⟩)]) (by simp) (by simp [go_sem]) ?_
  refine (catch_idle _ _ _ _).mono ?_
  rintro e u' w'' ⟨rfl, rfl, rfl⟩
  have hO' : OwnC (((w1.setCell ⟨w.heap.size, 0, none⟩ (.slice ad (post t).length cap)).setCell ⟨w.heap.size + 1, 0, none⟩ (.int .i64 0)).setCell ⟨w.heap.size + 2, 0, none⟩ (.int .i64 0)) (w.heap.size + 3) (.slice ad (post t).length cap) (post t) := own_keep hO.out fun k hk => by
    have := (hO.out.lt k hk).1
    rw [Below.heap_setCell _ _ _ _ (by simp; omega), Below.heap_setCell _ _ _ _ (by simp; omega), Below.heap_setCell _ _ _ _ (by simp; omega)]
  refine ⟨.tuple #[.slice ad (post t).length cap, .int .i64 0, .int .i64 0], by simp [results, Tryz.results39, go_sem, d0, d1, d2], _, rfl, ⟨Cels.of_own (l := post t) hO' hC.out, off_row hO' (fun k hk => by omega)⟩, ?_⟩
  exact bl_set (bl_set (bl_set hb _ 0 _ (Nat.le_refl _)) _ 0 _ (by omega)) _ 0 _ (by omega)
set_option maxRecDepth 20000 in
theorem parseGoodF (s : Txt) (t : Rx) (w : World) (hs : s.length ≤ 200) (hr : rowsP s = some (t, [])) (hl : (post t).length ≤ 60) : Calls Tryz.prog 30 #[.string (strT s)] w fun e w' => ∃ v, e = .returned (.tuple #[v, .int .i64 0, .int .i64 0]) ∧ (Cels w' v (post t) ∧ Off (fun k => k < w.heap.size) v) ∧ Below w.heap.size w w' := by
  have G0 := readOkF s t w hs hr
  have hS := strT_size s
  have hz : ¬ (200 : Int) < ((strT s).size : Int) := by omega
  have hzz : (strT s).size ≤ 200 := by omega
  have G : Hid (Calls Tryz.prog 39 #[.string (strT s)] w fun e w' => ∃ a c, e = .returned (.tuple #[.slice a (post t).length c, .int .i64 0, .int .i64 0]) ∧ Hid (Cels w' (.slice a (post t).length c) (post t) ∧ Off (fun k => k < w.heap.size) (.slice a (post t).length c)) ∧ Below w.heap.size w w') := hid (G0.mono fun e w' ⟨v, he, hc, hb⟩ => by
    have hc' := hc
    obtain ⟨⟨a, c, hv, _⟩, _⟩ := hc
    subst hv
    exact ⟨a, c, he, hid hc', hb⟩)
  generalize strT s = S at hS hz G hzz
  have hlz : ¬ (60 : Int) < ((post t).length : Int) := by omega
  clear hr hS G0
  go_enter Tryz.func30, Tryz.ntmps30
  go_wp2_with (go_at_call 39; refine G.out.mono ?_; rintro e w1 ⟨a, c, rfl, hC, hb⟩)
  refine bodyPost_ret (v := .tuple #[.slice a (post t).length c, .int .i64 0, .int .i64 0]) (by simp [results, Tryz.results30, go_sem]) rfl ⟨_, rfl, hC.out, hb⟩

end Go.Proofs.YtjelgphhlcecoaaGreatDoor
