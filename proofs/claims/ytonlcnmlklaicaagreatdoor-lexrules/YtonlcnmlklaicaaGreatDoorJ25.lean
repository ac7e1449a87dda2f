/- The example of layer 10: the automaton of "a", "ab" and "b+", and the tokens of "abba". Layer 8's law: rules in memory; right, heavy. Layer 8's law: copied. Slices of sets: own ones, appended ones. -/
import Derived.Test.YtonlcnmlklaicaaGreatDoorJ24
import Derived.Test.YtonlcnmlklaicaaGreatDoorJ19
import Derived.Test.YtonlcnmlklaicaaGreatDoorJ16
import Derived.Test.YtonlcnmlklaicaaGreatDoorJ12
import Derived.Test.YtonlcnmlklaicaaGreatDoorJ4
import Derived.Laws.AppendOwnNone
namespace Go.Proofs.YtonlcnmlklaicaaGreatDoor
open Go.RowKit

theorem rowK_deadM {all : List Sp} {st : St} {S : List St} (b : Nat) : ∀ d, (∀ c, b ≤ c → c < b + d → byS all st c = []) → (rowK all st S (b + d)).1 = (rowK all st S b).1
  | 0, _ => rfl
  | d + 1, h => by rw [← Nat.add_assoc, rowK_met1, h (b + d) (by omega) (by omega), metS_nil, rowK_deadM b d fun c h1 h2 => h c h1 (by omega)]
def lwA : Rx := .set (spanB 97 97)
def lwB : Rx := .cat (.set (spanB 97 97)) (.set (spanB 98 98))
def lwC : Rx := .plus (.set (spanB 98 98))
theorem lwA_reads : rowsP [97] = some (lwA, []) := by rfl
theorem lwB_reads : rowsP [97, 98] = some (lwB, []) := by rfl
theorem lwC_reads : rowsP [98, 43] = some (lwC, []) := by rfl
theorem lwA_fol : FolOK (FolS [lwA]) (nS [lwA]) [[]] where
  len := rfl
  up := fun j hj => by
    have h2 : j < 1 := hj
    match j, h2 with
    | 0, _ => exact List.Pairwise.nil
  mem := fun j x hj => by
    have h2 : j < 1 := hj
    match j, h2 with
    | 0, _ => simp [FolS, Fol, lwA, nS]
theorem lwB_fol : FolOK (FolS [lwB]) (nS [lwB]) [[1], []] where
  len := rfl
  up := fun j hj => by
    have h2 : j < 2 := hj
    match j, h2 with
    | 0, _ => simp [Up]
    | 1, _ => exact List.Pairwise.nil
  mem := fun j x hj => by
    have h2 : j < 2 := hj
    match j, h2 with
    | 0, _ => simp [FolS, Fol, Lst, Fst, lwB, nS, nSets]; try omega
    | 1, _ => simp [FolS, Fol, Lst, Fst, lwB, nS, nSets]; try omega
theorem lwC_fol : FolOK (FolS [lwC]) (nS [lwC]) [[0]] where
  len := rfl
  up := fun j hj => by
    have h2 : j < 1 := hj
    match j, h2 with
    | 0, _ => simp [Up]
  mem := fun j x hj => by
    have h2 : j < 1 := hj
    match j, h2 with
    | 0, _ => simp [FolS, Fol, Lst, Fst, lwC, nS]; try omega
def lwL : List Sp := [⟨[spanB 97 97], false, [0], [0], [[]]⟩, ⟨[spanB 97 97, spanB 98 98], false, [0], [1], [[1], []]⟩, ⟨[spanB 98 98], false, [0], [0], [[0]]⟩]
theorem lwA_sp : spOf lwA [[]] = ⟨[spanB 97 97], false, [0], [0], [[]]⟩ := by
  have e1 : firstL lwA 0 = [0] := by simp [lwA, firstL]
  have e2 : lastL lwA 0 = [0] := by simp [lwA, lastL]
  unfold spOf
  rw [e1, e2]
  rfl
theorem lwB_sp : spOf lwB [[1], []] = ⟨[spanB 97 97, spanB 98 98], false, [0], [1], [[1], []]⟩ := by
  have e1 : firstL lwB 0 = [0] := by simp [lwB, firstL, Rx.null]
  have e2 : lastL lwB 0 = [1] := by simp [lwB, lastL, nSets, Rx.null]; try decide
  unfold spOf
  rw [e1, e2]
  rfl
theorem lwC_sp : spOf lwC [[0]] = ⟨[spanB 98 98], false, [0], [0], [[0]]⟩ := by
  have e1 : firstL lwC 0 = [0] := by simp [lwC, firstL]
  have e2 : lastL lwC 0 = [0] := by simp [lwC, lastL]
  unfold spOf
  rw [e1, e2]
  rfl
theorem lwL_all : SpAll [lwA, lwB, lwC] lwL where
  len := rfl
  is := fun r hr => by
    have h2 : r < 3 := hr
    match r, h2 with
    | 0, _ => exact ⟨_, lwA_sp.symm, lwA_fol⟩
    | 1, _ => exact ⟨_, lwB_sp.symm, lwB_fol⟩
    | 2, _ => exact ⟨_, lwC_sp.symm, lwC_fol⟩
theorem lwL_oks : ∀ t ∈ [lwA, lwB, lwC], t.ok ∧ (post t).length ≤ 60 := by
  intro t ht
  rcases List.mem_cons.1 ht with rfl | ht
  · exact ⟨(rowsP_good lwA_reads).1, by decide⟩
  · rcases List.mem_cons.1 ht with rfl | ht
    · exact ⟨(rowsP_good lwB_reads).1, by decide⟩
    · rcases List.mem_cons.1 ht with rfl | ht
      · exact ⟨(rowsP_good lwC_reads).1, by decide⟩
      · cases ht
theorem lwL_first : firstS lwL 3 = [0, 1000, 2000] := by simp [firstS, oneS, wideL, lwL]
theorem lwL_b00 (b : Nat) (hb : b < 256) : byOne lwL b (enc 0 0) = if b = 97 then [999] else [] := by
  rw [byOne_eq lwL b 0 0 (by omega)]
  simp [lwL, span_has 97 b hb, wideL]
theorem lwL_b10 (b : Nat) (hb : b < 256) : byOne lwL b (enc 1 0) = if b = 97 then [1001] else [] := by
  rw [byOne_eq lwL b 1 0 (by omega)]
  simp [lwL, span_has 97 b hb, wideL]
theorem lwL_b11 (b : Nat) (hb : b < 256) : byOne lwL b (enc 1 1) = if b = 98 then [1999] else [] := by
  rw [byOne_eq lwL b 1 1 (by omega)]
  simp [lwL, span_has 98 b hb, wideL]
theorem lwL_b20 (b : Nat) (hb : b < 256) : byOne lwL b (enc 2 0) = if b = 98 then [2000, 2999] else [] := by
  rw [byOne_eq lwL b 2 0 (by omega)]
  simp [lwL, span_has 98 b hb, wideL]
theorem lwL_s0 (b : Nat) (hb : b < 256) : byS lwL [0, 1000, 2000] b = if b = 97 then [999, 1001] else if b = 98 then [2000, 2999] else [] := by
  have e : byS lwL [0, 1000, 2000] b = ofL (byOne lwL b (enc 0 0) ++ (byOne lwL b (enc 1 0) ++ byOne lwL b (enc 2 0))) := by simp [byS, enc]
  rw [e, lwL_b00 b hb, lwL_b10 b hb, lwL_b20 b hb]
  by_cases ha : b = 97
  · subst ha; simp; exact ofL_self (by simp [Up])
  · by_cases hb' : b = 98
    · subst hb'; simp; exact ofL_self (by simp [Up])
    · simp [ha, hb']; rfl
theorem lwL_s1 (b : Nat) (hb : b < 256) : byS lwL [999, 1001] b = if b = 98 then [1999] else [] := by
  have h1 : byOne lwL b (enc 0 999) = [] := byOne_end lwL b 0
  have e : byS lwL [999, 1001] b = ofL (byOne lwL b (enc 0 999) ++ byOne lwL b (enc 1 1)) := by simp [byS, enc]
  rw [e, h1, lwL_b11 b hb]
  by_cases hb' : b = 98
  · subst hb'; simp; exact ofL_self (by simp [Up])
  · simp [hb']; rfl
theorem lwL_s2 (b : Nat) (hb : b < 256) : byS lwL [2000, 2999] b = if b = 98 then [2000, 2999] else [] := by
  have h1 : byOne lwL b (enc 2 999) = [] := byOne_end lwL b 2
  have e : byS lwL [2000, 2999] b = ofL (byOne lwL b (enc 2 0) ++ byOne lwL b (enc 2 999)) := by simp [byS, enc]
  rw [e, h1, lwL_b20 b hb]
  by_cases hb' : b = 98
  · subst hb'; simp; exact ofL_self (by simp [Up])
  · simp [hb']; rfl
theorem lwL_s3 (b : Nat) : byS lwL [1999] b = [] := by
  have h1 : byOne lwL b (enc 1 999) = [] := byOne_end lwL b 1
  have e : byS lwL [1999] b = ofL (byOne lwL b (enc 1 999)) := by simp [byS, enc]
  rw [e, h1]
  rfl
theorem lwL_0 : stsK lwL 0 = [[0, 1000, 2000]] := by
  rw [stsK, show lwL.length = 3 from rfl, lwL_first]
theorem lwL_1 : stsK lwL 1 = [[0, 1000, 2000], [999, 1001], [2000, 2999]] := by
  have e : stsK lwL 1 = (rowK lwL [0, 1000, 2000] [[0, 1000, 2000]] 256).1 := by rw [stsK, lwL_0]; rfl
  have h97 : (rowK lwL [0, 1000, 2000] [[0, 1000, 2000]] 97).1 = [[0, 1000, 2000]] := rowK_dead 97 fun c hc => by rw [lwL_s0 c (by omega), if_neg (by omega), if_neg (by omega)]
  have h98 : (rowK lwL [0, 1000, 2000] [[0, 1000, 2000]] 98).1 = [[0, 1000, 2000], [999, 1001]] := by
    rw [show (98 : Nat) = 97 + 1 from rfl, rowK_met1, h97, lwL_s0 97 (by omega), if_pos rfl]
    decide
  have h99 : (rowK lwL [0, 1000, 2000] [[0, 1000, 2000]] 99).1 = [[0, 1000, 2000], [999, 1001], [2000, 2999]] := by
    rw [show (99 : Nat) = 98 + 1 from rfl, rowK_met1, h98, lwL_s0 98 (by omega), if_neg (by omega), if_pos rfl]
    decide
  rw [e, show (256 : Nat) = 99 + 157 from rfl, rowK_deadM 99 157 fun c h1 h2 => by rw [lwL_s0 c (by omega), if_neg (by omega), if_neg (by omega)]]
  exact h99
theorem lwL_2 : stsK lwL 2 = [[0, 1000, 2000], [999, 1001], [2000, 2999], [1999]] := by
  have e : stsK lwL 2 = (rowK lwL [999, 1001] [[0, 1000, 2000], [999, 1001], [2000, 2999]] 256).1 := by rw [stsK, lwL_1]; rfl
  have h98 : (rowK lwL [999, 1001] [[0, 1000, 2000], [999, 1001], [2000, 2999]] 98).1 = [[0, 1000, 2000], [999, 1001], [2000, 2999]] := rowK_dead 98 fun c hc => by rw [lwL_s1 c (by omega), if_neg (by omega)]
  have h99 : (rowK lwL [999, 1001] [[0, 1000, 2000], [999, 1001], [2000, 2999]] 99).1 = [[0, 1000, 2000], [999, 1001], [2000, 2999], [1999]] := by
    rw [show (99 : Nat) = 98 + 1 from rfl, rowK_met1, h98, lwL_s1 98 (by omega), if_pos rfl]
    decide
  rw [e, show (256 : Nat) = 99 + 157 from rfl, rowK_deadM 99 157 fun c h1 h2 => by rw [lwL_s1 c (by omega), if_neg (by omega)]]
  exact h99
theorem lwL_3 : stsK lwL 3 = [[0, 1000, 2000], [999, 1001], [2000, 2999], [1999]] := by
  have e : stsK lwL 3 = (rowK lwL [2000, 2999] [[0, 1000, 2000], [999, 1001], [2000, 2999], [1999]] 256).1 := by rw [stsK, lwL_2]; rfl
  have h98 : (rowK lwL [2000, 2999] [[0, 1000, 2000], [999, 1001], [2000, 2999], [1999]] 98).1 = [[0, 1000, 2000], [999, 1001], [2000, 2999], [1999]] := rowK_dead 98 fun c hc => by rw [lwL_s2 c (by omega), if_neg (by omega)]
  have h99 : (rowK lwL [2000, 2999] [[0, 1000, 2000], [999, 1001], [2000, 2999], [1999]] 99).1 = [[0, 1000, 2000], [999, 1001], [2000, 2999], [1999]] := by
    rw [show (99 : Nat) = 98 + 1 from rfl, rowK_met1, h98, lwL_s2 98 (by omega), if_pos rfl]
    decide
  rw [e, show (256 : Nat) = 99 + 157 from rfl, rowK_deadM 99 157 fun c h1 h2 => by rw [lwL_s2 c (by omega), if_neg (by omega)]]
  exact h99
theorem lwL_4 : stsK lwL 4 = [[0, 1000, 2000], [999, 1001], [2000, 2999], [1999]] := by
  have e : stsK lwL 4 = (rowK lwL [1999] [[0, 1000, 2000], [999, 1001], [2000, 2999], [1999]] 256).1 := by rw [stsK, lwL_3]; rfl
  rw [e, rowK_dead 256 (fun c _ => lwL_s3 c)]
theorem lwL_to : BldTo lwL 4 where
  on := fun j hj => by
    match j, hj with
    | 0, _ => rw [lwL_0]; decide
    | 1, _ => rw [lwL_1]; decide
    | 2, _ => rw [lwL_2]; decide
    | 3, _ => rw [lwL_3]; decide
  few := fun j hj => by
    match j, hj with
    | 0, _ => rw [lwL_0]; decide
    | 1, _ => rw [lwL_1]; decide
    | 2, _ => rw [lwL_2]; decide
    | 3, _ => rw [lwL_3]; decide
    | 4, _ => rw [lwL_4]; decide
  fin := by rw [lwL_4]; rfl
theorem lwL_right : RgtA (nxtK lwL 4) (accK lwL 4) := rgtA_built (lwL_all.ru (fun t ht => (lwL_oks t ht).2)) lwL_to
theorem lwL_cell (j : Nat) (hj : j < 4) (c : Nat) (hc : c < 256) : RowOK [[0, 1000, 2000], [999, 1001], [2000, 2999], [1999]] (byS lwL ((stsK lwL j).getD j []) c) (((nxtK lwL 4).getD j []).getD c 0) := by
  have := (nxtK_row lwL hj).2 c hc
  rw [lwL_4] at this
  exact this
theorem rowOK_non {T : List St} {n : Int} (h : RowOK T [] n) : n = -1 := by
  rcases h with ⟨_, h⟩ | ⟨h, _⟩
  · exact h
  · exact absurd rfl h
theorem lwT_1 {n : Int} (h : RowOK [[0, 1000, 2000], [999, 1001], [2000, 2999], [1999]] [999, 1001] n) : n = 1 := by
  rcases h with ⟨h, _⟩ | ⟨_, m, e, h⟩
  · cases h
  · match m, h with
    | 0, h => simp at h
    | 1, _ => exact e
    | 2, h => simp at h
    | 3, h => simp at h
    | m + 4, h => simp at h
theorem lwT_2 {n : Int} (h : RowOK [[0, 1000, 2000], [999, 1001], [2000, 2999], [1999]] [2000, 2999] n) : n = 2 := by
  rcases h with ⟨h, _⟩ | ⟨_, m, e, h⟩
  · cases h
  · match m, h with
    | 0, h => simp at h
    | 1, h => simp at h
    | 2, _ => exact e
    | 3, h => simp at h
    | m + 4, h => simp at h
theorem lwT_3 {n : Int} (h : RowOK [[0, 1000, 2000], [999, 1001], [2000, 2999], [1999]] [1999] n) : n = 3 := by
  rcases h with ⟨h, _⟩ | ⟨_, m, e, h⟩
  · cases h
  · match m, h with
    | 0, h => simp at h
    | 1, h => simp at h
    | 2, h => simp at h
    | 3, _ => exact e
    | m + 4, h => simp at h
theorem lwN_len : (nxtK lwL 4).length = 4 := nxtK_len _ _
theorem lwN_of {i c : Nat} {n : Int} (hi : i < 4) (h : ((nxtK lwL 4).getD i []).getD c 0 = n) : nxA (nxtK lwL 4) i c = if n < 0 then 4 else n.toNat := by
  unfold nxA
  rw [lwN_len, if_neg (by omega), h]
theorem lwN_0a : nxA (nxtK lwL 4) 0 97 = 1 := by
  have h := lwL_cell 0 (by omega) 97 (by omega)
  rw [lwL_0] at h
  have h' : RowOK _ (byS lwL [0, 1000, 2000] 97) _ := h
  rw [lwL_s0 97 (by omega), if_pos rfl] at h'
  rw [lwN_of (by omega) (lwT_1 h')]
  rfl
theorem lwN_0b : nxA (nxtK lwL 4) 0 98 = 2 := by
  have h := lwL_cell 0 (by omega) 98 (by omega)
  rw [lwL_0] at h
  have h' : RowOK _ (byS lwL [0, 1000, 2000] 98) _ := h
  rw [lwL_s0 98 (by omega), if_neg (by omega), if_pos rfl] at h'
  rw [lwN_of (by omega) (lwT_2 h')]
  rfl
theorem lwN_1b : nxA (nxtK lwL 4) 1 98 = 3 := by
  have h := lwL_cell 1 (by omega) 98 (by omega)
  rw [lwL_1] at h
  have h' : RowOK _ (byS lwL [999, 1001] 98) _ := h
  rw [lwL_s1 98 (by omega), if_pos rfl] at h'
  rw [lwN_of (by omega) (lwT_3 h')]
  rfl
theorem lwN_2a : nxA (nxtK lwL 4) 2 97 = 4 := by
  have h := lwL_cell 2 (by omega) 97 (by omega)
  rw [lwL_2] at h
  have h' : RowOK _ (byS lwL [2000, 2999] 97) _ := h
  rw [lwL_s2 97 (by omega), if_neg (by omega)] at h'
  rw [lwN_of (by omega) (rowOK_non h')]
  rfl
theorem lwN_3b : nxA (nxtK lwL 4) 3 98 = 4 := by
  have h := lwL_cell 3 (by omega) 98 (by omega)
  rw [lwL_3] at h
  have h' : RowOK _ (byS lwL [1999] 98) _ := h
  rw [lwL_s3 98] at h'
  rw [lwN_of (by omega) (rowOK_non h')]
  rfl
theorem lwAc_1 : acA (nxtK lwL 4) (accK lwL 4) 1 = 0 := by unfold acA; rw [lwN_len, if_neg (by omega), accK_at lwL (by omega), lwL_1]; rfl
theorem lwAc_2 : acA (nxtK lwL 4) (accK lwL 4) 2 = 2 := by unfold acA; rw [lwN_len, if_neg (by omega), accK_at lwL (by omega), lwL_2]; rfl
theorem lwAc_3 : acA (nxtK lwL 4) (accK lwL 4) 3 = 1 := by unfold acA; rw [lwN_len, if_neg (by omega), accK_at lwL (by omega), lwL_3]; rfl
theorem lw_m0 : lngR (nxtK lwL 4) (accK lwL 4) [97, 98, 98, 97] = ((1, 2), 3) := by
  unfold lngR
  rw [lngG, show (97 : UInt8).toNat = 97 from rfl, lwN_0a, lwN_len, if_neg (by omega), lwAc_1, if_neg (by omega), lngG, show (98 : UInt8).toNat = 98 from rfl, lwN_1b, lwN_len, if_neg (by omega), lwAc_3, if_neg (by omega), lngG, show (98 : UInt8).toNat = 98 from rfl, lwN_3b, lwN_len, if_pos (by omega)]
theorem lw_m2 : lngR (nxtK lwL 4) (accK lwL 4) [98, 97] = ((2, 1), 2) := by
  unfold lngR
  rw [lngG, show (98 : UInt8).toNat = 98 from rfl, lwN_0b, lwN_len, if_neg (by omega), lwAc_2, if_neg (by omega), lngG, show (97 : UInt8).toNat = 97 from rfl, lwN_2a, lwN_len, if_pos (by omega)]
theorem lw_m3 : lngR (nxtK lwL 4) (accK lwL 4) [97] = ((0, 1), 2) := by
  unfold lngR
  rw [lngG, show (97 : UInt8).toNat = 97 from rfl, lwN_0a, lwN_len, if_neg (by omega), lwAc_1, if_neg (by omega), lngG]
/-- the tokens of the example -/
theorem lw_cut : (cutA (nxtK lwL 4) (accK lwL 4) [97, 98, 98, 97]).1 = [(1, 0, 2), (2, 2, 1), (0, 3, 1)] ∧ (cutA (nxtK lwL 4) (accK lwL 4) [97, 98, 98, 97]).2.2 = -1 := by
  have hc : ChnT (nxtK lwL 4) (accK lwL 4) [97, 98, 98, 97] 0 [(1, 0, 2), (2, 2, 1), (0, 3, 1)] 4 := by
    refine ⟨rfl, by decide, by decide, ?_, rfl, by decide, by decide, ?_, rfl, by decide, by decide, ?_, rfl⟩
    · show (lngR (nxtK lwL 4) (accK lwL 4) [97, 98, 98, 97]).1 = (1, 2)
      rw [lw_m0]
    · show (lngR (nxtK lwL 4) (accK lwL 4) [98, 97]).1 = (2, 1)
      rw [lw_m2]
    · show (lngR (nxtK lwL 4) (accK lwL 4) [97]).1 = (0, 1)
      rw [lw_m3]
  obtain ⟨e, -, h1, -, h2⟩ := cutA_chn (nxtK lwL 4) (accK lwL 4) [97, 98, 98, 97]
  have he : e = ([97, 98, 98, 97] : Txt).length ∨ e < ([97, 98, 98, 97] : Txt).length ∧ (lngR (nxtK lwL 4) (accK lwL 4) (([97, 98, 98, 97] : Txt).drop e)).1.2 = 0 := by
    rcases h2 with ⟨-, h⟩ | ⟨-, h⟩
    · exact Or.inl h
    · exact Or.inr h
  obtain ⟨q1, q2⟩ := ChnT.uniq he (Or.inl rfl) h1 hc
  refine ⟨q1, ?_⟩
  rcases h2 with ⟨h, -⟩ | ⟨-, h, -⟩
  · exact h
  · rw [q2] at h
    exact absurd h (by decide)

end Go.Proofs.YtonlcnmlklaicaaGreatDoor
namespace Go.Proofs.YtonlcnmlklaicaaGreatDoor
open Go.RowKit

/-- a slice of rules -/
def Celss (w : World) (v : Value) (L : List (List Cel)) : Prop := ∃ a cap, v = .slice a L.length cap ∧ L.length ≤ cap ∧ (a = none → cap = 0) ∧ ∀ j (h : j < L.length), ∃ b o x, a = some ⟨b, o, none⟩ ∧ b < w.heap.size ∧ w.cell? ⟨b, o + j, none⟩ = some x ∧ Cels w x L[j]
theorem Celss.keep {w w' : World} {v : Value} {L : List (List Cel)} (h : Celss w v L) (hb : Below w.heap.size w w') : Celss w' v L := by
  obtain ⟨a, cap, hv, hc, hn, hat⟩ := h
  refine ⟨a, cap, hv, hc, hn, fun j hj => ?_⟩
  obtain ⟨b, o, x, ha, hlt, h1, h2⟩ := hat j hj
  exact ⟨b, o, x, ha, Nat.lt_of_lt_of_le hlt hb.size, keep_cell hb h1, h2.keep hb⟩
end Go.Proofs.YtonlcnmlklaicaaGreatDoor
namespace Go.Proofs.YtonlcnmlklaicaaGreatDoor
open Go.RowKit

theorem Cels.kept {F : Nat → Prop} {w w' : World} {v : Value} {l : List Cel} (h : Cels w v l) (hk : Kept F w w') (ho : Off F v) : Cels w' v l := by
  obtain ⟨a, cap, rfl, hc, hn, hf, hat⟩ := h
  refine ⟨a, cap, rfl, hc, hn, hf, fun j hj => ?_⟩
  obtain ⟨b, o, rfl, hlt, h5⟩ := hat j hj
  have hn : ¬ F b := ho _ _ _ rfl (by omega)
  exact ⟨b, o, rfl, Nat.lt_of_lt_of_le hlt hk.size, at5_of fun i hi => hk.cell (h5.word i hi) hlt hn⟩
/-- lists of cells, each apart -/
def CelF (F : Nat → Prop) (w : World) (vs : List Value) (L : List (List Cel)) : Prop := vs.length = L.length ∧ ∀ j, Cels w (vs.getD j nilV) (L.getD j []) ∧ Off F (vs.getD j nilV)
theorem CelF.nil (F : Nat → Prop) (w : World) : CelF F w [] [] := ⟨rfl, fun _ => ⟨⟨none, 0, rfl, Nat.le_refl _, fun _ => rfl, fun _ hS => absurd hS (List.not_mem_nil), fun _ hj => absurd hj (Nat.not_lt_zero _)⟩, Off.nil F⟩⟩
theorem celss_of {F : Nat → Prop} {w : World} {B : Nat} {v : Value} {vs : List Value} {L : List (List Cel)} (h : w.ownsRow B 48 1 v vs.length vs) (hn : CelF F w vs L) : Celss w v L := by
  have h' := h
  have hl := hn.1
  rcases h.2 with ⟨rfl, h0⟩ | ⟨g, cap, cur, rfl, _, _, hc, _⟩
  · have e : L.length = 0 := by omega
    exact ⟨none, 0, by rw [e], by omega, fun _ => rfl, fun j hj => by omega⟩
  · refine ⟨_, cap, by rw [hl], by omega, (fun h => by cases h), fun j hj => ⟨g, 0, vs.getD j nilV, rfl, (h'.lt g rfl).2, ?_, ?_⟩⟩
    · rw [Nat.zero_add, h'.cellAt j (by omega), List.getD_eq_getElem?_getD, List.getElem?_eq_getElem (by omega)]
      rfl
    · have := (hn.2 j).1
      rwa [List.getD_eq_getElem?_getD (l := L), List.getElem?_eq_getElem hj] at this
theorem Off.cels {F G : Nat → Prop} {w : World} {v : Value} {l : List Cel} (ho : Off F v) (h : Cels w v l) (hG : ∀ k, G k → F k ∨ w.heap.size ≤ k) : Off G v := fun ad n c e hn hg => by
  obtain ⟨a, cap, rfl, hc, hz, _, hat⟩ := h
  injection e with e1 e2 e3
  subst e1 e2
  obtain ⟨b, o, e, hlt, h1⟩ := hat 0 hn
  rcases hG _ hg with h | h
  · exact ho _ _ _ rfl hn h
  · cases e
    exact absurd hlt (Nat.not_lt.2 h)
/-- one list more: the row may have moved -/
theorem CelF.snoc {F : Nat → Prop} {u w' : World} {v v' x : Value} {vs : List Value} {L : List (List Cel)} {l : List Cel} (h : CelF F u vs L) (hx : Cels u x l) (hxo : Off F x) (hg : u.grownBy w' v.ownBlock) (hv : ∀ k, v.ownBlock = some k → F k) (hat : ∀ k, v'.ownBlock = some k → v.ownBlock = some k ∨ u.heap.size ≤ k) :
    CelF (fun k => v'.ownBlock = some k) w' (vs ++ [x]) (L ++ [l]) := by
  have hk : Kept F u w' := (Kept.of_grown hg).mono fun k _ e => hv k e
  have hG : ∀ k, v'.ownBlock = some k → F k ∨ u.heap.size ≤ k := fun k e => by
    rcases hat k e with h1 | h1
    · exact Or.inl (hv k h1)
    · exact Or.inr h1
  refine ⟨by simp [h.1], fun j => ?_⟩
  rw [getD_snoc, getD_snoc, h.1]
  split
  · exact ⟨hx.kept hk hxo, hxo.cels hx hG⟩
  · exact ⟨(h.2 j).1.kept hk (h.2 j).2, (h.2 j).2.cels (h.2 j).1 hG⟩
set_option maxRecDepth 20000 in
theorem Tryz.infoCs : (Tryz.prog.info? 48).map (fun i => (i.zero, i.size, i.bytes)) = some (some (.slice none 0 0), 1, 24) := by kernel_rfl
end Go.Proofs.YtonlcnmlklaicaaGreatDoor
namespace Go.Proofs.YtonlcnmlklaicaaGreatDoor
open Go.RowKit

theorem flatS_len (l : List W4) : (flatS l).length = l.length * 4 := by
  induction l with
  | nil => rfl
  | cons S t ih =>
    unfold flatS at ih ⊢
    rw [List.flatMap_cons, List.length_append, ih, List.length_cons]
    simp
    omega
def wordV (S : W4) : Nat → Value
  | 0 => .int .u64 (S.a : Int)
  | 1 => .int .u64 (S.b : Int)
  | 2 => .int .u64 (S.c : Int)
  | _ => .int .u64 (S.d : Int)
theorem flatS_atW : ∀ (l : List W4) (j i : Nat) (hj : j < l.length), i < 4 → (flatS l)[j * 4 + i]? = some (wordV l[j] i)
  | S :: t, 0, i, _, hi => by
    have h4 : i = 0 ∨ i = 1 ∨ i = 2 ∨ i = 3 := by omega
    rcases h4 with rfl | rfl | rfl | rfl <;> rfl
  | S :: t, j + 1, i, hj, hi => by
    have ih := flatS_atW t j i (by simpa using hj) hi
    unfold flatS at ih ⊢
    rw [List.flatMap_cons, show (j + 1) * 4 + i = 4 + (j * 4 + i) by omega, List.getElem?_append_right (by simp)]
    simpa using ih
theorem at4_of {w : World} {b o : Nat} {S : W4} (h : ∀ i, i < 4 → w.cell? ⟨b, o + i, none⟩ = some (wordV S i)) : At4 w b o S := ⟨h 0 (by omega), h 1 (by omega), h 2 (by omega), h 3 (by omega)⟩
theorem At4.word {w : World} {b o : Nat} {S : W4} (h : At4 w b o S) (i : Nat) (hi : i < 4) : w.cell? ⟨b, o + i, none⟩ = some (wordV S i) := by
  have h4 : i = 0 ∨ i = 1 ∨ i = 2 ∨ i = 3 := by omega
  rcases h4 with rfl | rfl | rfl | rfl
  · exact h.1
  · exact h.2.1
  · exact h.2.2.1
  · exact h.2.2.2
theorem Sets.news {w : World} {b o : Nat} {l : List W4} (h : ∀ j (hj : j < l.length), At4 w b (o + j * 4) l[j]) : ∀ j u, (flatS l)[j]? = some u → w.cell? ((⟨b, o, none⟩ : Addr).add j) = some u := fun j u hu => by
  have hj : j < l.length * 4 := by
    rcases Nat.lt_or_ge j (l.length * 4) with h' | h'
    · exact h'
    · rw [List.getElem?_eq_none (by rw [flatS_len]; exact h')] at hu; cases hu
  have e : j = j / 4 * 4 + j % 4 := by omega
  have hq : j / 4 < l.length := by omega
  rw [e, flatS_atW l (j / 4) (j % 4) hq (by omega)] at hu
  injection hu with hu
  subst hu
  rw [Go.WideShapes.add_plain]
  have := (h (j / 4) hq).word (j % 4) (by omega)
  rwa [Nat.add_assoc, ← e] at this
theorem Sets.parts {w : World} {v : Value} {l : List W4} (h : Sets w v l) : (v = .slice none 0 0 ∧ l = []) ∨ ∃ ad cap, v = .slice (some ad) l.length cap ∧ ∀ j u, (flatS l)[j]? = some u → w.cell? (ad.add j) = some u := by
  obtain ⟨a, cap, rfl, hcap, hnil, _, hc⟩ := h
  cases a with
  | none =>
    have h0 := hnil rfl
    have hl : l = [] := List.length_eq_zero_iff.1 (by omega)
    subst hl
    exact Or.inl ⟨by rw [h0]; rfl, rfl⟩
  | some ad =>
    refine Or.inr ⟨ad, cap, rfl, ?_⟩
    by_cases h0 : l = []
    · subst h0; intro j u hu; simp [flatS] at hu
    · obtain ⟨b, o, e, _, _⟩ := hc 0 (List.length_pos_iff.2 h0)
      injection e with e
      subst e
      refine Sets.news fun j hj => ?_
      obtain ⟨b', o', e', _, h4⟩ := hc j hj
      injection e' with e'
      injection e' with e1 e2
      subst e1; subst e2
      exact h4
set_option maxRecDepth 20000 in
theorem Tryz.info65 : (Tryz.prog.info? 65).map (fun i => (i.zero, i.size, i.bytes)) = some (some (.agg #[.int .u64 0, .int .u64 0, .int .u64 0, .int .u64 0]), 4, 32) := by kernel_rfl
theorem parts_fit (l : List W4) : ∀ S ∈ partsB l, Fit4 S := fun S hS => by
  unfold partsB at hS
  obtain ⟨r, _, rfl⟩ := List.mem_map.1 hS
  unfold clsB
  exact mkB_fit _
theorem news4 (w : World) (ca cb cc cd : Nat) : ∀ j u, [Value.int .u64 (ca : Int), .int .u64 (cb : Int), .int .u64 (cc : Int), .int .u64 (cd : Int)][j]? = some u → (w.alloc (.cells #[.int .u64 (ca : Int), .int .u64 (cb : Int), .int .u64 (cc : Int), .int .u64 (cd : Int)] 65)).cell? ((⟨w.heap.size, 0, none⟩ : Addr).add j) = some u := fun j u hj => by
  match j, hj with
  | 0, hj => simp at hj; subst hj; simp [Addr.add]
  | 1, hj => simp at hj; subst hj; simp [Addr.add]
  | 2, hj => simp at hj; subst hj; simp [Addr.add]
  | 3, hj => simp at hj; subst hj; simp [Addr.add]


end Go.Proofs.YtonlcnmlklaicaaGreatDoor
