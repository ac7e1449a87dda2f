/- The example: the automaton of "ab" and "a". The maths of layer 9: what the states of an automaton do, and how kinds of them are told. The maths of layer 9: the smallest automaton, as it is met. -/
import Derived.Test.YtjelgphhlcecoaaGreatDoorJ24
import Derived.Test.YtjelgphhlcecoaaGreatDoorJ26
import Derived.Test.YtjelgphhlcecoaaGreatDoorJ31
namespace Go.Proofs.YtjelgphhlcecoaaGreatDoor
open Go.RowKit

/-- what a built automaton accepts -/
theorem rgtA_built {ts : List Rx} {all : List Sp} (R : RuS ts all) {n : Nat} (h : BldTo all n) : RgtA (nxtK all n) (accK all n) := by
  have H := nxtK_right R h.fin h.on h.pos
  have hl : (nxtK all n).length = n := nxtK_len all n
  have hl' : (accK all n).length = n := accK_len all n
  refine ⟨fun j hj => ?_, by rw [hl]; exact h.pos, by rw [hl]; exact h.le, by rw [hl, hl'], fun j hj => (H j (by rw [← hl']; exact hj)).2.1⟩
  rw [hl] at hj ⊢
  exact ⟨(H j hj).1, (H j hj).2.2⟩
theorem accB_built {ts : List Rx} {all : List Sp} (R : RuS ts all) {n : Nat} (h : BldTo all n) (s : Txt) : accB (nxtK all n) (accK all n) s = accG all n s := by
  have hr := rgtB_of (rgtA_built R h)
  have hin := goK_in (rgtA_built R h).rgt (rgtA_built R h).pos s s.length
  unfold accB accG
  rw [goB_yes hr]
  by_cases e : goK (nxtK all n) s s.length = -1
  · rw [if_pos e, if_pos (by omega)]
  · rw [if_neg e, if_neg (by omega)]
theorem rowK_dead {all : List Sp} {st : St} {S : List St} : ∀ b, (∀ c, c < b → byS all st c = []) → (rowK all st S b).1 = S
  | 0, _ => rfl
  | b + 1, h => by rw [rowK_met1, h b (by omega), metS_nil, rowK_dead b fun c hc => h c (by omega)]
theorem rowK_once {all : List Sp} {st to : St} {S : List St} {x : Nat} (h1 : byS all st x = to) (h2 : to ≠ []) (h3 : ¬ to ∈ S) : ∀ b, x < b → (∀ c, c < b → c ≠ x → byS all st c = []) → (rowK all st S b).1 = S ++ [to]
  | 0, hb, _ => by omega
  | b + 1, hb, h => by
    rw [rowK_met1]
    by_cases e : b = x
    · subst e
      rw [rowK_dead b fun c hc => h c (by omega) (by omega), h1, metS_new h2 h3]
    · rw [rowK_once h1 h2 h3 b (by omega) fun c hc hne => h c (by omega) hne, h b (by omega) e, metS_nil]
def wkA : Rx := .set (spanB 97 97)
def wkAB : Rx := .cat (.set (spanB 97 97)) (.set (spanB 98 98))
theorem wkAB_reads : rowsP [97, 98] = some (wkAB, []) := by rfl
theorem wkA_reads : rowsP [97] = some (wkA, []) := by rfl
theorem wkA_ok : wkA.ok := (rowsP_good wkA_reads).1
theorem wkAB_ok : wkAB.ok := (rowsP_good wkAB_reads).1
theorem wkAB_fol : FolOK (FolS [wkAB]) (nS [wkAB]) [[1], []] where
  len := rfl
  up := fun j hj => by
    have h2 : j < 2 := hj
    match j, h2 with
    | 0, _ => exact List.pairwise_singleton _ _
    | 1, _ => exact List.Pairwise.nil
  mem := fun j x hj => by
    have h2 : j < 2 := hj
    match j, h2 with
    | 0, _ => simp [FolS, Fol, wkAB, nS, nSets, Lst, Fst]
    | 1, _ => simp [FolS, Fol, wkAB, nS, nSets, Lst, Fst]
theorem wkA_fol : FolOK (FolS [wkA]) (nS [wkA]) [[]] where
  len := rfl
  up := fun j hj => by
    have h2 : j < 1 := hj
    match j, h2 with
    | 0, _ => exact List.Pairwise.nil
  mem := fun j x hj => by
    have h2 : j < 1 := hj
    match j, h2 with
    | 0, _ => simp [FolS, Fol, wkA, nS]
def wkAll : List Sp := [⟨[spanB 97 97, spanB 98 98], false, [0], [1], [[1], []]⟩, ⟨[spanB 97 97], false, [0], [0], [[]]⟩]
theorem wkAB_sp : spOf wkAB [[1], []] = ⟨[spanB 97 97, spanB 98 98], false, [0], [1], [[1], []]⟩ := by
  have e1 : firstL wkAB 0 = [0] := by simp [wkAB, firstL, Rx.null]
  have e2 : lastL wkAB 0 = [1] := by simp [wkAB, lastL, Rx.null, nSets]
  unfold spOf
  rw [e1, e2]
  rfl
theorem wkA_sp : spOf wkA [[]] = ⟨[spanB 97 97], false, [0], [0], [[]]⟩ := by
  have e1 : firstL wkA 0 = [0] := by simp [wkA, firstL]
  have e2 : lastL wkA 0 = [0] := by simp [wkA, lastL]
  unfold spOf
  rw [e1, e2]
  rfl
theorem wk_all : SpAll [wkAB, wkA] wkAll where
  len := rfl
  is := fun r hr => by
    have h2 : r < 2 := hr
    match r, h2 with
    | 0, _ => exact ⟨_, wkAB_sp.symm, wkAB_fol⟩
    | 1, _ => exact ⟨_, wkA_sp.symm, wkA_fol⟩
theorem wk_60 : ∀ t ∈ [wkAB, wkA], (post t).length ≤ 60 := by
  intro t ht
  rcases List.mem_cons.1 ht with rfl | ht
  · decide
  · rcases List.mem_cons.1 ht with rfl | ht
    · decide
    · cases ht
theorem wk_first : firstS wkAll 2 = [0, 1000] := by simp [firstS, oneS, wideL, wkAll]
theorem wk_s0 (b : Nat) (hb : b < 256) : byS wkAll [0, 1000] b = if b = 97 then [1, 1999] else [] := by
  have h0 : byOne wkAll b (enc 0 0) = if b = 97 then [1] else [] := by
    rw [byOne_eq wkAll b 0 0 (by omega)]
    simp [wkAll, span_has 97 b hb, wideL]
  have h1 : byOne wkAll b (enc 1 0) = if b = 97 then [1999] else [] := by
    rw [byOne_eq wkAll b 1 0 (by omega)]
    simp [wkAll, span_has 97 b hb, wideL]
  have e : byS wkAll [0, 1000] b = ofL (byOne wkAll b (enc 0 0) ++ byOne wkAll b (enc 1 0)) := by simp [byS, enc]
  rw [e, h0, h1]
  split
  · exact ofL_self (by simp [Up])
  · rfl
theorem wk_s1 (b : Nat) (hb : b < 256) : byS wkAll [1, 1999] b = if b = 98 then [999] else [] := by
  have h0 : byOne wkAll b (enc 0 1) = if b = 98 then [999] else [] := by
    rw [byOne_eq wkAll b 0 1 (by omega)]
    simp [wkAll, span_has 98 b hb, wideL]
  have h1 : byOne wkAll b (enc 1 999) = [] := byOne_end wkAll b 1
  have e : byS wkAll [1, 1999] b = ofL (byOne wkAll b (enc 0 1) ++ byOne wkAll b (enc 1 999)) := by simp [byS, enc]
  rw [e, h0, h1]
  split
  · exact ofL_self (by simp [Up])
  · rfl
theorem wk_s2 (b : Nat) : byS wkAll [999] b = [] := by
  have h1 : byOne wkAll b (enc 0 999) = [] := byOne_end wkAll b 0
  have e : byS wkAll [999] b = ofL (byOne wkAll b (enc 0 999)) := by simp [byS, enc]
  rw [e, h1]
  rfl
theorem wk_0 : stsK wkAll 0 = [[0, 1000]] := by
  rw [stsK, show wkAll.length = 2 from rfl, wk_first]
theorem wk_1 : stsK wkAll 1 = [[0, 1000], [1, 1999]] := by
  have e : stsK wkAll 1 = (rowK wkAll [0, 1000] [[0, 1000]] 256).1 := by rw [stsK, wk_0]; rfl
  rw [e, rowK_once (x := 97) (to := [1, 1999]) (by rw [wk_s0 97 (by omega), if_pos rfl]) (by simp) (by decide) 256 (by omega) (fun c hc hne => by rw [wk_s0 c hc, if_neg hne])]
  rfl
theorem wk_2 : stsK wkAll 2 = [[0, 1000], [1, 1999], [999]] := by
  have e : stsK wkAll 2 = (rowK wkAll [1, 1999] [[0, 1000], [1, 1999]] 256).1 := by rw [stsK, wk_1]; rfl
  rw [e, rowK_once (x := 98) (to := [999]) (by rw [wk_s1 98 (by omega), if_pos rfl]) (by simp) (by decide) 256 (by omega) (fun c hc hne => by rw [wk_s1 c hc, if_neg hne])]
  rfl
theorem wk_3 : stsK wkAll 3 = [[0, 1000], [1, 1999], [999]] := by
  have e : stsK wkAll 3 = (rowK wkAll [999] [[0, 1000], [1, 1999], [999]] 256).1 := by rw [stsK, wk_2]; rfl
  rw [e, rowK_dead 256 (fun c _ => wk_s2 c)]
theorem wk_to : BldTo wkAll 3 where
  on := fun j hj => by
    match j, hj with
    | 0, _ => rw [wk_0]; decide
    | 1, _ => rw [wk_1]; decide
    | 2, _ => rw [wk_2]; decide
  few := fun j hj => by
    match j, hj with
    | 0, _ => rw [wk_0]; decide
    | 1, _ => rw [wk_1]; decide
    | 2, _ => rw [wk_2]; decide
    | 3, _ => rw [wk_3]; decide
  fin := by rw [wk_3]; rfl
theorem mat_len_set {S : W4} {s : Txt} (h : Mat (.set S) s) : ∃ c : UInt8, s = [c] ∧ hasB S c.toNat = true := by
  cases h with
  | set h => exact ⟨_, rfl, h⟩
theorem wk_no (s : Txt) (h : s.length ≠ 2) : ¬ Mat wkAB s := by
  intro hm
  cases hm with
  | cat h1 h2 =>
    obtain ⟨c, rfl, _⟩ := mat_len_set h1
    obtain ⟨d, rfl, _⟩ := mat_len_set h2
    exact h rfl
theorem wk_acc1 : accB (nxtK wkAll 3) (accK wkAll 3) [97] = 1 := by
  have R := wk_all.ru wk_60
  rw [accB_built R wk_to]
  refine accG_some R wk_to.fin wk_to.on [97] (r := 1) (by decide) ?_ (fun r' h' hr' => ?_)
  · exact Mat.set (by rw [span_has 97 _ (by decide)]; decide)
  · have : r' = 0 := by omega
    subst this
    exact wk_no _ (by decide)
theorem wk_acc0 : accB (nxtK wkAll 3) (accK wkAll 3) [97, 98] = 0 := by
  have R := wk_all.ru wk_60
  rw [accB_built R wk_to]
  refine accG_some R wk_to.fin wk_to.on [97, 98] (r := 0) (by decide) ?_ (fun r' h' hr' => by omega)
  exact Mat.cat (s := [97]) (t := [98]) (Mat.set (by rw [span_has 97 _ (by decide)]; decide)) (Mat.set (by rw [span_has 98 _ (by decide)]; decide))
theorem wk_accN : accB (nxtK wkAll 3) (accK wkAll 3) [98] = -1 := by
  have R := wk_all.ru wk_60
  rw [accB_built R wk_to]
  refine accG_none R wk_to.fin wk_to.on [98] (fun r hr => ?_)
  have h2 : r < 2 := hr
  match r, h2 with
  | 0, _ => exact wk_no _ (by decide)
  | 1, _ =>
    intro hm
    obtain ⟨c, e, hc⟩ := mat_len_set hm
    injection e with e
    rw [← e, span_has 97 _ (by decide)] at hc
    exact absurd hc (by decide)

end Go.Proofs.YtjelgphhlcecoaaGreatDoor
namespace Go.Proofs.YtjelgphhlcecoaaGreatDoor

/-- where a state leads by a byte; nowhere is the number behind all -/
def nxA (N : List (List Int)) (i b : Nat) : Nat := if N.length ≤ i then N.length else if (N.getD i []).getD b 0 < 0 then N.length else ((N.getD i []).getD b 0).toNat
def acA (N : List (List Int)) (A : List Int) (i : Nat) : Int := if N.length ≤ i then -1 else A.getD i 0
def goA (N : List (List Int)) : Nat → Txt → Nat
  | i, [] => i
  | i, c :: s => goA N (nxA N i c.toNat) s
/-- what a state does -/
def doA (N : List (List Int)) (A : List Int) (i : Nat) (s : Txt) : Int := acA N A (goA N i s)
def Alk (N : List (List Int)) (A : List Int) (i j : Nat) : Prop := ∀ s, doA N A i s = doA N A j s
def AlkK (N : List (List Int)) (A : List Int) (k i j : Nat) : Prop := ∀ s : Txt, s.length ≤ k → doA N A i s = doA N A j s
theorem nxA_none (N : List (List Int)) (b : Nat) : nxA N N.length b = N.length := by unfold nxA; rw [if_pos (Nat.le_refl _)]
theorem nxA_le {N : List (List Int)} (h : RgtN N) (i : Nat) {b : Nat} (hb : b < 256) : nxA N i b ≤ N.length := by
  unfold nxA
  split
  · exact Nat.le_refl _
  · split
    · exact Nat.le_refl _
    · have := (h i (by omega)).2 b hb
      omega
theorem doA_nil (N : List (List Int)) (A : List Int) (i : Nat) : doA N A i [] = acA N A i := rfl
theorem doA_cons (N : List (List Int)) (A : List Int) (i : Nat) (c : UInt8) (s : Txt) : doA N A i (c :: s) = doA N A (nxA N i c.toNat) s := rfl
theorem doA_none (N : List (List Int)) (A : List Int) : ∀ s, doA N A N.length s = -1
  | [] => by rw [doA_nil]; unfold acA; rw [if_pos (Nat.le_refl _)]
  | c :: s => by rw [doA_cons, nxA_none]; exact doA_none N A s
theorem goA_le {N : List (List Int)} (h : RgtN N) : ∀ (s : Txt) (i : Nat), i ≤ N.length → goA N i s ≤ N.length
  | [], _, hi => hi
  | c :: s, i, _ => goA_le h s _ (nxA_le h i c.toNat_lt)
theorem goA_app (N : List (List Int)) : ∀ (s t : Txt) (i : Nat), goA N i (s ++ t) = goA N (goA N i s) t
  | [], _, _ => rfl
  | c :: s, t, i => goA_app N s t (nxA N i c.toNat)
theorem Alk.refl (N : List (List Int)) (A : List Int) (i : Nat) : Alk N A i i := fun _ => rfl
theorem Alk.symm {N : List (List Int)} {A : List Int} {i j : Nat} (h : Alk N A i j) : Alk N A j i := fun s => (h s).symm
theorem Alk.trans {N : List (List Int)} {A : List Int} {i j k : Nat} (h : Alk N A i j) (h' : Alk N A j k) : Alk N A i k := fun s => (h s).trans (h' s)
theorem Alk.next {N : List (List Int)} {A : List Int} {i j : Nat} (h : Alk N A i j) {b : Nat} (hb : b < 256) : Alk N A (nxA N i b) (nxA N j b) := fun s => by
  have := h (UInt8.ofNat b :: s)
  rw [doA_cons, doA_cons, UInt8.toNat_ofNat', Nat.mod_eq_of_lt hb] at this
  exact this
theorem alkK_zero (N : List (List Int)) (A : List Int) (i j : Nat) : AlkK N A 0 i j ↔ acA N A i = acA N A j :=
  ⟨fun h => h [] (Nat.le_refl _), fun h s hs => by
    have : s = [] := List.eq_nil_of_length_eq_zero (by omega)
    subst this
    exact h⟩
theorem alkK_succ (N : List (List Int)) (A : List Int) (k i j : Nat) : AlkK N A (k + 1) i j ↔ AlkK N A k i j ∧ ∀ b, b < 256 → AlkK N A k (nxA N i b) (nxA N j b) := by
  constructor
  · intro h
    refine ⟨fun s hs => h s (by omega), fun b hb s hs => ?_⟩
    have := h (UInt8.ofNat b :: s) (by rw [List.length_cons]; omega)
    rw [doA_cons, doA_cons, UInt8.toNat_ofNat', Nat.mod_eq_of_lt hb] at this
    exact this
  · rintro ⟨h0, h1⟩ s hs
    cases s with
    | nil => exact h0 [] (Nat.zero_le _)
    | cons c s => exact h1 c.toNat c.toNat_lt s (by rw [List.length_cons] at hs; omega)
/-- if a round tells none apart, none are -/
theorem alk_stable {N : List (List Int)} {A : List Int} (hN : RgtN N) {k : Nat} (h : ∀ i j, i ≤ N.length → j ≤ N.length → AlkK N A k i j → AlkK N A (k + 1) i j) : ∀ i j, i ≤ N.length → j ≤ N.length → AlkK N A k i j → Alk N A i j := by
  have key : ∀ (s : Txt) i j, i ≤ N.length → j ≤ N.length → AlkK N A k i j → doA N A i s = doA N A j s := by
    intro s
    induction s with
    | nil => intro i j _ _ h0; exact h0 [] (Nat.zero_le _)
    | cons c s ih =>
      intro i j hi hj h0
      rw [doA_cons, doA_cons]
      exact ih _ _ (nxA_le hN i c.toNat_lt) (nxA_le hN j c.toNat_lt) (((alkK_succ N A k i j).1 (h i j hi hj h0)).2 _ c.toNat_lt)
  exact fun i j hi hj h0 s => key s i j hi hj h0

/-- keys as they are met -/
def distK {κ : Type} [DecidableEq κ] (f : Nat → κ) : Nat → List κ
  | 0 => []
  | k + 1 => if f k ∈ distK f k then distK f k else distK f k ++ [f k]
theorem distK_old {κ : Type} [DecidableEq κ] {f : Nat → κ} {k : Nat} (h : f k ∈ distK f k) : distK f (k + 1) = distK f k := by rw [distK, if_pos h]
theorem distK_new {κ : Type} [DecidableEq κ] {f : Nat → κ} {k : Nat} (h : ¬ f k ∈ distK f k) : distK f (k + 1) = distK f k ++ [f k] := by rw [distK, if_neg h]
theorem distK_mem {κ : Type} [DecidableEq κ] (f : Nat → κ) (x : κ) : ∀ k, x ∈ distK f k ↔ ∃ i, i < k ∧ f i = x
  | 0 => by simp [distK]
  | k + 1 => by
    have ih := distK_mem f x k
    by_cases h : f k ∈ distK f k
    · rw [distK_old h, ih]
      constructor
      · rintro ⟨i, hi, e⟩; exact ⟨i, by omega, e⟩
      · rintro ⟨i, hi, e⟩
        rcases Nat.lt_or_ge i k with hl | hl
        · exact ⟨i, hl, e⟩
        · obtain rfl : i = k := by omega
          rw [e, ih] at h
          exact h
    · rw [distK_new h, List.mem_append, ih, List.mem_singleton]
      constructor
      · rintro (⟨i, hi, e⟩ | e)
        · exact ⟨i, by omega, e⟩
        · exact ⟨k, by omega, e.symm⟩
      · rintro ⟨i, hi, e⟩
        rcases Nat.lt_or_ge i k with hl | hl
        · exact Or.inl ⟨i, hl, e⟩
        · obtain rfl : i = k := by omega
          exact Or.inr e.symm
theorem distK_nodup {κ : Type} [DecidableEq κ] (f : Nat → κ) : ∀ k, (distK f k).Nodup
  | 0 => by simp [distK]
  | k + 1 => by
    have ih := distK_nodup f k
    by_cases h : f k ∈ distK f k
    · rw [distK_old h]; exact ih
    · rw [distK_new h, List.nodup_append]
      refine ⟨ih, by simp, fun a ha b hb => ?_⟩
      have : b = f k := by simpa using hb
      subst this
      exact fun e => h (e ▸ ha)
theorem distK_len {κ : Type} [DecidableEq κ] (f : Nat → κ) : ∀ k, (distK f k).length ≤ k
  | 0 => by simp [distK]
  | k + 1 => by
    have ih := distK_len f k
    by_cases h : f k ∈ distK f k
    · rw [distK_old h]; omega
    · rw [distK_new h]; simp; omega
theorem distK_pre {κ : Type} [DecidableEq κ] (f : Nat → κ) (k : Nat) : ∀ d, ∃ U, distK f (k + d) = distK f k ++ U
  | 0 => ⟨[], by simp⟩
  | d + 1 => by
    obtain ⟨U, hU⟩ := distK_pre f k d
    rw [← Nat.add_assoc]
    by_cases h : f (k + d) ∈ distK f (k + d)
    · exact ⟨U, by rw [distK_old h, hU]⟩
    · exact ⟨U ++ [f (k + d)], by rw [distK_new h, hU, List.append_assoc]⟩
/-- the kinds of the first m, by their keys -/
def kndK {κ : Type} [DecidableEq κ] (f : Nat → κ) (m : Nat) : List Int := (List.range m).map fun i => ((distK f m).idxOf (f i) : Int)
theorem kndK_len {κ : Type} [DecidableEq κ] (f : Nat → κ) (m : Nat) : (kndK f m).length = m := by simp [kndK]
theorem idx_same {κ : Type} [DecidableEq κ] (f : Nat → κ) {i m : Nat} (h : i < m) : (distK f m).idxOf (f i) = (distK f (i + 1)).idxOf (f i) := by
  obtain ⟨U, hU⟩ := distK_pre f (i + 1) (m - (i + 1))
  rw [show i + 1 + (m - (i + 1)) = m by omega] at hU
  rw [hU, List.idxOf_append, if_pos ((distK_mem f _ _).2 ⟨i, by omega, rfl⟩)]
theorem kndK_succ {κ : Type} [DecidableEq κ] (f : Nat → κ) (m : Nat) : kndK f (m + 1) = kndK f m ++ [((distK f (m + 1)).idxOf (f m) : Int)] := by
  unfold kndK
  rw [List.range_succ, List.map_append]
  congr 1
  apply List.map_congr_left
  intro i hi
  have hi' : i < m := by simpa using hi
  rw [idx_same f (show i < m + 1 by omega), idx_same f hi']
theorem idx_old {κ : Type} [DecidableEq κ] {f : Nat → κ} {k : Nat} (h : f k ∈ distK f k) : (distK f (k + 1)).idxOf (f k) = (distK f k).idxOf (f k) := by rw [distK_old h]
theorem idx_new {κ : Type} [DecidableEq κ] {f : Nat → κ} {k : Nat} (h : ¬ f k ∈ distK f k) : (distK f (k + 1)).idxOf (f k) = (distK f k).length := by
  rw [distK_new h, List.idxOf_append, if_neg h]
  simp
theorem kndK_get {κ : Type} [DecidableEq κ] (f : Nat → κ) {i m : Nat} (h : i < m) : (kndK f m).getD i 0 = ((distK f m).idxOf (f i) : Int) := by
  rw [List.getD_eq_getElem?_getD, List.getElem?_eq_getElem (by rw [kndK_len]; exact h)]
  simp [kndK]
theorem kndK_lt {κ : Type} [DecidableEq κ] (f : Nat → κ) {i m : Nat} (h : i < m) : 0 ≤ (kndK f m).getD i 0 ∧ (kndK f m).getD i 0 < (m : Int) := by
  rw [kndK_get f h]
  have h1 : (distK f m).idxOf (f i) < (distK f m).length := List.idxOf_lt_length_of_mem ((distK_mem f _ _).2 ⟨i, h, rfl⟩)
  have := distK_len f m
  omega
theorem idx_inj {κ : Type} [DecidableEq κ] {l : List κ} {a b : κ} (ha : a ∈ l) (hb : b ∈ l) (h : l.idxOf a = l.idxOf b) : a = b := by
  have h1 : l.idxOf a < l.length := List.idxOf_lt_length_of_mem ha
  have h2 : l.idxOf b < l.length := List.idxOf_lt_length_of_mem hb
  have e1 := List.getElem_idxOf h1
  have e2 := List.getElem_idxOf h2
  rw [← e1, ← e2]
  congr 1
theorem kndK_iff {κ : Type} [DecidableEq κ] (f : Nat → κ) {i j m : Nat} (hi : i < m) (hj : j < m) : (kndK f m).getD i 0 = (kndK f m).getD j 0 ↔ f i = f j := by
  rw [kndK_get f hi, kndK_get f hj]
  constructor
  · intro h
    exact idx_inj ((distK_mem f _ _).2 ⟨i, hi, rfl⟩) ((distK_mem f _ _).2 ⟨j, hj, rfl⟩) (by omega)
  · intro h; rw [h]
/-- kinds by finer keys, and as many: the same kinds -/
theorem dist_more {κ μ : Type} [DecidableEq κ] [DecidableEq μ] {f : Nat → κ} {g : Nat → μ} {m : Nat} (h : ∀ i j, i < m → j < m → f i = f j → g i = g j) : ∀ k, k ≤ m → (distK g k).length ≤ (distK f k).length ∧ ((distK f k).length = (distK g k).length → ∀ i j, i < k → j < k → g i = g j → f i = f j)
  | 0, _ => ⟨by simp [distK], fun _ i j hi => absurd hi (Nat.not_lt_zero _)⟩
  | k + 1, hk => by
    obtain ⟨ih1, ih2⟩ := dist_more h k (by omega)
    by_cases hf : f k ∈ distK f k
    · obtain ⟨i0, hi0, e0⟩ := (distK_mem f _ _).1 hf
      have hg : g k ∈ distK g k := (distK_mem g _ _).2 ⟨i0, hi0, h _ _ (by omega) (by omega) e0⟩
      rw [distK_old hf, distK_old hg]
      refine ⟨ih1, fun he i j hi hj hij => ?_⟩
      have ih := ih2 he
      have hlast : ∀ i, i < k → g i = g k → f i = f k := fun i hi e => by
        rw [← e0]
        exact ih i i0 hi hi0 (e.trans (h _ _ (by omega) (by omega) e0).symm)
      rcases Nat.lt_or_ge i k with hi' | hi' <;> rcases Nat.lt_or_ge j k with hj' | hj'
      · exact ih i j hi' hj' hij
      · obtain rfl : j = k := by omega
        exact hlast i hi' hij
      · obtain rfl : i = k := by omega
        exact (hlast j hj' hij.symm).symm
      · obtain rfl : i = k := by omega
        obtain rfl : j = i := by omega
        rfl
    · rw [distK_new hf]
      by_cases hg : g k ∈ distK g k
      · rw [distK_old hg]
        refine ⟨by simp; omega, fun he => ?_⟩
        simp at he
        omega
      · rw [distK_new hg]
        refine ⟨by simpa using ih1, fun he i j hi hj hij => ?_⟩
        have ih := ih2 (by simpa using he)
        have hno : ∀ i, i < k → g i = g k → False := fun i hi e => hg ((distK_mem g _ _).2 ⟨i, hi, e⟩)
        rcases Nat.lt_or_ge i k with hi' | hi' <;> rcases Nat.lt_or_ge j k with hj' | hj'
        · exact ih i j hi' hj' hij
        · obtain rfl : j = k := by omega
          exact absurd hij (fun e => hno i hi' e)
        · obtain rfl : i = k := by omega
          exact absurd hij (fun e => hno j hj' e.symm)
        · obtain rfl : i = k := by omega
          obtain rfl : j = i := by omega
          rfl

end Go.Proofs.YtjelgphhlcecoaaGreatDoor
namespace Go.Proofs.YtjelgphhlcecoaaGreatDoor

/-- behind b bytes of a state: the states that are met by then, and its row (z is nowhere) -/
def rowM (al : Nat → Nat → Bool) (z : Nat) (to : Nat → Nat) (S : List Nat) : Nat → List Nat × List Int
  | 0 => (S, [])
  | b + 1 =>
    if al (to b) z then ((rowM al z to S b).1, (rowM al z to S b).2 ++ [-1])
    else if (rowM al z to S b).1.findIdx (al (to b)) < (rowM al z to S b).1.length then ((rowM al z to S b).1, (rowM al z to S b).2 ++ [((rowM al z to S b).1.findIdx (al (to b)) : Int)])
    else ((rowM al z to S b).1 ++ [to b], (rowM al z to S b).2 ++ [((rowM al z to S b).1.length : Int)])
theorem rowM_none {al : Nat → Nat → Bool} {z : Nat} {to : Nat → Nat} {S : List Nat} {b : Nat} (h : al (to b) z = true) : rowM al z to S (b + 1) = ((rowM al z to S b).1, (rowM al z to S b).2 ++ [-1]) := by rw [rowM, if_pos h]
theorem rowM_old {al : Nat → Nat → Bool} {z : Nat} {to : Nat → Nat} {S : List Nat} {b : Nat} (h : al (to b) z = false) (hf : (rowM al z to S b).1.findIdx (al (to b)) < (rowM al z to S b).1.length) : rowM al z to S (b + 1) = ((rowM al z to S b).1, (rowM al z to S b).2 ++ [((rowM al z to S b).1.findIdx (al (to b)) : Int)]) := by rw [rowM, if_neg (by simp [h]), if_pos hf]
theorem rowM_new {al : Nat → Nat → Bool} {z : Nat} {to : Nat → Nat} {S : List Nat} {b : Nat} (h : al (to b) z = false) (hf : ¬ (rowM al z to S b).1.findIdx (al (to b)) < (rowM al z to S b).1.length) : rowM al z to S (b + 1) = ((rowM al z to S b).1 ++ [to b], (rowM al z to S b).2 ++ [((rowM al z to S b).1.length : Int)]) := by rw [rowM, if_neg (by simp [h]), if_neg hf]
theorem rowM_cases (al : Nat → Nat → Bool) (z : Nat) (to : Nat → Nat) (S : List Nat) (b : Nat) :
    (al (to b) z = true ∧ rowM al z to S (b + 1) = ((rowM al z to S b).1, (rowM al z to S b).2 ++ [-1])) ∨
    (al (to b) z = false ∧ (rowM al z to S b).1.findIdx (al (to b)) < (rowM al z to S b).1.length ∧ rowM al z to S (b + 1) = ((rowM al z to S b).1, (rowM al z to S b).2 ++ [((rowM al z to S b).1.findIdx (al (to b)) : Int)])) ∨
    (al (to b) z = false ∧ ¬ (rowM al z to S b).1.findIdx (al (to b)) < (rowM al z to S b).1.length ∧ rowM al z to S (b + 1) = ((rowM al z to S b).1 ++ [to b], (rowM al z to S b).2 ++ [((rowM al z to S b).1.length : Int)])) := by
  cases h : al (to b) z with
  | true => exact Or.inl ⟨rfl, rowM_none h⟩
  | false =>
    by_cases hf : (rowM al z to S b).1.findIdx (al (to b)) < (rowM al z to S b).1.length
    · exact Or.inr (Or.inl ⟨rfl, hf, rowM_old h hf⟩)
    · exact Or.inr (Or.inr ⟨rfl, hf, rowM_new h hf⟩)
/-- the states that are met behind i of them, the rows, what they accept -/
def stM (al : Nat → Nat → Bool) (N : List (List Int)) : Nat → List Nat
  | 0 => [0]
  | i + 1 => (rowM al N.length (nxA N ((stM al N i).getD i 0)) (stM al N i) 256).1
def nxM (al : Nat → Nat → Bool) (N : List (List Int)) : Nat → List (List Int)
  | 0 => []
  | i + 1 => nxM al N i ++ [(rowM al N.length (nxA N ((stM al N i).getD i 0)) (stM al N i) 256).2]
def acM (al : Nat → Nat → Bool) (N : List (List Int)) (A : List Int) : Nat → List Int
  | 0 => []
  | i + 1 => acM al N A i ++ [A.getD ((stM al N i).getD i 0) 0]
theorem nxM_len (al : Nat → Nat → Bool) (N : List (List Int)) : ∀ i, (nxM al N i).length = i
  | 0 => rfl
  | i + 1 => by rw [nxM, List.length_append, nxM_len al N i]; rfl
theorem acM_len (al : Nat → Nat → Bool) (N : List (List Int)) (A : List Int) : ∀ i, (acM al N A i).length = i
  | 0 => rfl
  | i + 1 => by rw [acM, List.length_append, acM_len al N A i]; rfl
/-- what tells alike states -/
def AlB (N : List (List Int)) (A : List Int) (al : Nat → Nat → Bool) : Prop := ∀ i j, i ≤ N.length → j ≤ N.length → (al i j = true ↔ Alk N A i j)
/-- states that are met: none alike, none nowhere -/
structure MetS (N : List (List Int)) (A : List Int) (S : List Nat) : Prop where
  lt : ∀ x ∈ S, x < N.length
  apart : ∀ i j (hi : i < S.length) (hj : j < S.length), Alk N A S[i] S[j] → i = j
  alive : ∀ i (hi : i < S.length), 0 < i → ¬ Alk N A S[i] N.length
  zero : S.head? = some 0
theorem MetS.nodup {N : List (List Int)} {A : List Int} {S : List Nat} (h : MetS N A S) : S.Nodup := by
  rw [List.Nodup, List.pairwise_iff_getElem]
  intro i j hi hj hij e
  have := h.apart i j hi hj (by rw [e]; exact Alk.refl _ _ _)
  omega
theorem nodup_few : ∀ (n : Nat) (S : List Nat), S.Nodup → (∀ x ∈ S, x < n) → S.length ≤ n
  | 0, S, _, h => by
    cases S with
    | nil => simp
    | cons a l => exact absurd (h a (by simp)) (Nat.not_lt_zero _)
  | n + 1, S, hS, h => by
    have h1 := nodup_few n (S.erase n) (hS.erase n) (fun x hx => by
      have hx' := (List.Nodup.mem_erase_iff hS).1 hx
      have := h x hx'.2
      omega)
    by_cases hm : n ∈ S
    · rw [List.length_erase_of_mem hm] at h1
      omega
    · rw [List.erase_of_not_mem hm] at h1
      omega
theorem MetS.few {N : List (List Int)} {A : List Int} {S : List Nat} (h : MetS N A S) : S.length ≤ N.length := nodup_few _ _ h.nodup h.lt
theorem MetS.pos {N : List (List Int)} {A : List Int} {S : List Nat} (h : MetS N A S) : 0 < S.length := by
  cases S with
  | nil => exact absurd h.zero (by simp)
  | cons => simp
theorem MetS.start {N : List (List Int)} {A : List Int} (h : 0 < N.length) : MetS N A [0] where
  lt := fun x hx => by
    have : x = 0 := by simpa using hx
    omega
  apart := fun i j hi hj _ => by simp at hi hj; omega
  alive := fun i hi h0 => by simp at hi; omega
  zero := rfl
theorem MetS.more {N : List (List Int)} {A : List Int} {S : List Nat} (h : MetS N A S) {t : Nat} (ht : t ≤ N.length) (hd : ¬ Alk N A t N.length) (hn : ∀ j (hj : j < S.length), ¬ Alk N A t S[j]) : MetS N A (S ++ [t]) where
  lt := fun x hx => by
    rcases List.mem_append.1 hx with hx | hx
    · exact h.lt x hx
    · have : x = t := by simpa using hx
      subst this
      rcases Nat.lt_or_ge x N.length with hl | hl
      · exact hl
      · have : x = N.length := by omega
        subst this
        exact absurd (Alk.refl _ _ _) hd
  apart := fun i j hi hj e => by
    rw [List.length_append, List.length_singleton] at hi hj
    rcases Nat.lt_or_ge i S.length with hi' | hi' <;> rcases Nat.lt_or_ge j S.length with hj' | hj'
    · rw [List.getElem_append_left hi', List.getElem_append_left hj'] at e
      exact h.apart i j hi' hj' e
    · rw [List.getElem_append_left hi', List.getElem_append_right hj'] at e
      simp at e
      exact absurd e.symm (hn i hi')
    · rw [List.getElem_append_left hj', List.getElem_append_right hi'] at e
      simp at e
      exact absurd e (hn j hj')
    · omega
  alive := fun i hi h0 => by
    rw [List.length_append, List.length_singleton] at hi
    rcases Nat.lt_or_ge i S.length with hi' | hi'
    · rw [List.getElem_append_left hi']
      exact h.alive i hi' h0
    · rw [List.getElem_append_right hi']
      simpa using hd
  zero := by
    have := h.zero
    cases S with
    | nil => exact absurd this (by simp)
    | cons => simpa using this
/-- a number of a row is right -/
def NumM (N : List (List Int)) (A : List Int) (T : List Nat) (to : Nat) (x : Int) : Prop := (Alk N A to N.length ∧ x = -1) ∨ (¬ Alk N A to N.length ∧ ∃ k, ∃ h : k < T.length, x = (k : Int) ∧ Alk N A to T[k])
theorem NumM.more {N : List (List Int)} {A : List Int} {T : List Nat} {to : Nat} {x : Int} (h : NumM N A T to x) (U : List Nat) : NumM N A (T ++ U) to x := by
  rcases h with h | ⟨h, k, hk, e, ha⟩
  · exact Or.inl h
  · exact Or.inr ⟨h, k, by rw [List.length_append]; omega, e, by rw [List.getElem_append_left hk]; exact ha⟩
structure RowMIs (N : List (List Int)) (A : List Int) (to : Nat → Nat) (S : List Nat) (b : Nat) (q : List Nat × List Int) : Prop where
  pre : ∃ U, q.1 = S ++ U
  met : MetS N A q.1
  len : q.2.length = b
  row : ∀ c, c < b → NumM N A q.1 (to c) (q.2.getD c 0)
theorem getDI_left {l : List Int} {x : Int} {c : Nat} (h : c < l.length) : (l ++ [x]).getD c 0 = l.getD c 0 := by
  simp [List.getD_eq_getElem?_getD, List.getElem?_append_left h]
theorem getDI_at {l : List Int} {x : Int} {c : Nat} (h : c = l.length) : (l ++ [x]).getD c 0 = x := by
  subst h
  simp [List.getD_eq_getElem?_getD]
theorem rowM_is {N : List (List Int)} {A : List Int} {al : Nat → Nat → Bool} (hal : AlB N A al) {to : Nat → Nat} {S : List Nat} (hS : MetS N A S) : ∀ b, b ≤ 256 → (∀ c, c < b → to c ≤ N.length) → RowMIs N A to S b (rowM al N.length to S b)
  | 0, _, _ => ⟨⟨[], by simp [rowM]⟩, hS, rfl, fun c hc => by omega⟩
  | b + 1, hb, hto => by
    have ih := rowM_is hal hS b (by omega) (fun c hc => hto c (by omega))
    obtain ⟨U, hU⟩ := ih.pre
    have htb := hto b (by omega)
    have hdead := hal (to b) N.length htb (Nat.le_refl _)
    rcases rowM_cases al N.length to S b with ⟨h, e⟩ | ⟨h, hm, e⟩ | ⟨h, hm, e⟩
    · rw [e]
      refine ⟨⟨U, hU⟩, ih.met, by simp [ih.len], fun c hc => ?_⟩
      rcases Nat.lt_or_ge c b with hlt | hge
      · rw [getDI_left (by rw [ih.len]; exact hlt)]
        exact ih.row c hlt
      · obtain rfl : c = b := by omega
        rw [getDI_at ih.len.symm]
        exact Or.inl ⟨hdead.1 h, rfl⟩
    · rw [e]
      refine ⟨⟨U, hU⟩, ih.met, by simp [ih.len], fun c hc => ?_⟩
      rcases Nat.lt_or_ge c b with hlt | hge
      · rw [getDI_left (by rw [ih.len]; exact hlt)]
        exact ih.row c hlt
      · obtain rfl : c = b := by omega
        rw [getDI_at ih.len.symm]
        refine Or.inr ⟨fun hd => (by rw [hdead.2 hd] at h; cases h), _, hm, rfl, ?_⟩
        have := List.findIdx_getElem (w := hm)
        exact (hal _ _ htb (Nat.le_of_lt (ih.met.lt _ (List.getElem_mem hm)))).1 this
    · rw [e]
      refine ⟨⟨U ++ [to b], by rw [hU, List.append_assoc]⟩, ?_, by simp [ih.len], fun c hc => ?_⟩
      · refine ih.met.more htb (fun hd => (by rw [hdead.2 hd] at h; cases h)) (fun j hj hd => ?_)
        have h1 := (hal _ _ htb (Nat.le_of_lt (ih.met.lt _ (List.getElem_mem hj)))).2 hd
        exact hm (List.findIdx_lt_length_of_exists ⟨_, List.getElem_mem hj, h1⟩)
      · rcases Nat.lt_or_ge c b with hlt | hge
        · rw [getDI_left (by rw [ih.len]; exact hlt)]
          exact (ih.row c hlt).more _
        · obtain rfl : c = b := by omega
          rw [getDI_at ih.len.symm]
          exact Or.inr ⟨fun hd => (by rw [hdead.2 hd] at h; cases h), _, by simp, rfl, by simp [Alk.refl]⟩
theorem stM_met {N : List (List Int)} {A : List Int} {al : Nat → Nat → Bool} (hal : AlB N A al) (hr : RgtA N A) : ∀ i, MetS N A (stM al N i)
  | 0 => MetS.start hr.pos
  | i + 1 => (rowM_is hal (stM_met hal hr i) 256 (Nat.le_refl _) (fun _ hc => nxA_le hr.rgt _ hc)).met
theorem stM_row {N : List (List Int)} {A : List Int} {al : Nat → Nat → Bool} (hal : AlB N A al) (hr : RgtA N A) (i : Nat) : RowMIs N A (nxA N ((stM al N i).getD i 0)) (stM al N i) 256 (rowM al N.length (nxA N ((stM al N i).getD i 0)) (stM al N i) 256) :=
  rowM_is hal (stM_met hal hr i) 256 (Nat.le_refl _) (fun _ hc => nxA_le hr.rgt _ hc)
theorem stM_pre {N : List (List Int)} {A : List Int} {al : Nat → Nat → Bool} (hal : AlB N A al) (hr : RgtA N A) (i : Nat) : ∀ d, ∃ U, stM al N (i + d) = stM al N i ++ U
  | 0 => ⟨[], by simp⟩
  | d + 1 => by
    obtain ⟨U, hU⟩ := stM_pre hal hr i d
    obtain ⟨V, hV⟩ := (stM_row hal hr (i + d)).pre
    exact ⟨U ++ V, by rw [← Nat.add_assoc, stM, hV, hU, List.append_assoc]⟩
/-- it ends behind m states -/
structure MkTo (al : Nat → Nat → Bool) (N : List (List Int)) (m : Nat) : Prop where
  all : (stM al N m).length = m
  on : ∀ j, j < m → j < (stM al N j).length
theorem mkTo_uniq {al : Nat → Nat → Bool} {N : List (List Int)} {m m' : Nat} (h : MkTo al N m) (h' : MkTo al N m') : m = m' := by
  rcases Nat.lt_trichotomy m m' with hl | hl | hl
  · have := h'.on m hl; have := h.all; omega
  · exact hl
  · have := h.on m' hl; have := h'.all; omega

end Go.Proofs.YtjelgphhlcecoaaGreatDoor
