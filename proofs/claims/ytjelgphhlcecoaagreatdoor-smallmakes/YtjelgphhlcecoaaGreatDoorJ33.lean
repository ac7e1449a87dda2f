/- The maths of layer 9: what the smallest automaton does; two automata side by side. The example of layer 9: the automaton of "a|b" and "c", and the smallest one. Layer 8's law: rules in memory; right, heavy. -/
import Derived.Test.YtjelgphhlcecoaaGreatDoorJ32
import Derived.Test.YtjelgphhlcecoaaGreatDoorJ25
namespace Go.Proofs.YtjelgphhlcecoaaGreatDoor

theorem getD_left' {α : Type} {l U : List α} {d : α} {c : Nat} (h : c < l.length) : (l ++ U).getD c d = l.getD c d := by
  simp [List.getD_eq_getElem?_getD, List.getElem?_append_left h]
theorem getD_at' {α : Type} {l : List α} {x d : α} {c : Nat} (h : c = l.length) : (l ++ [x]).getD c d = x := by
  subst h
  simp [List.getD_eq_getElem?_getD]
theorem getD_el {α : Type} {l : List α} {d : α} {c : Nat} (h : c < l.length) : l.getD c d = l[c] := by
  simp [List.getD_eq_getElem?_getD, List.getElem?_eq_getElem h]
theorem nxM_get (al : Nat → Nat → Bool) (N : List (List Int)) : ∀ (m j : Nat), j < m → (nxM al N m).getD j [] = (rowM al N.length (nxA N ((stM al N j).getD j 0)) (stM al N j) 256).2
  | 0, _, h => absurd h (Nat.not_lt_zero _)
  | m + 1, j, h => by
    rw [nxM]
    rcases Nat.lt_or_ge j m with hl | hl
    · rw [getD_left' (by rw [nxM_len]; exact hl)]
      exact nxM_get al N m j hl
    · obtain rfl : j = m := by omega
      rw [getD_at' (nxM_len al N j).symm]
theorem acM_get (al : Nat → Nat → Bool) (N : List (List Int)) (A : List Int) : ∀ (m j : Nat), j < m → (acM al N A m).getD j 0 = A.getD ((stM al N j).getD j 0) 0
  | 0, _, h => absurd h (Nat.not_lt_zero _)
  | m + 1, j, h => by
    rw [acM]
    rcases Nat.lt_or_ge j m with hl | hl
    · rw [getD_left' (by rw [acM_len]; exact hl)]
      exact acM_get al N A m j hl
    · obtain rfl : j = m := by omega
      rw [getD_at' (acM_len al N A j).symm]
theorem stM_at {N : List (List Int)} {A : List Int} {al : Nat → Nat → Bool} (hal : AlB N A al) (hr : RgtA N A) {j m : Nat} (hj : j ≤ m) (h : j < (stM al N j).length) : (stM al N m).getD j 0 = (stM al N j).getD j 0 := by
  obtain ⟨U, hU⟩ := stM_pre hal hr j (m - j)
  rw [show j + (m - j) = m by omega] at hU
  rw [hU, getD_left' h]
theorem mk_num {N : List (List Int)} {A : List Int} {al : Nat → Nat → Bool} (hal : AlB N A al) (hr : RgtA N A) {m : Nat} (h : MkTo al N m) {j : Nat} (hj : j < m) {c : Nat} (hc : c < 256) : NumM N A (stM al N m) (nxA N ((stM al N m).getD j 0) c) (((nxM al N m).getD j []).getD c 0) := by
  rw [nxM_get al N m j hj, stM_at hal hr (Nat.le_of_lt hj) (h.on j hj)]
  have h1 := (stM_row hal hr j).row c hc
  obtain ⟨U, hU⟩ := stM_pre hal hr (j + 1) (m - (j + 1))
  rw [show j + 1 + (m - (j + 1)) = m by omega, stM] at hU
  rw [hU]
  exact h1.more U
theorem mk_pos {N : List (List Int)} {A : List Int} {al : Nat → Nat → Bool} (hal : AlB N A al) (hr : RgtA N A) {m : Nat} (h : MkTo al N m) : 0 < m := by
  have := (stM_met hal hr m).pos
  rw [h.all] at this
  exact this
theorem mk_few {N : List (List Int)} {A : List Int} {al : Nat → Nat → Bool} (hal : AlB N A al) (hr : RgtA N A) {m : Nat} (h : MkTo al N m) : m ≤ N.length := by
  have := (stM_met hal hr m).few
  rw [h.all] at this
  exact this
theorem mk_right {N : List (List Int)} {A : List Int} {al : Nat → Nat → Bool} (hal : AlB N A al) (hr : RgtA N A) {m : Nat} (h : MkTo al N m) : RgtA (nxM al N m) (acM al N A m) where
  rgt := fun j hj => by
    rw [nxM_len] at hj
    refine ⟨by rw [nxM_get al N m j hj]; exact (stM_row hal hr j).len, fun c hc => ?_⟩
    rw [nxM_len]
    rcases mk_num hal hr h hj hc with ⟨_, e⟩ | ⟨_, k, hk, e, _⟩
    · rw [e]; omega
    · rw [h.all] at hk
      rw [e]; omega
  pos := by rw [nxM_len]; exact mk_pos hal hr h
  few := by rw [nxM_len]; exact Nat.le_trans (mk_few hal hr h) hr.few
  len := by rw [nxM_len, acM_len]
  acc := fun j hj => by
    rw [acM_len] at hj
    rw [acM_get al N A m j hj]
    have h1 := h.on j hj
    refine hr.acc _ ?_
    rw [getD_el h1, ← hr.len]
    exact (stM_met hal hr j).lt _ (List.getElem_mem h1)
theorem doA_eq_none {N : List (List Int)} {A : List Int} {i : Nat} (h : Alk N A i N.length) (s : Txt) : doA N A i s = -1 := (h s).trans (doA_none N A s)
/-- a state does what the one does that it was met as -/
theorem mk_does {N : List (List Int)} {A : List Int} {al : Nat → Nat → Bool} (hal : AlB N A al) (hr : RgtA N A) {m : Nat} (h : MkTo al N m) : ∀ (s : Txt) (j : Nat), j < m → doA (nxM al N m) (acM al N A m) j s = doA N A ((stM al N m).getD j 0) s
  | [], j, hj => by
    have h1 := h.on j hj
    have hl : (stM al N m).getD j 0 < N.length := by
      rw [getD_el (by rw [h.all]; exact hj)]
      exact (stM_met hal hr m).lt _ (List.getElem_mem _)
    rw [doA_nil, doA_nil]
    unfold acA
    rw [nxM_len, if_neg (by omega), if_neg (by omega), acM_get al N A m j hj, stM_at hal hr (Nat.le_of_lt hj) h1]
  | c :: s, j, hj => by
    rw [doA_cons, doA_cons]
    rcases mk_num hal hr h hj c.toNat_lt with ⟨hd, e⟩ | ⟨_, k, hk, e, ha⟩
    · have e1 : nxA (nxM al N m) j c.toNat = (nxM al N m).length := by
        unfold nxA
        rw [e]
        simp
      rw [e1, doA_none, doA_eq_none hd]
    · have e1 : nxA (nxM al N m) j c.toNat = k := by
        unfold nxA
        rw [e, nxM_len, if_neg (by omega), if_neg (by omega)]
        simp
      have hk' : k < m := by rw [h.all] at hk; exact hk
      rw [e1, mk_does hal hr h s k hk', getD_el hk]
      exact (ha s).symm
theorem mk_zero {N : List (List Int)} {A : List Int} {al : Nat → Nat → Bool} (hal : AlB N A al) (hr : RgtA N A) (m : Nat) : (stM al N m).getD 0 0 = 0 := by
  have := (stM_met hal hr m).zero
  cases hS : stM al N m with
  | nil => rfl
  | cons a l => rw [hS] at this; simpa using this
theorem mk_does0 {N : List (List Int)} {A : List Int} {al : Nat → Nat → Bool} (hal : AlB N A al) (hr : RgtA N A) {m : Nat} (h : MkTo al N m) (s : Txt) : doA (nxM al N m) (acM al N A m) 0 s = doA N A 0 s := by
  rw [mk_does hal hr h s 0 (mk_pos hal hr h), mk_zero hal hr]
/-- no two states of it do the same, none but the first does nothing -/
theorem mk_apart {N : List (List Int)} {A : List Int} {al : Nat → Nat → Bool} (hal : AlB N A al) (hr : RgtA N A) {m : Nat} (h : MkTo al N m) {i k : Nat} (hi : i < m) (hk : k < m) (e : Alk (nxM al N m) (acM al N A m) i k) : i = k := by
  have hi' : i < (stM al N m).length := by rw [h.all]; exact hi
  have hk' : k < (stM al N m).length := by rw [h.all]; exact hk
  refine (stM_met hal hr m).apart i k hi' hk' fun s => ?_
  have := e s
  rw [mk_does hal hr h s i hi, mk_does hal hr h s k hk, getD_el hi', getD_el hk'] at this
  exact this
theorem mk_alive {N : List (List Int)} {A : List Int} {al : Nat → Nat → Bool} (hal : AlB N A al) (hr : RgtA N A) {m : Nat} (h : MkTo al N m) {i : Nat} (hi : i < m) (h0 : 0 < i) : ¬ Alk (nxM al N m) (acM al N A m) i m := fun e => by
  have hi' : i < (stM al N m).length := by rw [h.all]; exact hi
  refine (stM_met hal hr m).alive i hi' h0 fun s => ?_
  have := e s
  rw [mk_does hal hr h s i hi, getD_el hi'] at this
  rw [this, doA_none]
  have := doA_none (nxM al N m) (acM al N A m) s
  rw [nxM_len] at this
  exact this
/-- the numbers as they are met -/
theorem rowM_mets {N : List (List Int)} {A : List Int} {al : Nat → Nat → Bool} {to : Nat → Nat} {S : List Nat} (al0 : AlB N A al) (hS : MetS N A S) : ∀ b, b ≤ 256 → (∀ c, c < b → to c ≤ N.length) → metF S.length (rowM al N.length to S b).2 = some (rowM al N.length to S b).1.length
  | 0, _, _ => rfl
  | b + 1, hb, hto => by
    have ih := rowM_mets (to := to) al0 hS b (by omega) (fun c hc => hto c (by omega))
    rcases rowM_cases al N.length to S b with ⟨h, e⟩ | ⟨h, hm, e⟩ | ⟨h, hm, e⟩
    · rw [e, metF_app _ _ _ _ ih, metF, if_neg (by omega), if_neg (by omega), metF]
    · rw [e, metF_app _ _ _ _ ih, metF, if_neg (by omega), if_neg (by omega), metF]
    · rw [e, metF_app _ _ _ _ ih, metF, if_neg (by omega), if_pos rfl, metF]
      simp
theorem stM_mets {N : List (List Int)} {A : List Int} {al : Nat → Nat → Bool} (hal : AlB N A al) (hr : RgtA N A) {m j : Nat} (hj : j < m) : metF (stM al N j).length ((nxM al N m).getD j []) = some (stM al N (j + 1)).length := by
  rw [nxM_get al N m j hj, stM]
  exact rowM_mets hal (stM_met hal hr j) 256 (Nat.le_refl _) (fun _ hc => nxA_le hr.rgt _ hc)

/-- states of two automata do the same -/
def Al2 (N : List (List Int)) (A : List Int) (N' : List (List Int)) (A' : List Int) (i j : Nat) : Prop := ∀ s, doA N A i s = doA N' A' j s
theorem Al2.next {N : List (List Int)} {A : List Int} {N' : List (List Int)} {A' : List Int} {i j : Nat} (h : Al2 N A N' A' i j) {b : Nat} (hb : b < 256) : Al2 N A N' A' (nxA N i b) (nxA N' j b) := fun s => by
  have := h (UInt8.ofNat b :: s)
  rw [doA_cons, doA_cons, UInt8.toNat_ofNat', Nat.mod_eq_of_lt hb] at this
  exact this
theorem Al2.dead {N : List (List Int)} {A : List Int} {N' : List (List Int)} {A' : List Int} {i j : Nat} (h : Al2 N A N' A' i j) : Alk N A i N.length ↔ Alk N' A' j N'.length :=
  ⟨fun e s => by rw [← h s, e s, doA_none, doA_none], fun e s => by rw [h s, e s, doA_none, doA_none]⟩
theorem Al2.alk {N : List (List Int)} {A : List Int} {N' : List (List Int)} {A' : List Int} {i j k l : Nat} (h : Al2 N A N' A' i j) (h' : Al2 N A N' A' k l) : Alk N A i k ↔ Alk N' A' j l :=
  ⟨fun e s => by rw [← h s, e s, h' s], fun e s => by rw [h s, e s, h' s]⟩
theorem findIdx_like {p q : Nat → Bool} : ∀ (l l' : List Nat), l.length = l'.length → (∀ k (h : k < l.length) (h' : k < l'.length), p l[k] = q l'[k]) → l.findIdx p = l'.findIdx q
  | [], [], _, _ => rfl
  | [], _ :: _, h, _ => by simp at h
  | _ :: _, [], h, _ => by simp at h
  | a :: l, b :: l', h, hp => by
    have h0 := hp 0 (by simp) (by simp)
    have ih := findIdx_like l l' (by simpa using h) (fun k hk hk' => by
      have := hp (k + 1) (by simpa using hk) (by simpa using hk')
      simpa using this)
    rw [List.findIdx_cons, List.findIdx_cons, ih]
    simp only [List.getElem_cons_zero] at h0
    rw [h0]
structure Lock (N : List (List Int)) (A : List Int) (N' : List (List Int)) (A' : List Int) (S S' : List Nat) : Prop where
  len : S.length = S'.length
  al : ∀ k (h : k < S.length) (h' : k < S'.length), Al2 N A N' A' S[k] S'[k]
theorem bool_iff {a b : Bool} (h : a = true ↔ b = true) : a = b := by cases a <;> cases b <;> simp_all
theorem row_lock {N : List (List Int)} {A : List Int} {al : Nat → Nat → Bool} (hal : AlB N A al) {N' : List (List Int)} {A' : List Int} {al' : Nat → Nat → Bool} (hal' : AlB N' A' al') {to to' : Nat → Nat} {S S' : List Nat} (hS : MetS N A S) (hS' : MetS N' A' S')
    (hL : Lock N A N' A' S S') (hto : ∀ c, c < 256 → to c ≤ N.length ∧ to' c ≤ N'.length ∧ Al2 N A N' A' (to c) (to' c)) : ∀ b, b ≤ 256 → Lock N A N' A' (rowM al N.length to S b).1 (rowM al' N'.length to' S' b).1 ∧ (rowM al N.length to S b).2 = (rowM al' N'.length to' S' b).2
  | 0, _ => ⟨hL, rfl⟩
  | b + 1, hb => by
    obtain ⟨ihL, ihr⟩ := row_lock hal hal' hS hS' hL hto b (by omega)
    obtain ⟨t1, t2, t3⟩ := hto b (by omega)
    have m1 := (rowM_is hal hS b (by omega) (fun c hc => (hto c (by omega)).1)).met
    have m2 := (rowM_is hal' hS' b (by omega) (fun c hc => (hto c (by omega)).2.1)).met
    have e0 : al (to b) N.length = al' (to' b) N'.length := bool_iff (by rw [hal _ _ t1 (Nat.le_refl _), hal' _ _ t2 (Nat.le_refl _)]; exact t3.dead)
    have e1 : (rowM al N.length to S b).1.findIdx (al (to b)) = (rowM al' N'.length to' S' b).1.findIdx (al' (to' b)) := findIdx_like _ _ ihL.len fun k h h' => bool_iff (by
      rw [hal _ _ t1 (Nat.le_of_lt (m1.lt _ (List.getElem_mem h))), hal' _ _ t2 (Nat.le_of_lt (m2.lt _ (List.getElem_mem h')))]
      exact t3.alk (ihL.al k h h'))
    rw [rowM, rowM, ← e0, ← e1, ← ihL.len, ← ihr]
    split
    · exact ⟨ihL, rfl⟩
    · split
      · exact ⟨ihL, rfl⟩
      · refine ⟨⟨by simp [ihL.len], fun k h h' => ?_⟩, rfl⟩
        simp only [List.length_append, List.length_singleton] at h h'
        rcases Nat.lt_or_ge k (rowM al N.length to S b).1.length with hl | hl
        · rw [List.getElem_append_left hl, List.getElem_append_left (by rw [← ihL.len]; exact hl)]
          exact ihL.al k hl _
        · rw [List.getElem_append_right hl, List.getElem_append_right (by rw [← ihL.len]; exact hl)]
          simpa using t3
theorem st_lock {N : List (List Int)} {A : List Int} {al : Nat → Nat → Bool} (hal : AlB N A al) (hr : RgtA N A) {N' : List (List Int)} {A' : List Int} {al' : Nat → Nat → Bool} (hal' : AlB N' A' al') (hr' : RgtA N' A') (h0 : Al2 N A N' A' 0 0) :
    ∀ i, (∀ j, j < i → j < (stM al N j).length) → Lock N A N' A' (stM al N i) (stM al' N' i) ∧ nxM al N i = nxM al' N' i ∧ acM al N A i = acM al' N' A' i
  | 0, _ => ⟨⟨rfl, fun k h h' => by
      have h1 : k < 1 := h
      have : k = 0 := by omega
      subst this
      exact h0⟩, rfl, rfl⟩
  | i + 1, hi => by
    obtain ⟨ihL, ih1, ih2⟩ := st_lock hal hr hal' hr' h0 i (fun j hj => hi j (by omega))
    have hl := hi i (by omega)
    have hl' : i < (stM al' N' i).length := by rw [← ihL.len]; exact hl
    have hA := ihL.al i hl hl'
    have hm := stM_met hal hr i
    have hm' := stM_met hal' hr' i
    rw [stM, stM, nxM, nxM, acM, acM]
    rw [getD_el hl, getD_el hl']
    have key := row_lock hal hal' (to := nxA N (stM al N i)[i]) (to' := nxA N' (stM al' N' i)[i]) hm hm' ihL (fun c hc => ⟨nxA_le hr.rgt _ hc, nxA_le hr'.rgt _ hc, hA.next hc⟩) 256 (Nat.le_refl _)
    refine ⟨key.1, by rw [ih1, key.2], ?_⟩
    have e := hA []
    rw [doA_nil, doA_nil] at e
    unfold acA at e
    rw [if_neg (by have := hm.lt _ (List.getElem_mem hl); omega), if_neg (by have := hm'.lt _ (List.getElem_mem hl'); omega)] at e
    rw [ih2, e]
/-- what does the same is made the same -/
theorem mk_lock {N : List (List Int)} {A : List Int} {al : Nat → Nat → Bool} (hal : AlB N A al) (hr : RgtA N A) {N' : List (List Int)} {A' : List Int} {al' : Nat → Nat → Bool} (hal' : AlB N' A' al') (hr' : RgtA N' A') (h0 : Al2 N A N' A' 0 0) {m m' : Nat} (h : MkTo al N m) (h' : MkTo al' N' m') :
    m = m' ∧ nxM al N m = nxM al' N' m' ∧ acM al N A m = acM al' N' A' m' := by
  have hm : m = m' := by
    rcases Nat.lt_trichotomy m m' with hl | hl | hl
    · have h1 := (st_lock hal hr hal' hr' h0 m h.on).1.len
      have h2 := h'.on m hl
      have := h.all
      omega
    · exact hl
    · have h1 := (st_lock hal hr hal' hr' h0 m' (fun j hj => h.on j (by omega))).1.len
      have h2 := h.on m' hl
      have := h'.all
      omega
  subst hm
  exact ⟨rfl, (st_lock hal hr hal' hr' h0 m h.on).2⟩
/-- made of it again it is the same -/
theorem mk_again {N : List (List Int)} {A : List Int} {al : Nat → Nat → Bool} (hal : AlB N A al) (hr : RgtA N A) {m : Nat} (h : MkTo al N m) {al' : Nat → Nat → Bool} (hal' : AlB (nxM al N m) (acM al N A m) al') {m' : Nat} (h' : MkTo al' (nxM al N m) m') :
    nxM al' (nxM al N m) m' = nxM al N m ∧ acM al' (nxM al N m) (acM al N A m) m' = acM al N A m := by
  obtain ⟨_, e1, e2⟩ := mk_lock hal' (mk_right hal hr h) hal hr (fun s => mk_does0 hal hr h s) h' h
  exact ⟨e1, e2⟩
/-- which automaton is made: one answer, whoever tells alike states -/
def MkR (N : List (List Int)) (A : List Int) (M : List (List Int)) (B : List Int) : Prop := ∃ al m, AlB N A al ∧ MkTo al N m ∧ M = nxM al N m ∧ B = acM al N A m
theorem MkR.uniq {N : List (List Int)} {A : List Int} (hr : RgtA N A) {M M' : List (List Int)} {B B' : List Int} (h : MkR N A M B) (h' : MkR N A M' B') : M = M' ∧ B = B' := by
  obtain ⟨al, m, h1, h2, rfl, rfl⟩ := h
  obtain ⟨al', m', h1', h2', rfl, rfl⟩ := h'
  exact (mk_lock h1 hr h1' hr (fun _ => rfl) h2 h2').2

end Go.Proofs.YtjelgphhlcecoaaGreatDoor
namespace Go.Proofs.YtjelgphhlcecoaaGreatDoor
open Go.RowKit

theorem rowK_deadN {all : List Sp} {st : St} {S : List St} (b : Nat) : ∀ d, (∀ c, b ≤ c → c < b + d → byS all st c = []) → (rowK all st S (b + d)).1 = (rowK all st S b).1
  | 0, _ => rfl
  | d + 1, h => by rw [← Nat.add_assoc, rowK_met1, h (b + d) (by omega) (by omega), metS_nil, rowK_deadN b d fun c h1 h2 => h c h1 (by omega)]
def wkO : Rx := .or (.set (spanB 97 97)) (.set (spanB 98 98))
def wkC : Rx := .set (spanB 99 99)
theorem wkO_reads : rowsP [97, 124, 98] = some (wkO, []) := by rfl
theorem wkC_reads : rowsP [99] = some (wkC, []) := by rfl
theorem wkO_fol : FolOK (FolS [wkO]) (nS [wkO]) [[], []] where
  len := rfl
  up := fun j hj => by
    have h2 : j < 2 := hj
    match j, h2 with
    | 0, _ => exact List.Pairwise.nil
    | 1, _ => exact List.Pairwise.nil
  mem := fun j x hj => by
    have h2 : j < 2 := hj
    match j, h2 with
    | 0, _ => simp [FolS, Fol, wkO, nS]
    | 1, _ => simp [FolS, Fol, wkO, nS]
theorem wkC_fol : FolOK (FolS [wkC]) (nS [wkC]) [[]] where
  len := rfl
  up := fun j hj => by
    have h2 : j < 1 := hj
    match j, h2 with
    | 0, _ => exact List.Pairwise.nil
  mem := fun j x hj => by
    have h2 : j < 1 := hj
    match j, h2 with
    | 0, _ => simp [FolS, Fol, wkC, nS]
def wkL : List Sp := [⟨[spanB 97 97, spanB 98 98], false, [0, 1], [0, 1], [[], []]⟩, ⟨[spanB 99 99], false, [0], [0], [[]]⟩]
theorem wkO_sp : spOf wkO [[], []] = ⟨[spanB 97 97, spanB 98 98], false, [0, 1], [0, 1], [[], []]⟩ := by
  have e1 : firstL wkO 0 = [0, 1] := by simp [wkO, firstL, nSets]; first | rfl | decide
  have e2 : lastL wkO 0 = [0, 1] := by simp [wkO, lastL, nSets]; first | rfl | decide
  unfold spOf
  rw [e1, e2]
  rfl
theorem wkC_sp : spOf wkC [[]] = ⟨[spanB 99 99], false, [0], [0], [[]]⟩ := by
  have e1 : firstL wkC 0 = [0] := by simp [wkC, firstL]
  have e2 : lastL wkC 0 = [0] := by simp [wkC, lastL]
  unfold spOf
  rw [e1, e2]
  rfl
theorem wkL_all : SpAll [wkO, wkC] wkL where
  len := rfl
  is := fun r hr => by
    have h2 : r < 2 := hr
    match r, h2 with
    | 0, _ => exact ⟨_, wkO_sp.symm, wkO_fol⟩
    | 1, _ => exact ⟨_, wkC_sp.symm, wkC_fol⟩
theorem wkL_oks : ∀ t ∈ [wkO, wkC], t.ok ∧ (post t).length ≤ 60 := by
  intro t ht
  rcases List.mem_cons.1 ht with rfl | ht
  · exact ⟨(rowsP_good wkO_reads).1, by decide⟩
  · rcases List.mem_cons.1 ht with rfl | ht
    · exact ⟨(rowsP_good wkC_reads).1, by decide⟩
    · cases ht
theorem wkL_first : firstS wkL 2 = [0, 1, 1000] := by simp [firstS, oneS, wideL, wkL]
theorem wkL_s0 (b : Nat) (hb : b < 256) : byS wkL [0, 1, 1000] b = if b = 97 ∨ b = 98 then [999] else if b = 99 then [1999] else [] := by
  have h0 : byOne wkL b (enc 0 0) = if b = 97 then [999] else [] := by
    rw [byOne_eq wkL b 0 0 (by omega)]
    simp [wkL, span_has 97 b hb, wideL]
  have h1 : byOne wkL b (enc 0 1) = if b = 98 then [999] else [] := by
    rw [byOne_eq wkL b 0 1 (by omega)]
    simp [wkL, span_has 98 b hb, wideL]
  have h2 : byOne wkL b (enc 1 0) = if b = 99 then [1999] else [] := by
    rw [byOne_eq wkL b 1 0 (by omega)]
    simp [wkL, span_has 99 b hb, wideL]
  have e : byS wkL [0, 1, 1000] b = ofL (byOne wkL b (enc 0 0) ++ (byOne wkL b (enc 0 1) ++ byOne wkL b (enc 1 0))) := by simp [byS, enc]
  rw [e, h0, h1, h2]
  by_cases ha : b = 97
  · subst ha; simp; exact ofL_self (by simp [Up])
  · by_cases hb' : b = 98
    · subst hb'; simp; exact ofL_self (by simp [Up])
    · by_cases hc : b = 99
      · subst hc; simp; exact ofL_self (by simp [Up])
      · simp [ha, hb', hc]; rfl
theorem wkL_s1 (b : Nat) : byS wkL [999] b = [] := by
  have h1 : byOne wkL b (enc 0 999) = [] := byOne_end wkL b 0
  have e : byS wkL [999] b = ofL (byOne wkL b (enc 0 999)) := by simp [byS, enc]
  rw [e, h1]
  rfl
theorem wkL_s2 (b : Nat) : byS wkL [1999] b = [] := by
  have h1 : byOne wkL b (enc 1 999) = [] := byOne_end wkL b 1
  have e : byS wkL [1999] b = ofL (byOne wkL b (enc 1 999)) := by simp [byS, enc]
  rw [e, h1]
  rfl
theorem wkL_0 : stsK wkL 0 = [[0, 1, 1000]] := by
  rw [stsK, show wkL.length = 2 from rfl, wkL_first]
theorem wkL_1 : stsK wkL 1 = [[0, 1, 1000], [999], [1999]] := by
  have e : stsK wkL 1 = (rowK wkL [0, 1, 1000] [[0, 1, 1000]] 256).1 := by rw [stsK, wkL_0]; rfl
  have h97 : (rowK wkL [0, 1, 1000] [[0, 1, 1000]] 97).1 = [[0, 1, 1000]] := rowK_dead 97 fun c hc => by rw [wkL_s0 c (by omega), if_neg (by omega), if_neg (by omega)]
  have h98 : (rowK wkL [0, 1, 1000] [[0, 1, 1000]] 98).1 = [[0, 1, 1000], [999]] := by
    rw [show (98 : Nat) = 97 + 1 from rfl, rowK_met1, h97, wkL_s0 97 (by omega), if_pos (Or.inl rfl)]
    decide
  have h99 : (rowK wkL [0, 1, 1000] [[0, 1, 1000]] 99).1 = [[0, 1, 1000], [999]] := by
    rw [show (99 : Nat) = 98 + 1 from rfl, rowK_met1, h98, wkL_s0 98 (by omega), if_pos (Or.inr rfl)]
    decide
  have h100 : (rowK wkL [0, 1, 1000] [[0, 1, 1000]] 100).1 = [[0, 1, 1000], [999], [1999]] := by
    rw [show (100 : Nat) = 99 + 1 from rfl, rowK_met1, h99, wkL_s0 99 (by omega), if_neg (by omega), if_pos rfl]
    decide
  rw [e, show (256 : Nat) = 100 + 156 from rfl, rowK_deadN 100 156 fun c h1 h2 => by rw [wkL_s0 c (by omega), if_neg (by omega), if_neg (by omega)]]
  exact h100
theorem wkL_2 : stsK wkL 2 = [[0, 1, 1000], [999], [1999]] := by
  have e : stsK wkL 2 = (rowK wkL [999] [[0, 1, 1000], [999], [1999]] 256).1 := by rw [stsK, wkL_1]; rfl
  rw [e, rowK_dead 256 (fun c _ => wkL_s1 c)]
theorem wkL_3 : stsK wkL 3 = [[0, 1, 1000], [999], [1999]] := by
  have e : stsK wkL 3 = (rowK wkL [1999] [[0, 1, 1000], [999], [1999]] 256).1 := by rw [stsK, wkL_2]; rfl
  rw [e, rowK_dead 256 (fun c _ => wkL_s2 c)]
theorem wkL_to : BldTo wkL 3 where
  on := fun j hj => by
    match j, hj with
    | 0, _ => rw [wkL_0]; decide
    | 1, _ => rw [wkL_1]; decide
    | 2, _ => rw [wkL_2]; decide
  few := fun j hj => by
    match j, hj with
    | 0, _ => rw [wkL_0]; decide
    | 1, _ => rw [wkL_1]; decide
    | 2, _ => rw [wkL_2]; decide
    | 3, _ => rw [wkL_3]; decide
  fin := by rw [wkL_3]; rfl
theorem wkL_right : RgtA (nxtK wkL 3) (accK wkL 3) := rgtA_built (wkL_all.ru (fun t ht => (wkL_oks t ht).2)) wkL_to
theorem wkL_cell (j : Nat) (hj : j < 3) (c : Nat) (hc : c < 256) : RowOK [[0, 1, 1000], [999], [1999]] (byS wkL ((stsK wkL j).getD j []) c) (((nxtK wkL 3).getD j []).getD c 0) := by
  have := (nxtK_row wkL hj).2 c hc
  rw [wkL_3] at this
  exact this
theorem rowOK_none {T : List St} {n : Int} (h : RowOK T [] n) : n = -1 := by
  rcases h with ⟨_, h⟩ | ⟨h, _⟩
  · exact h
  · exact absurd rfl h
theorem wkT_1 {n : Int} (h : RowOK [[0, 1, 1000], [999], [1999]] [999] n) : n = 1 := by
  rcases h with ⟨h, _⟩ | ⟨_, m, e, h⟩
  · cases h
  · match m, h with
    | 0, h => simp at h
    | 1, _ => exact e
    | 2, h => simp at h
    | m + 3, h => simp at h
theorem wkT_2 {n : Int} (h : RowOK [[0, 1, 1000], [999], [1999]] [1999] n) : n = 2 := by
  rcases h with ⟨h, _⟩ | ⟨_, m, e, h⟩
  · cases h
  · match m, h with
    | 0, h => simp at h
    | 1, h => simp at h
    | 2, _ => exact e
    | m + 3, h => simp at h
theorem wkN_len : (nxtK wkL 3).length = 3 := nxtK_len _ _
theorem wkN_0 (c : Nat) (hc : c < 256) : nxA (nxtK wkL 3) 0 c = if c = 97 ∨ c = 98 then 1 else if c = 99 then 2 else 3 := by
  have h := wkL_cell 0 (by omega) c hc
  rw [wkL_0] at h
  have h' : RowOK [[0, 1, 1000], [999], [1999]] (byS wkL [0, 1, 1000] c) (((nxtK wkL 3).getD 0 []).getD c 0) := h
  rw [wkL_s0 c hc] at h'
  unfold nxA
  rw [wkN_len, if_neg (by omega)]
  by_cases h1 : c = 97 ∨ c = 98
  · rw [if_pos h1] at h' ⊢
    rw [wkT_1 h']
    rfl
  · rw [if_neg h1] at h' ⊢
    by_cases h2 : c = 99
    · rw [if_pos h2] at h' ⊢
      rw [wkT_2 h']
      rfl
    · rw [if_neg h2] at h' ⊢
      rw [rowOK_none h']
      rfl
theorem wkN_1 (c : Nat) (hc : c < 256) : nxA (nxtK wkL 3) 1 c = 3 := by
  have h := wkL_cell 1 (by omega) c hc
  rw [wkL_1] at h
  have h' : RowOK [[0, 1, 1000], [999], [1999]] (byS wkL [999] c) (((nxtK wkL 3).getD 1 []).getD c 0) := h
  rw [wkL_s1] at h'
  unfold nxA
  rw [wkN_len, if_neg (by omega), rowOK_none h']
  rfl
theorem wkN_2 (c : Nat) (hc : c < 256) : nxA (nxtK wkL 3) 2 c = 3 := by
  have h := wkL_cell 2 (by omega) c hc
  rw [wkL_2] at h
  have h' : RowOK [[0, 1, 1000], [999], [1999]] (byS wkL [1999] c) (((nxtK wkL 3).getD 2 []).getD c 0) := h
  rw [wkL_s2] at h'
  unfold nxA
  rw [wkN_len, if_neg (by omega), rowOK_none h']
  rfl
theorem wkA_0 : acA (nxtK wkL 3) (accK wkL 3) 0 = -1 := by unfold acA; rw [wkN_len, if_neg (by omega), accK_at wkL (by omega), wkL_0]; rfl
theorem wkA_1 : acA (nxtK wkL 3) (accK wkL 3) 1 = 0 := by unfold acA; rw [wkN_len, if_neg (by omega), accK_at wkL (by omega), wkL_1]; rfl
theorem wkA_2 : acA (nxtK wkL 3) (accK wkL 3) 2 = 1 := by unfold acA; rw [wkN_len, if_neg (by omega), accK_at wkL (by omega), wkL_2]; rfl
theorem wkA_3 : acA (nxtK wkL 3) (accK wkL 3) 3 = -1 := by unfold acA; rw [wkN_len, if_pos (by omega)]
theorem wk_does97 : doA (nxtK wkL 3) (accK wkL 3) 0 [97] = 0 := by
  rw [doA_cons, show (97 : UInt8).toNat = 97 from rfl, wkN_0 97 (by omega), if_pos (Or.inl rfl)]
  exact wkA_1
theorem wk_ne {i j : Nat} {x y : Int} (h1 : acA (nxtK wkL 3) (accK wkL 3) i = x) (h2 : acA (nxtK wkL 3) (accK wkL 3) j = y) (h : x ≠ y) : ¬ Alk (nxtK wkL 3) (accK wkL 3) i j := fun e => h (by rw [← h1, ← h2]; exact e [])
theorem rowM_deadN {al : Nat → Nat → Bool} {z : Nat} {to : Nat → Nat} {S : List Nat} (b : Nat) : ∀ d, (∀ c, b ≤ c → c < b + d → al (to c) z = true) → rowM al z to S (b + d) = ((rowM al z to S b).1, (rowM al z to S b).2 ++ List.replicate d (-1))
  | 0, _ => by simp
  | d + 1, h => by
    rw [← Nat.add_assoc, rowM_none (h (b + d) (by omega) (by omega)), rowM_deadN b d fun c h1 h2 => h c h1 (by omega), List.replicate_succ', List.append_assoc]
theorem wk_row (k d : Nat) : (List.replicate k (-1) ++ [1] ++ [1] ++ [2] ++ List.replicate d (-1) : List Int).length = k + 3 + d ∧ (List.replicate k (-1) ++ [1] ++ [1] ++ [2] ++ List.replicate d (-1) : List Int).getD k 0 = 1 ∧ (List.replicate k (-1) ++ [1] ++ [1] ++ [2] ++ List.replicate d (-1) : List Int).getD (k + 1) 0 = 1 ∧ (List.replicate k (-1) ++ [1] ++ [1] ++ [2] ++ List.replicate d (-1) : List Int).getD (k + 2) 0 = 2 := by
  refine ⟨by simp; omega, ?_, ?_, ?_⟩ <;> rw [List.append_assoc, List.append_assoc, List.append_assoc, List.getD_eq_getElem?_getD, List.getElem?_append_right (by simp)] <;> simp
/-- the smallest automaton of the example -/
theorem wk_small {M : List (List Int)} {B : List Int} (h : MkR (nxtK wkL 3) (accK wkL 3) M B) : M.length = 3 ∧ (M.getD 0 []).length = 256 ∧ (M.getD 0 []).getD 97 0 = 1 ∧ (M.getD 0 []).getD 98 0 = 1 ∧ (M.getD 0 []).getD 99 0 = 2 := by
  obtain ⟨al, m, hal, hto, rfl, rfl⟩ := h
  have hr := wkL_right
  have hb : ∀ i j, i ≤ 3 → j ≤ 3 → (al i j = true ↔ Alk (nxtK wkL 3) (accK wkL 3) i j) := fun i j hi hj => hal i j (by rw [wkN_len]; exact hi) (by rw [wkN_len]; exact hj)
  have a33 : al 3 3 = true := (hb 3 3 (by omega) (by omega)).2 (Alk.refl _ _ _)
  have no : ∀ i j, i ≤ 3 → j ≤ 3 → ¬ Alk (nxtK wkL 3) (accK wkL 3) i j → al i j = false := fun i j hi hj hn => by
    cases e : al i j with
    | false => rfl
    | true => exact absurd ((hb i j hi hj).1 e) hn
  have a13 : al 1 3 = false := no 1 3 (by omega) (by omega) (wk_ne wkA_1 wkA_3 (by decide))
  have a23 : al 2 3 = false := no 2 3 (by omega) (by omega) (wk_ne wkA_2 wkA_3 (by decide))
  have a10 : al 1 0 = false := no 1 0 (by omega) (by omega) (wk_ne wkA_1 wkA_0 (by decide))
  have a20 : al 2 0 = false := no 2 0 (by omega) (by omega) (wk_ne wkA_2 wkA_0 (by decide))
  have a21 : al 2 1 = false := no 2 1 (by omega) (by omega) (wk_ne wkA_2 wkA_1 (by decide))
  have a11 : al 1 1 = true := (hb 1 1 (by omega) (by omega)).2 (Alk.refl _ _ _)
  have d0 : ∀ c, c < 256 → ¬ (c = 97 ∨ c = 98) → c ≠ 99 → al (nxA (nxtK wkL 3) 0 c) 3 = true := fun c hc h1 h2 => by rw [wkN_0 c hc, if_neg h1, if_neg h2]; exact a33
  have n97 : nxA (nxtK wkL 3) 0 97 = 1 := by rw [wkN_0 97 (by omega), if_pos (Or.inl rfl)]
  have n98 : nxA (nxtK wkL 3) 0 98 = 1 := by rw [wkN_0 98 (by omega), if_pos (Or.inr rfl)]
  have n99 : nxA (nxtK wkL 3) 0 99 = 2 := by rw [wkN_0 99 (by omega), if_neg (by omega), if_pos rfl]
  have r97 : rowM al 3 (nxA (nxtK wkL 3) 0) [0] 97 = ([0], List.replicate 97 (-1)) := by
    have := rowM_deadN (al := al) (z := 3) (to := nxA (nxtK wkL 3) 0) (S := [0]) 0 97 fun c _ h2 => d0 c (by omega) (by omega) (by omega)
    rw [Nat.zero_add] at this
    rw [this]
    rfl
  have r98 : rowM al 3 (nxA (nxtK wkL 3) 0) [0] 98 = ([0, 1], List.replicate 97 (-1) ++ [1]) := by
    rw [show (98 : Nat) = 97 + 1 from rfl, rowM_new (by rw [n97]; exact a13) (by rw [r97, n97]; simp [List.findIdx_cons, a10]), r97, n97]
    rfl
  have r99 : rowM al 3 (nxA (nxtK wkL 3) 0) [0] 99 = ([0, 1], List.replicate 97 (-1) ++ [1] ++ [1]) := by
    rw [show (99 : Nat) = 98 + 1 from rfl, rowM_old (by rw [n98]; exact a13) (by rw [r98, n98]; simp [List.findIdx_cons, a10, a11]), r98, n98]
    simp [List.findIdx_cons, a10, a11]
  have r100 : rowM al 3 (nxA (nxtK wkL 3) 0) [0] 100 = ([0, 1, 2], List.replicate 97 (-1) ++ [1] ++ [1] ++ [2]) := by
    rw [show (100 : Nat) = 99 + 1 from rfl, rowM_new (by rw [n99]; exact a23) (by rw [r99, n99]; simp [List.findIdx_cons, a20, a21]), r99, n99]
    rfl
  have r256 : rowM al 3 (nxA (nxtK wkL 3) 0) [0] 256 = ([0, 1, 2], List.replicate 97 (-1) ++ [1] ++ [1] ++ [2] ++ List.replicate 156 (-1)) := by
    rw [show (256 : Nat) = 100 + 156 from rfl, rowM_deadN 100 156 (fun c h1 h2 => d0 c (by omega) (by omega) (by omega)), r100]
  have s1 : stM al (nxtK wkL 3) 1 = [0, 1, 2] := by
    have : stM al (nxtK wkL 3) 1 = (rowM al (nxtK wkL 3).length (nxA (nxtK wkL 3) 0) [0] 256).1 := rfl
    rw [this, wkN_len, r256]
  have s2 : stM al (nxtK wkL 3) 2 = [0, 1, 2] := by
    have : stM al (nxtK wkL 3) 2 = (rowM al (nxtK wkL 3).length (nxA (nxtK wkL 3) ((stM al (nxtK wkL 3) 1).getD 1 0)) (stM al (nxtK wkL 3) 1) 256).1 := rfl
    rw [this, s1, wkN_len]
    have := rowM_deadN (al := al) (z := 3) (to := nxA (nxtK wkL 3) 1) (S := [0, 1, 2]) 0 256 fun c _ h2 => by rw [wkN_1 c (by omega)]; exact a33
    rw [Nat.zero_add] at this
    exact congrArg Prod.fst this
  have s3 : stM al (nxtK wkL 3) 3 = [0, 1, 2] := by
    have : stM al (nxtK wkL 3) 3 = (rowM al (nxtK wkL 3).length (nxA (nxtK wkL 3) ((stM al (nxtK wkL 3) 2).getD 2 0)) (stM al (nxtK wkL 3) 2) 256).1 := rfl
    rw [this, s2, wkN_len]
    have := rowM_deadN (al := al) (z := 3) (to := nxA (nxtK wkL 3) 2) (S := [0, 1, 2]) 0 256 fun c _ h2 => by rw [wkN_2 c (by omega)]; exact a33
    rw [Nat.zero_add] at this
    exact congrArg Prod.fst this
  have hto3 : MkTo al (nxtK wkL 3) 3 := ⟨by rw [s3]; rfl, fun j hj => by
    match j, hj with
    | 0, _ => exact Nat.one_pos
    | 1, _ => rw [s1]; decide
    | 2, _ => rw [s2]; decide⟩
  obtain rfl := mkTo_uniq hto hto3
  have hrow : (nxM al (nxtK wkL 3) 3).getD 0 [] = List.replicate 97 (-1) ++ [1] ++ [1] ++ [2] ++ List.replicate 156 (-1) := by
    rw [nxM_get al _ 3 0 (by omega)]
    have : rowM al (nxtK wkL 3).length (nxA (nxtK wkL 3) ((stM al (nxtK wkL 3) 0).getD 0 0)) (stM al (nxtK wkL 3) 0) 256 = rowM al (nxtK wkL 3).length (nxA (nxtK wkL 3) 0) [0] 256 := rfl
    rw [this, wkN_len, r256]
  rw [hrow]
  exact ⟨nxM_len _ _ _, wk_row 97 156⟩

end Go.Proofs.YtjelgphhlcecoaaGreatDoor
namespace Go.Proofs.YtjelgphhlcecoaaGreatDoor
open Go.RowKit

/-- a slice of rules -/
def Celss (w : World) (v : Value) (L : List (List Cel)) : Prop := ∃ a cap, v = .slice a L.length cap ∧ L.length ≤ cap ∧ (a = none → cap = 0) ∧ ∀ j (h : j < L.length), ∃ b o x, a = some ⟨b, o, none⟩ ∧ b < w.heap.size ∧ w.cell? ⟨b, o + j, none⟩ = some x ∧ Cels w x L[j]
theorem Celss.keep {w w' : World} {v : Value} {L : List (List Cel)} (h : Celss w v L) (hb : Below w.heap.size w w') : Celss w' v L := by
  obtain ⟨a, cap, hv, hc, hn, hat⟩ := h
  refine ⟨a, cap, hv, hc, hn, fun j hj => ?_⟩
  obtain ⟨b, o, x, ha, hlt, h1, h2⟩ := hat j hj
  exact ⟨b, o, x, ha, Nat.lt_of_lt_of_le hlt hb.size, keep_cell hb h1, h2.keep hb⟩
/-- the cells of the first k rules, each counted up to 100 -/
def hvS (L : List (List Cel)) : Nat → Nat
  | 0 => 0
  | k + 1 => hvS L k + min (L.getD k []).length 100
theorem hvS_mono (L : List (List Cel)) (k : Nat) : ∀ d, hvS L k ≤ hvS L (k + d)
  | 0 => Nat.le_refl _
  | d + 1 => Nat.le_trans (hvS_mono L k d) (Nat.le_add_right _ _)
def heavyB (L : List (List Cel)) : Bool := decide (40 < hvS L L.length) || decide (20 < L.length)
end Go.Proofs.YtjelgphhlcecoaaGreatDoor
