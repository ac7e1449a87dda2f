/- topiaryref09.Apart: flags of pairs, as lists. topiaryref09.Apart: flags of pairs, in memory: a row a state, each in a block of its own. topiaryref09.Apart. -/
import Derived.Test.YtjelgphhlcecoaaGreatDoorJ31
import Derived.Test.YtjelgphhlcecoaaGreatDoorJ6
import Derived.Deep.LoopGhost
import Derived.Lib.QuietBelow
import Derived.BigQuiet
namespace Go.Proofs.YtjelgphhlcecoaaGreatDoor
open Go.RowKit Go.Maps

/-- a flag of a pair -/
def flg (F : List (List Bool)) (i k : Nat) : Bool := (F.getD i []).getD k false
def setG (F : List (List Bool)) (i k : Nat) : List (List Bool) := F.set i ((F.getD i []).set k true)
theorem flg_set {F : List (List Bool)} {i k : Nat} (hi : i < F.length) (hk : k < (F.getD i []).length) (i' k' : Nat) : flg (setG F i k) i' k' = if i' = i ∧ k' = k then true else flg F i' k' := by
  unfold flg setG
  by_cases e : i' = i
  · subst e
    have e1 : (F.set i' ((F.getD i' []).set k true)).getD i' [] = (F.getD i' []).set k true := by
      rw [List.getD_eq_getElem?_getD, List.getElem?_set_self hi]
      rfl
    rw [e1]
    by_cases e2 : k' = k
    · subst e2
      rw [if_pos ⟨rfl, rfl⟩, List.getD_eq_getElem?_getD, List.getElem?_set_self hk]
      rfl
    · rw [if_neg (fun h => e2 h.2), List.getD_eq_getElem?_getD, List.getElem?_set_ne (fun h => e2 h.symm), ← List.getD_eq_getElem?_getD]
  · have e1 : (F.set i ((F.getD i []).set k true)).getD i' [] = F.getD i' [] := by
      rw [List.getD_eq_getElem?_getD, List.getElem?_set_ne (fun h => e h.symm), ← List.getD_eq_getElem?_getD]
    rw [if_neg (fun h => e h.1), e1]
/-- how many flags are not set -/
def cntF (F : List (List Bool)) : Nat := (F.map fun r => r.count false).sum
theorem count_set {r : List Bool} {k : Nat} (hk : k < r.length) (h : r.getD k false = false) : (r.set k true).count false + 1 = r.count false := by
  induction r generalizing k with
  | nil => simp at hk
  | cons a r ih =>
    cases k with
    | zero =>
      have e : a = false := by simpa using h
      subst e
      simp
    | succ k =>
      have := ih (k := k) (by simpa using hk) (by simpa using h)
      simp only [List.set_cons_succ, List.count_cons]
      omega
theorem cnt_set {F : List (List Bool)} {i k : Nat} (hi : i < F.length) (hk : k < (F.getD i []).length) (h : flg F i k = false) : cntF (setG F i k) + 1 = cntF F := by
  unfold cntF setG
  induction F generalizing i with
  | nil => simp at hi
  | cons a F ih =>
    cases i with
    | zero =>
      have h1 := count_set (r := a) (k := k) (by simpa using hk) (by simpa [flg] using h)
      simp only [List.getD_cons_zero, List.set_cons_zero, List.map_cons, List.sum_cons]
      omega
    | succ i =>
      have := ih (i := i) (by simpa using hi) (by simpa using hk) (by simpa [flg] using h)
      simp only [List.getD_cons_succ, List.set_cons_succ, List.map_cons, List.sum_cons]
      omega
/-- flags of n + 1 by n + 1 -/
structure SqF (n : Nat) (F : List (List Bool)) : Prop where
  len : F.length = n + 1
  row : ∀ i, i ≤ n → (F.getD i []).length = n + 1
theorem SqF.set {n : Nat} {F : List (List Bool)} (h : SqF n F) (i k : Nat) : SqF n (setG F i k) := by
  refine ⟨by unfold setG; rw [List.length_set]; exact h.len, fun j hj => ?_⟩
  unfold setG
  by_cases e : j = i
  · subst e
    rw [List.getD_eq_getElem?_getD, List.getElem?_set_self (by rw [h.len]; omega)]
    simp only [Option.getD_some, List.length_set]
    exact h.row j hj
  · rw [List.getD_eq_getElem?_getD, List.getElem?_set_ne (fun h => e h.symm), ← List.getD_eq_getElem?_getD]
    exact h.row j hj
/-- flags that are set tell states apart; those of other numbers are set -/
structure FlgS (N : List (List Int)) (A : List Int) (F : List (List Bool)) : Prop where
  sq : SqF N.length F
  sound : ∀ i k, i ≤ N.length → k ≤ N.length → flg F i k = true → ¬ Alk N A i k
  base : ∀ i k, i ≤ N.length → k ≤ N.length → flg F i k = false → acA N A i = acA N A k
theorem FlgS.set {N : List (List Int)} {A : List Int} {F : List (List Bool)} (h : FlgS N A F) {i k b : Nat} (hi : i ≤ N.length) (hk : k ≤ N.length) (hb : b < 256) (hr : RgtN N) (hf : flg F (nxA N i b) (nxA N k b) = true) : FlgS N A (setG F i k) := by
  have hl : i < F.length := by rw [h.sq.len]; omega
  have hl2 : k < (F.getD i []).length := by rw [h.sq.row i hi]; omega
  refine ⟨h.sq.set i k, fun i' k' hi' hk' e => ?_, fun i' k' hi' hk' e => ?_⟩
  · rw [flg_set hl hl2] at e
    by_cases e1 : i' = i ∧ k' = k
    · obtain ⟨rfl, rfl⟩ := e1
      exact fun ha => h.sound _ _ (nxA_le hr _ hb) (nxA_le hr _ hb) hf (ha.next hb)
    · rw [if_neg e1] at e
      exact h.sound i' k' hi' hk' e
  · rw [flg_set hl hl2] at e
    by_cases e1 : i' = i ∧ k' = k
    · rw [if_pos e1] at e; cases e
    · rw [if_neg e1] at e
      exact h.base i' k' hi' hk' e
/-- a pass that sets none: none is missing -/
def DoneF (N : List (List Int)) (F : List (List Bool)) : Prop := ∀ i k, i ≤ N.length → k ≤ N.length → flg F i k = false → ∀ b, b < 256 → flg F (nxA N i b) (nxA N k b) = false
theorem FlgS.done {N : List (List Int)} {A : List Int} {F : List (List Bool)} (h : FlgS N A F) (hr : RgtN N) (hd : DoneF N F) : ∀ i k, i ≤ N.length → k ≤ N.length → (flg F i k = false ↔ Alk N A i k) := fun i k hi hk => by
  constructor
  · intro e
    have key : ∀ (s : Txt) i k, i ≤ N.length → k ≤ N.length → flg F i k = false → doA N A i s = doA N A k s := by
      intro s
      induction s with
      | nil => intro i k hi hk e; exact h.base i k hi hk e
      | cons c s ih =>
        intro i k hi hk e
        rw [doA_cons, doA_cons]
        exact ih _ _ (nxA_le hr _ c.toNat_lt) (nxA_le hr _ c.toNat_lt) (hd i k hi hk e _ c.toNat_lt)
    exact fun s => key s i k hi hk e
  · intro ha
    cases e : flg F i k with
    | false => rfl
    | true => exact absurd ha (h.sound i k hi hk e)
/-- what a pass has seen: of the pairs ahead of (i, k) those that are not set lead to none that is (as the flags stood at its start or since) -/
def PassF (N : List (List Int)) (F : List (List Bool)) (i k : Nat) : Prop := ∀ i' k', i' ≤ N.length → k' ≤ N.length → (i' < i ∨ (i' = i ∧ k' < k)) → flg F i' k' = false → ∀ b, b < 256 → flg F (nxA N i' b) (nxA N k' b) = false
theorem pass_start (N : List (List Int)) (F : List (List Bool)) : PassF N F 0 0 := fun i' k' _ _ h => by omega
theorem pass_row {N : List (List Int)} {F : List (List Bool)} {i m : Nat} (hm : N.length < m) (h : PassF N F i m) : PassF N F (i + 1) 0 := fun i' k' hi hk hl => h i' k' hi hk (by omega)
theorem pass_end {N : List (List Int)} {F : List (List Bool)} {m : Nat} (hm : N.length < m) (h : PassF N F m 0) : DoneF N F := fun i k hi hk => h i k hi hk (Or.inl (by omega))
theorem pass_next {N : List (List Int)} {F : List (List Bool)} {i k : Nat} (h : PassF N F i k) (h2 : flg F i k = false → ∀ b, b < 256 → flg F (nxA N i b) (nxA N k b) = false) : PassF N F i (k + 1) := fun i' k' hi hk hl e b hb => by
  by_cases e1 : i' = i ∧ k' = k
  · obtain ⟨rfl, rfl⟩ := e1
    exact h2 e b hb
  · exact h i' k' hi hk (by omega) e b hb

end Go.Proofs.YtjelgphhlcecoaaGreatDoor
namespace Go.Proofs.YtjelgphhlcecoaaGreatDoor
open Go.RowKit Go.Maps

def rowV (m r : Nat) : Value := .slice (some ⟨r, 0, none⟩) m m
structure ApO (m : Nat) (w0 w : World) (v : Value) (rs : List Nat) (F : List (List Bool)) : Prop where
  out : w.ownsRow w0.heap.size 43 1 v rs.length (rs.map (rowV m))
  rows : ∀ j, j < rs.length → OwnT w w0.heap.size (rowV m (rs.getD j 0)) (F.getD j [])
  len : F.length = rs.length
  nd : rs.Nodup
  off : ∀ k, v.ownBlock = some k → ¬ k ∈ rs
  low : Below w0.heap.size w0 w
theorem ownT_len {w : World} {B m r : Nat} {l : List Bool} (h : OwnT w B (rowV m r) l) : l.length = m := by
  obtain ⟨a, c, e⟩ := own_shape h
  unfold rowV at e
  injection e with _ e _
  exact e.symm
theorem ApO.keep {m : Nat} {w0 w u : World} {v : Value} {rs : List Nat} {F : List (List Bool)} (h : ApO m w0 w v rs F) (hu : Below w.heap.size w u) : ApO m w0 u v rs F :=
  ⟨own_below h.out hu, fun j hj => own_below (h.rows j hj) hu, h.len, h.nd, h.off, bl_step h.low hu⟩
theorem ApO.lt {m : Nat} {w0 w : World} {v : Value} {rs : List Nat} {F : List (List Bool)} (h : ApO m w0 w v rs F) : ∀ r ∈ rs, w0.heap.size ≤ r ∧ r < w.heap.size := fun r hr => by
  obtain ⟨j, hj, rfl⟩ := List.getElem_of_mem hr
  have h1 := (h.rows j hj).lt (rs.getD j 0) rfl
  rw [getD_el hj] at h1
  exact h1
theorem ApO.nil (m : Nat) {w0 w : World} (h : Below w0.heap.size w0 w) : ApO m w0 w (.slice none 0 0) [] [] := ⟨World.ownsRow_nil _ _ _ _, fun j hj => absurd hj (Nat.not_lt_zero _), rfl, List.nodup_nil, fun k e => (by cases e), h⟩
theorem ApO.push {m : Nat} {w0 w w' : World} {v : Value} {rs : List Nat} {F : List (List Bool)} (h : ApO m w0 w v rs F) {r : Nat} {l : List Bool} (hr : OwnT w w0.heap.size (rowV m r) l) (hn : ¬ r ∈ rs) (hv : v.ownBlock ≠ some r) {g cap : Nat}
    (ho : w'.ownsRow w0.heap.size 43 1 (.slice (some ⟨g, 0, none⟩) (rs.length + 1) cap) (rs.length + 1) (rs.map (rowV m) ++ [rowV m r])) (hg : w.grownBy w' v.ownBlock) (hat : v.ownBlock = some g ∨ g = w.heap.size) :
    ApO m w0 w' (.slice (some ⟨g, 0, none⟩) (rs.length + 1) cap) (rs ++ [r]) (F ++ [l]) := by
  have hk := Kept.of_grown hg
  have hrl := hr.lt r rfl
  refine ⟨by rw [List.length_append, List.map_append]; exact ho, fun j hj => ?_, by rw [List.length_append, List.length_append, h.len]; rfl, ?_, fun k e => ?_, h.low.trans (hk.below (fun k e => (h.out.lt k e).1) h.low.size)⟩
  · rw [List.length_append, List.length_singleton] at hj
    rcases Nat.lt_or_ge j rs.length with hl | hl
    · rw [getD_left' hl, getD_left' (by rw [h.len]; exact hl)]
      refine own_kept (h.rows j hl) hk (fun k e e' => h.off k e' ?_)
      have e1 : rs.getD j 0 = k := by injection e
      rw [← e1, getD_el hl]
      exact List.getElem_mem hl
    · have e1 : j = rs.length := by omega
      rw [getD_at' e1, getD_at' (by rw [h.len]; exact e1)]
      exact own_kept hr hk (fun k e e' => hv (by have e2 : r = k := (by injection e); rw [e2]; exact e'))
  · rw [List.nodup_append]
    refine ⟨h.nd, by simp, fun a ha b hb => ?_⟩
    have : b = r := by simpa using hb
    subst this
    exact fun e => hn (e ▸ ha)
  · have e1 : g = k := by injection e
    subst e1
    rw [List.mem_append, List.mem_singleton]
    rintro (h1 | h1)
    · rcases hat with h2 | h2
      · exact h.off g h2 h1
      · have := (h.lt g h1).2; omega
    · rcases hat with h2 | h2
      · exact hv (by rw [h2, h1])
      · omega
theorem ApO.put {m : Nat} {w0 w : World} {v : Value} {rs : List Nat} {F : List (List Bool)} (h : ApO m w0 w v rs F) {i : Nat} (hi : i < rs.length) (k : Nat) : ApO m w0 (w.setCell ⟨rs.getD i 0, k, none⟩ (.bool true)) v rs (setG F i k) := by
  have hm : rs.getD i 0 ∈ rs := by rw [getD_el hi]; exact List.getElem_mem hi
  have hlen := ownT_len (h.rows i hi)
  refine ⟨own_set h.out (fun e => h.off _ e hm), fun j hj => ?_, by unfold setG; rw [List.length_set]; exact h.len, h.nd, h.off, ?_⟩
  · unfold setG
    by_cases e : j = i
    · subst e
      have e1 : (F.set j ((F.getD j []).set k true)).getD j [] = (F.getD j []).set k true := by
        rw [List.getD_eq_getElem?_getD, List.getElem?_set_self (by rw [h.len]; exact hi)]
        rfl
      rw [e1]
      have h1 := h.rows j hi
      unfold rowV at h1 ⊢
      rw [← hlen] at h1 ⊢
      exact OwnT.put (k := k) true h1
    · have e1 : (F.set i ((F.getD i []).set k true)).getD j [] = F.getD j [] := by
        rw [List.getD_eq_getElem?_getD, List.getElem?_set_ne (fun h => e h.symm), ← List.getD_eq_getElem?_getD]
      rw [e1]
      refine own_set (h.rows j hj) (fun e' => e ?_)
      have e1 : rs.getD j 0 = rs.getD i 0 := by injection e'
      rw [getD_el hj, getD_el hi] at e1
      exact (List.getElem?_inj hj h.nd).1 (by rw [List.getElem?_eq_getElem hj, List.getElem?_eq_getElem hi, e1])
  · have hr := h.lt _ hm
    exact bl_set h.low _ _ _ hr.1
theorem ApO.at {m : Nat} {w0 w : World} {v : Value} {rs : List Nat} {F : List (List Bool)} (h : ApO m w0 w v rs F) {i k : Nat} (hi : i < rs.length) (hk : k < m) : ∃ g c, v = .slice (some ⟨g, 0, none⟩) rs.length c ∧ w.cell? ⟨g, i, none⟩ = some (rowV m (rs.getD i 0)) ∧ w.cell? ⟨rs.getD i 0, k, none⟩ = some (.bool (flg F i k)) ∧ w.frozen? ⟨rs.getD i 0, k, none⟩ = false := by
  have hlen := ownT_len (h.rows i hi)
  obtain ⟨g, c, e, _⟩ := own_form h.out (by omega)
  have ho := h.out
  rw [e] at ho
  have h1 := ho.cellAt i (by omega)
  rw [List.getElem?_map, List.getElem?_eq_getElem hi] at h1
  have h2 : w.ownsRow w0.heap.size 4 1 (.slice (some ⟨rs.getD i 0, 0, none⟩) m m) m ((F.getD i []).map Value.bool) := by
    have h9 := h.rows i hi
    unfold OwnT rowV at h9
    rw [hlen] at h9
    exact h9
  have h3 := h2.cellAt k (by omega)
  rw [List.getElem?_map, List.getElem?_eq_getElem (by omega)] at h3
  refine ⟨g, c, e, by rw [h1, getD_el hi]; rfl, by rw [h3]; unfold flg; rw [getD_el (show k < (F.getD i []).length by omega)]; rfl, h2.frozenAt k⟩
theorem ApO.cells {m : Nat} {w0 w : World} {g n c : Nat} {rs : List Nat} {F : List (List Bool)} (h : ApO m w0 w (.slice (some ⟨g, 0, none⟩) n c) rs F) {i k : Nat} (hi : i < rs.length) (hk : k < m) : w.cell? ⟨g, i, none⟩ = some (.slice (some ⟨rs.getD i 0, 0, none⟩) m m) ∧ w.cell? ⟨rs.getD i 0, k, none⟩ = some (.bool (flg F i k)) ∧ w.frozen? ⟨rs.getD i 0, k, none⟩ = false := by
  obtain ⟨g', c', e, h1, h2, h3⟩ := h.at hi hk
  injection e with e1 e2 e3
  injection e1 with e1
  injection e1 with e1
  subst e1
  exact ⟨h1, h2, h3⟩
theorem ApO.rebase {m : Nat} {w0 w1 w : World} {v : Value} {rs : List Nat} {F : List (List Bool)} (h : ApO m w1 w v rs F) (hb : Below w0.heap.size w0 w1) : ApO m w0 w v rs F :=
  ⟨own_base h.out hb.size, fun j hj => own_base (h.rows j hj) hb.size, h.len, h.nd, h.off, bl_step hb h.low⟩
set_option maxRecDepth 20000 in
theorem Tryz.infoBs : (Tryz.prog.info? 43).map (fun i => (i.zero, i.size, i.bytes)) = some (some (.slice none 0 0), 1, 24) := by kernel_rfl
set_option maxRecDepth 20000 in
theorem Tryz.infoBo : (Tryz.prog.info? 4).map (fun i => (i.zero, i.size, i.bytes)) = some (some (.bool false), 1, 1) := by kernel_rfl
theorem made_bools (w : World) (N : Nat) (hN : N ≤ 100000) : OwnT (w.alloc (.cells (madeCells #[.bool false] N) 4)) w.heap.size (.slice (some ⟨w.heap.size, 0, none⟩) N N) (List.replicate N false) := by
  unfold OwnT
  have e : (madeCells #[.bool false] N).toList = (List.replicate N false).map Value.bool := by
    rw [toList_madeCells_one]
    simp
  have := World.ownsRow_lit w (e := 4) (size := 1) (madeCells #[.bool false] N) N (Nat.le_refl _) (by unfold maxLen; omega) (by simp [madeCells])
  rw [e] at this
  rw [List.length_replicate]
  exact this
/-- the flags at the start -/
def rwF (N : List (List Int)) (A : List Int) (i : Nat) : Nat → Bool := fun k => acA N A i != acA N A k
def flgs0 (N : List (List Int)) (A : List Int) (j : Nat) : List (List Bool) := (List.range j).map fun i => tabK (N.length + 1) (N.length + 1) (rwF N A i)
theorem flgs0_snoc (N : List (List Int)) (A : List Int) (j : Nat) : flgs0 N A (j + 1) = flgs0 N A j ++ [tabK (N.length + 1) (N.length + 1) (rwF N A j)] := by
  unfold flgs0
  rw [List.range_succ, List.map_append]
  rfl
theorem flgs0_at {N : List (List Int)} {A : List Int} {i : Nat} (hi : i ≤ N.length) : (flgs0 N A (N.length + 1)).getD i [] = tabK (N.length + 1) (N.length + 1) (rwF N A i) := by
  unfold flgs0
  rw [List.getD_eq_getElem?_getD, List.getElem?_map, List.getElem?_range (by omega)]
  rfl
theorem flgs0_ok (N : List (List Int)) (A : List Int) : FlgS N A (flgs0 N A (N.length + 1)) := by
  have hf : ∀ i k, i ≤ N.length → k ≤ N.length → flg (flgs0 N A (N.length + 1)) i k = (acA N A i != acA N A k) := fun i k hi hk => by
    unfold flg
    rw [flgs0_at hi, List.getD_eq_getElem?_getD, tabK_at (Nat.le_refl _) (by omega)]
    rfl
  refine ⟨⟨by simp [flgs0], fun i hi => by rw [flgs0_at hi, tabK_len]⟩, fun i k hi hk e ha => ?_, fun i k hi hk e => ?_⟩
  · rw [hf i k hi hk] at e
    have h1 := ha []
    rw [doA_nil, doA_nil] at h1
    rw [h1] at e
    simp at e
  · rw [hf i k hi hk] at e
    simpa using e

end Go.Proofs.YtjelgphhlcecoaaGreatDoor
namespace Go.Proofs.YtjelgphhlcecoaaGreatDoor
open Go.RowKit Go.Maps Go.Sort

/-- the row that is filled -/
structure ApR (m : Nat) (w0 w : World) (v : Value) (rs : List Nat) (F : List (List Bool)) (rk : Nat) (l : List Bool) : Prop where
  ap : ApO m w0 w v rs F
  row : OwnT w w0.heap.size (rowV m rk) l
  nin : ¬ rk ∈ rs
  nv : v.ownBlock ≠ some rk
theorem ApR.keep {m : Nat} {w0 w u : World} {v : Value} {rs : List Nat} {F : List (List Bool)} {rk : Nat} {l : List Bool} (h : ApR m w0 w v rs F rk l) (hu : Below w.heap.size w u) : ApR m w0 u v rs F rk l := ⟨h.ap.keep hu, own_below h.row hu, h.nin, h.nv⟩
theorem ApR.put {m : Nat} {w0 w : World} {v : Value} {rs : List Nat} {F : List (List Bool)} {rk : Nat} {l : List Bool} (h : ApR m w0 w v rs F rk l) (k : Nat) (x : Bool) : ApR m w0 (w.setCell ⟨rk, k, none⟩ (.bool x)) v rs F rk (l.set k x) := by
  have hr := h.row.lt rk rfl
  have hl := ownT_len h.row
  refine ⟨⟨own_set h.ap.out h.nv, fun j hj => own_set (h.ap.rows j hj) (fun e => h.nin ?_), h.ap.len, h.ap.nd, h.ap.off, bl_set h.ap.low _ _ _ hr.1⟩, ?_, h.nin, h.nv⟩
  · have e1 : rs.getD j 0 = rk := by injection e
    rw [← e1, getD_el hj]
    exact List.getElem_mem hj
  · have h1 := h.row
    unfold rowV at h1 ⊢
    rw [← hl] at h1 ⊢
    exact OwnT.put (k := k) x h1
theorem ApR.cell {m : Nat} {w0 w : World} {v : Value} {rs : List Nat} {F : List (List Bool)} {rk : Nat} {l : List Bool} (h : ApR m w0 w v rs F rk l) {k : Nat} (hk : k < m) : w.cell? ⟨rk, k, none⟩ = some (.bool (l.getD k false)) ∧ w.frozen? ⟨rk, k, none⟩ = false := by
  have hl := ownT_len h.row
  have h2 : w.ownsRow w0.heap.size 4 1 (.slice (some ⟨rk, 0, none⟩) m m) m (l.map Value.bool) := by
    have h9 := h.row
    unfold OwnT rowV at h9
    rw [hl] at h9
    exact h9
  have h3 := h2.cellAt k (by omega)
  rw [List.getElem?_map, List.getElem?_eq_getElem (by omega)] at h3
  exact ⟨by rw [h3, getD_el (show k < l.length by omega)]; rfl, h2.frozenAt k⟩
set_option maxRecDepth 20000 in
set_option maxHeartbeats 8000000 in
theorem apartC (nv av : Value) (N : List (List Int)) (A : List Int) (w : World) (hD : Dfa w nv av N A) (hr : RgtA N A) :
    Calls Tryz.prog 18 #[.agg #[nv, av]] w fun z w' => ∃ v rs F, z = .returned v ∧ ApO (N.length + 1) w w' v rs F ∧ FlgS N A F ∧ DoneF N F := by
  have hf := hr.few
  obtain ⟨⟨na, nc, rfl⟩, ⟨aa, ac, rfl⟩⟩ := hD.shape
  obtain ⟨W0, hW0⟩ : ∃ W0, w.alloc (.cells #[.slice na N.length nc, .slice aa A.length ac] 25) = W0 := ⟨_, rfl⟩
  have hb0 : Hid (Below w.heap.size w W0) := by rw [← hW0]; exact hid (al' w _)
  have hz0 : Hid (W0.heap[w.heap.size]? = some (.cells #[.slice na N.length nc, .slice aa A.length ac] 25)) := by rw [← hW0]; exact hid (heap_new w _)
  obtain ⟨c0, c1, -⟩ := cells2m hz0.out
  have hD0 := hid (hD.keep hb0.out)
  have GA := hid (fun i (hi : i ≤ N.length) u (hu : Below W0.heap.size W0 u) => refAcceptC _ _ N A i u (hD0.out.keep hu) hr hi)
  have GN := hid (fun i b (hi : i ≤ N.length) (hb : b < 256) u (hu : Below W0.heap.size W0 u) => refNextC _ _ N A i b u (hD0.out.keep hu) hr hi hb)
  obtain ⟨iB, hiB, zB0, zB1, zB2⟩ := info_parts Tryz.infoBs
  have hrH := hid hr
  obtain ⟨m, hm⟩ : ∃ m : Nat, Hid (m = N.length + 1) := ⟨_, hid rfl⟩
  have hmz : (N.length : Int) + 1 = (m : Int) := by have := hm.out; omega
  have hm241 : m ≤ 241 := by have := hm.out; omega
  have hmk := run_make_row' (P := Tryz.prog) 43 4 (.bool false) 1 Tryz.underlying43 Tryz.infoBo rfl .i64 .i64 m (by omega) (by omega)
  have hbx : Hid (∀ u, Below W0.heap.size W0 u → u.cell? ⟨w.heap.size, 0, none⟩ = some (.slice na N.length nc) ∧ u.cell? ⟨w.heap.size, 1, none⟩ = some (.slice aa A.length ac)) := hid (fun u hu => by
    obtain ⟨d0, d1, -⟩ := cells2m (hs_keep hz0.out hu)
    exact ⟨d0, d1⟩)
  clear hD hr
  go_enter Tryz.func18, Tryz.ntmps18
  go_wp2
  clear hW0 c0 c1 hmz
  go_loopw [4, 5] (fun v i wr => ∃ j : Nat, j ≤ m ∧ i = .int .i64 j ∧ Hid (∃ rs, ApO m W0 wr v rs (flgs0 N A j))) (fun _ i _ => m - (intOf i).toNat)
  case atStart => exact ⟨0, by omega, rfl, hid ⟨[], ApO.nil m (Below.refl _ _)⟩⟩
  case round =>
    obtain ⟨j, hj, rfl, hOx⟩ := hrel
    obtain ⟨rs, hO⟩ := hOx.out
    have hO := hid hO
    clear hOx
    obtain ⟨va, vc, rfl⟩ := own_shape hO.out.out
    have hrsl : rs.length ≤ 241 := by
      rw [← hO.out.len]
      simp [flgs0]
      omega
    by_cases hlt : j < m
    · have hltz : (j : Int) < (m : Int) := by omega
      obtain ⟨WO, hWO⟩ : ∃ x, x = wr := ⟨_, rfl⟩
      subst hWO
      have hR0 : Hid (ApR m W0 (WO.alloc (.cells (madeCells #[.bool false] m) 4)) (.slice va rs.length vc) rs (flgs0 N A j) WO.heap.size (tabK m 0 (rwF N A j))) := hid ⟨hO.out.keep (al' WO _), by rw [tabK_zero]; exact own_base (made_bools WO m (by omega)) hO.out.low.size, fun e => by have := (hO.out.lt _ e).2; omega, fun e => by have := (hO.out.out.lt _ e).2; omega⟩
      go_wp2_with fail
      generalize WO.alloc (.cells (madeCells #[.bool false] m) 4) = W5 at hR0 ⊢
      generalize WO.heap.size = rk at hR0 ⊢
      go_loopw [7] (fun c wr => ∃ k : Nat, k ≤ m ∧ c = .int .i64 k ∧ Hid (ApR m W0 wr (.slice va rs.length vc) rs (flgs0 N A j) rk (tabK m k (rwF N A j)))) (fun c _ => m - (intOf c).toNat)
      case atStart => exact ⟨0, by omega, rfl, hR0⟩
      case round =>
        obtain ⟨k, hk, rfl, hR⟩ := hrel
        by_cases hkt : k < m
        · have hktz : (k : Int) < (m : Int) := by omega
          have hjN : j ≤ N.length := by have := hm.out; omega
          have hkN : k ≤ N.length := by have := hm.out; omega
          have hd : Below wr.heap.size wr wr.drew := (Below.refl _ _).drew
          have hRd := hid (hR.out.keep hd)
          obtain ⟨d0, d1⟩ := hbx.out wr.drew hRd.out.ap.low
          have hd := hid hd
          have Gj := hid (fun u (hu : Below wr.drew.heap.size wr.drew u) => GA.out j hjN u (bl_step hRd.out.ap.low hu))
          have Gk := hid (fun u (hu : Below wr.drew.heap.size wr.drew u) => GA.out k hkN u (bl_step hRd.out.ap.low hu))
          have hcell : Hid (∀ u, Below wr.drew.heap.size wr.drew u → (u.cell? ⟨rk, k, none⟩ = some (.bool ((tabK m k (rwF N A j)).getD k false)) ∧ u.frozen? ⟨rk, k, none⟩ = false) ∧ u.cell? ⟨w.heap.size, 0, none⟩ = some (.slice na N.length nc) ∧ u.cell? ⟨w.heap.size, 1, none⟩ = some (.slice aa A.length ac)) := hid (fun u hu => ⟨(hRd.out.keep hu).cell hkt, hbx.out u (bl_step hRd.out.ap.low hu)⟩)
          have hput : Hid (∀ u, Below wr.drew.heap.size wr.drew u → ApR m W0 (u.setCell ⟨rk, k, none⟩ (.bool (acA N A j != acA N A k))) (.slice va rs.length vc) rs (flgs0 N A j) rk (tabK m (k + 1) (rwF N A j))) := hid (fun u hu => by
            rw [← tabK_step]
            exact (hRd.out.keep hu).put k _)
          generalize acA N A j = aj at *
          generalize acA N A k = ak at *
          obtain ⟨p0, p1⟩ := (hcell.out wr.drew (Below.refl _ _)).1
          go_wp2_with fail
          apply collapse
          case h =>
            intro rest
            go_region_law ((first
              | (refine step_call (by rfl) 29 #[.agg #[.slice na N.length nc, .slice aa A.length ac], .int .i64 (j : Int)] (by go_simp) (Gj.out wr.drew (Below.refl _ _)) ?_; rintro z w1 ⟨rfl, hb1⟩; refine ⟨_, rfl, ?_⟩; have hb1 := hid hb1; obtain ⟨⟨q0, q1⟩, q2, q3⟩ := hcell.out w1 hb1.out)
              | (refine step_call (by rfl) 29 #[.agg #[.slice na N.length nc, .slice aa A.length ac], .int .i64 (k : Int)] (by go_simp) (Gk.out wr.drew (Below.refl _ _)) ?_; rintro z w1 ⟨rfl, hb1⟩; refine ⟨_, rfl, ?_⟩; have hb1 := hid hb1; obtain ⟨⟨q0, q1⟩, q2, q3⟩ := hcell.out w1 hb1.out)
              | (refine step_call (by rfl) 29 #[.agg #[.slice na N.length nc, .slice aa A.length ac], .int .i64 (k : Int)] (by go_simp) (Gk.out w1 hb1.out) ?_; rintro z w2 ⟨rfl, hb2⟩; refine ⟨_, rfl, ?_⟩; have hb2 := hid (bl_step hb1.out hb2); obtain ⟨⟨r0, r1⟩, r2, r3⟩ := hcell.out w2 hb2.out)
              | (refine step_call (by rfl) 29 #[.agg #[.slice na N.length nc, .slice aa A.length ac], .int .i64 (j : Int)] (by go_simp) (Gj.out w1 hb1.out) ?_; rintro z w2 ⟨rfl, hb2⟩; refine ⟨_, rfl, ?_⟩; have hb2 := hid (bl_step hb1.out hb2); obtain ⟨⟨r0, r1⟩, r2, r3⟩ := hcell.out w2 hb2.out)))
            all_goals
              have hall : Hid (ApR m W0 (w2.setCell ⟨rk, k, none⟩ (.bool (aj != ak))) (.slice va rs.length vc) rs (flgs0 N A j) rk (tabK m (k + 1) (rwF N A j))) := hid (hput.out w2 hb2.out)
              generalize w2.setCell ⟨rk, k, none⟩ (.bool (aj != ak)) = Wn at hall ⊢
              revert hall
              revert Wn
              exact rest.out
          case pf =>
            intro Wn hall
            go_wp2
            go_roundw
            case rel => exact ⟨k + 1, by omega, by go_num, hall⟩
            case measure => simp [intOf]; omega
        · have hktz : ¬ (k : Int) < (m : Int) := by omega
          obtain rfl : k = m := by omega
          have hR6 := hid (hR.out.keep (al' wr (.cells #[rowV k rk] 43)))
          have hsn : Hid (flgs0 N A (j + 1) = flgs0 N A j ++ [tabK k k (rwF N A j)]) := hid (by rw [flgs0_snoc, hm.out])
          go_wp2_with (at_builtin; refine wpList_append_lies _ (by rfl) _ _ _ (by rfl) W0.heap.size 43 iB (.slice none 0 0) 1 24 Tryz.underlying41 hiB zB0 zB1 zB2 rfl (by decide) (.slice va rs.length vc) rs.length (rs.map (rowV k)) (by rfl) hR6.out.ap.out ⟨wr.heap.size, 0, none⟩ 1 1 [rowV k rk] (by rfl) (by rfl) (World.news_of_block (heap_new wr (.cells #[rowV k rk] 43))) (by simp [Value.oneCell', rowV]) (by omega) (by (unfold maxLen); omega) (by omega) hR6.out.ap.low.size (wr.alloc (.cells #[rowV k rk] 43)).heap.size rfl ?_; intro g7 c7 w7 hown7 hgrow7 hat7 hlt7; have hP7 := hid (hR6.out.ap.push hR6.out.row hR6.out.nin hR6.out.nv hown7 hgrow7 hat7))
          go_roundw
          case rel => exact ⟨j + 1, by omega, by go_num, hid ⟨_, by rw [hsn.out]; exact hP7.out⟩⟩
          case measure => simp [intOf]; omega
    · have hltz : ¬ (j : Int) < (m : Int) := by omega
      obtain rfl : j = m := by omega
      have hF0 : Hid (FlgS N A (flgs0 N A j)) := by rw [hm.out]; exact hid (flgs0_ok N A)
      have hrs : rs.length = j := by rw [← hO.out.len]; simp [flgs0]
      obtain ⟨g, gc, hve, -, -, -⟩ := hO.out.at (i := 0) (k := 0) (by have := hm.out; omega) (by have := hm.out; omega)
      injection hve with hva _ hvc
      subst hva hvc
      have hrsH := hid hrs
      rw [hrs] at hO ⊢
      clear hrs hrsl
      generalize flgs0 N A j = F0 at hO hF0
      have hmN : Hid (N.length < j) := hid (by have := hm.out; omega)
      go_wp2_with fail
      go_loopg [8] (cntF F0 + 2) (fun gk mo wr => ∃ (b : Bool) (F : List (List Bool)), mo = .bool b ∧ Hid (ApO j W0 wr (.slice (some ⟨g, 0, none⟩) j vc) rs F ∧ FlgS N A F) ∧ Hid (b = false → DoneF N F) ∧ Hid (cntF F + (if b then 1 else 0) ≤ gk))
      case atStart => exact ⟨true, F0, rfl, hid ⟨hO.out, hF0.out⟩, hid (fun e => by cases e), hid (by simp)⟩
      case round =>
        obtain ⟨b, F, rfl, hP, hdn, hc⟩ := hrel
        cases b with
        | false =>
          have hdone := hid (hdn.out rfl)
          clear hdn
          go_wp2
          go_ret
          have hfin : Hid (ApO (N.length + 1) w wr (.slice (some ⟨g, 0, none⟩) j vc) rs F) := hid (by rw [← hm.out]; exact hP.out.1.rebase hb0.out)
          first | exact ⟨_, rfl, rs, F, hfin.out, hP.out.2, hdone.out⟩ | exact ⟨_, rs, F, rfl, hfin.out, hP.out.2, hdone.out⟩
        | true =>
          obtain ⟨WP, hWP⟩ : ∃ x, x = wr := ⟨_, rfl⟩
          subst hWP
          go_wp2_with fail
          go_loopw [8, 9] (fun mo iv wr => ∃ (b : Bool) (F' : List (List Bool)) (i : Nat), i ≤ j ∧ mo = .bool b ∧ iv = .int .i64 i ∧ Hid (ApO j W0 wr (.slice (some ⟨g, 0, none⟩) j vc) rs F' ∧ FlgS N A F') ∧ Hid (b = false → PassF N F' i 0) ∧ Hid (cntF F' + (if b then 1 else 0) ≤ cntF F)) (fun _ iv _ => j - (intOf iv).toNat)
          case atStart => exact ⟨false, F, 0, by omega, rfl, rfl, hP, hid (fun _ => pass_start N F), hid (by simp)⟩
          case round =>
            obtain ⟨b, F1, i, hi, rfl, rfl, hP1, hps, hc1⟩ := hrel
            by_cases hij : i < j
            · have hijz : (i : Int) < (j : Int) := by omega
              obtain ⟨WI, hWI⟩ : ∃ x, x = wr := ⟨_, rfl⟩
              subst hWI
              have hiN : Hid (i ≤ N.length) := hid (by have := hm.out; omega)
              have hirs : Hid (i < rs.length) := hid (by have := hrsH.out; omega)
              go_wp2_with fail
              go_loopw [8, 10] (fun mo kv wr => ∃ (b : Bool) (F' : List (List Bool)) (k : Nat), k ≤ j ∧ mo = .bool b ∧ kv = .int .i64 k ∧ Hid (ApO j W0 wr (.slice (some ⟨g, 0, none⟩) j vc) rs F' ∧ FlgS N A F') ∧ Hid (b = false → PassF N F' i k) ∧ Hid (cntF F' + (if b then 1 else 0) ≤ cntF F)) (fun _ kv _ => j - (intOf kv).toNat)
              case atStart => exact ⟨b, F1, 0, by omega, rfl, rfl, hP1, hps, hc1⟩
              case round =>
                obtain ⟨b, F2, k, hk, rfl, rfl, hP2, hps2, hc2⟩ := hrel
                by_cases hkj : k < j
                · have hkjz : (k : Int) < (j : Int) := by omega
                  have hkN : Hid (k ≤ N.length) := hid (by have := hm.out; omega)
                  obtain ⟨WK, hWK⟩ : ∃ x, x = wr := ⟨_, rfl⟩
                  subst hWK
                  go_wp2_with fail
                  go_loopw [8, 11] (fun mo cv wr => ∃ (b : Bool) (F' : List (List Bool)) (c : Nat), c ≤ 256 ∧ mo = .bool b ∧ cv = .int .i64 c ∧ Hid (ApO j W0 wr (.slice (some ⟨g, 0, none⟩) j vc) rs F' ∧ FlgS N A F') ∧ Hid (b = false → PassF N F' i k ∧ (flg F' i k = false → ∀ x, x < c → flg F' (nxA N i x) (nxA N k x) = false)) ∧ Hid (cntF F' + (if b then 1 else 0) ≤ cntF F)) (fun _ cv _ => 256 - (intOf cv).toNat)
                  case atStart => exact ⟨b, F2, 0, by omega, rfl, rfl, hP2, hid (fun e => ⟨hps2.out e, fun _ x hx => absurd hx (Nat.not_lt_zero _)⟩), hc2⟩
                  case round =>
                    obtain ⟨b, F3, c, hc256, rfl, rfl, hP3, hps3, hc3⟩ := hrel
                    obtain ⟨a0, a1, a2⟩ := hP3.out.1.cells hirs.out hkj
                    obtain ⟨ri, hri⟩ : ∃ ri, Hid (rs.getD i 0 = ri) := ⟨_, hid rfl⟩
                    rw [hri.out] at a0 a1 a2
                    by_cases hc : c < 256
                    · have hcz : (c : Int) < 256 := by omega
                      cases hfl : flg F3 i k with
                      | true =>
                        rw [hfl] at a1
                        have hnx : Hid (b = false → PassF N F3 i (k + 1)) := hid (fun e => pass_next (hps3.out e).1 (fun e2 => by rw [hfl] at e2; cases e2))
                        clear hfl
                        go_wp2
                        go_roundw
                        case rel => exact ⟨b, F3, k + 1, by omega, rfl, by go_num, hP3, hnx, hc3⟩
                        case measure => simp [intOf]; omega
                      | false =>
                        rw [hfl] at a1
                        have hni : Hid (nxA N i c < rs.length ∧ nxA N i c ≤ N.length) := hid (by have := nxA_le hrH.out.rgt i hc; have := hrsH.out; have := hmN.out; omega)
                        have hnk : Hid (nxA N k c < j ∧ nxA N k c ≤ N.length) := hid (by have := nxA_le hrH.out.rgt k hc; have := hmN.out; omega)
                        obtain ⟨e0, e1, -⟩ := hP3.out.1.cells hni.out.1 hnk.out.1
                        obtain ⟨d0, d1⟩ := hbx.out wr hP3.out.1.low
                        obtain ⟨rn, hrn⟩ : ∃ rn, Hid (rs.getD (nxA N i c) 0 = rn) := ⟨_, hid rfl⟩
                        rw [hrn.out] at e0 e1
                        obtain ⟨fb, hfb⟩ : ∃ fb, Hid (flg F3 (nxA N i c) (nxA N k c) = fb) := ⟨_, hid rfl⟩
                        rw [hfb.out] at e1
                        have hset : Hid (fb = true → FlgS N A (setG F3 i k) ∧ cntF (setG F3 i k) + 1 = cntF F3) := hid (fun e => by
                          have hl : i < F3.length := by rw [hP3.out.2.sq.len]; have := hiN.out; omega
                          have hl2 : k < (F3.getD i []).length := by rw [hP3.out.2.sq.row i hiN.out]; have := hkN.out; omega
                          exact ⟨hP3.out.2.set hiN.out hkN.out hc hrH.out.rgt (by rw [hfb.out]; exact e), cnt_set hl hl2 hfl⟩)
                        have hkeep : Hid (fb = false → b = false → PassF N F3 i k ∧ (flg F3 i k = false → ∀ x, x < c + 1 → flg F3 (nxA N i x) (nxA N k x) = false)) := hid (fun e eb => ⟨(hps3.out eb).1, fun e2 x hx => by
                          rcases Nat.lt_or_ge x c with h9 | h9
                          · exact (hps3.out eb).2 e2 x h9
                          · obtain rfl : x = c := by omega
                            rw [hfb.out]; exact e⟩)
                        have hnxt : Hid (b = false → PassF N F3 i k) := hid (fun e => (hps3.out e).1)
                        have hniz : ((nxA N i c : Nat) : Int) < (j : Int) := by have := hni.out.2; have := hmN.out; omega
                        have hnkz : ((nxA N k c : Nat) : Int) < (j : Int) := by have := hnk.out.1; omega
                        have cI : Hid (∀ d os, Calls Tryz.prog 23 #[.agg #[.slice na N.length nc, .slice aa A.length ac], .int .i64 (i : Int), .int .i64 (c : Int)] (grow (redrawn wr d) os) fun e w'' => e = .returned (.int .i64 ((nxA N i c : Nat) : Int)) ∧ ∃ p : Regrown, w'' = grow (redrawn wr p.d) p.os) := hid (fun d os => Calls.regrown_of (GN.out i c hiN.out hc _ (bl_step hP3.out.1.low (below_regrown wr d os))))
                        have cK : Hid (∀ d os, Calls Tryz.prog 23 #[.agg #[.slice na N.length nc, .slice aa A.length ac], .int .i64 (k : Int), .int .i64 (c : Int)] (grow (redrawn wr d) os) fun e w'' => e = .returned (.int .i64 ((nxA N k c : Nat) : Int)) ∧ ∃ p : Regrown, w'' = grow (redrawn wr p.d) p.os) := hid (fun d os => Calls.regrown_of (GN.out k c hkN.out hc _ (bl_step hP3.out.1.low (below_regrown wr d os))))
                        clear hfl
                        generalize nxA N i c = ni at *
                        generalize nxA N k c = nk at *
                        have k0 := cell_regrown d0
                        have k1 := cell_regrown d1
                        have k2 := cell_regrown e0
                        have k3 := cell_regrown e1
                        go_wp2_with fail
                        refine wp_region_quiet_below (by kernel_rfl) (by kernel_rfl) ?_
                        iterate 5 (first | go_big_quiet_step (exact cI.out _ _) | quiet_step (exact cI.out _ _))
                        repeat (first | go_big_quiet_step (exact cK.out _ _) | quiet_step (exact cK.out _ _))
                        refine wpQuiet_nil ?_
                        intro _ hw'
                        obtain ⟨⟨dq, osq⟩, hw''⟩ := hw'
                        subst hw''
                        have hU := hid (below_regrown wr dq osq)
                        have hPU := hid (hP3.out.1.keep hU.out)
                        clear k0 k1 k2 k3 d0 d1 e0 e1 a0 a1 a2 cI cK
                        generalize grow (redrawn wr dq) osq = U at hU hPU ⊢
                        obtain ⟨a0, a1, a2⟩ := hPU.out.cells hirs.out hkj
                        have hput := hid (hPU.out.put hirs.out k)
                        rw [hri.out] at a0 a1 a2 hput
                        cases fb with
                        | false =>
                          have hk2 := hid (hkeep.out rfl)
                          clear hkeep hset
                          go_wp2
                          go_roundw
                          case rel => exact ⟨b, F3, c + 1, by omega, rfl, by go_num, hid ⟨hPU.out, hP3.out.2⟩, hk2, hc3⟩
                          case measure => simp [intOf]; omega
                        | true =>
                          obtain ⟨hs1, hs2⟩ := hset.out rfl
                          have hs1 := hid hs1
                          have hcn : Hid (cntF (setG F3 i k) + (if true = true then 1 else 0) ≤ cntF F) := hid (by have h9 := hc3.out; simp only [if_true]; omega)
                          clear hkeep hset hs2
                          go_wp2
                          go_roundw
                          case rel => exact ⟨true, setG F3 i k, c + 1, by omega, rfl, by go_num, hid ⟨hput.out, hs1.out⟩, hid (fun e => by cases e), hcn⟩
                          case measure => simp [intOf]; omega
                    · have hcz : ¬ (c : Int) < 256 := by omega
                      obtain rfl : c = 256 := by omega
                      have hnx : Hid (b = false → PassF N F3 i (k + 1)) := hid (fun e => pass_next (hps3.out e).1 (hps3.out e).2)
                      go_wp2
                      go_roundw
                      case rel => exact ⟨b, F3, k + 1, by omega, rfl, by go_num, hP3, hnx, hc3⟩
                      case measure => simp [intOf]; omega
                · have hkjz : ¬ (k : Int) < (j : Int) := by omega
                  obtain rfl : k = j := by omega
                  have hnx : Hid (b = false → PassF N F2 (i + 1) 0) := hid (fun e => pass_row hmN.out (hps2.out e))
                  go_wp2
                  go_roundw
                  case rel => exact ⟨b, F2, i + 1, by omega, rfl, by go_num, hP2, hnx, hc2⟩
                  case measure => simp [intOf]; omega
            · have hijz : ¬ (i : Int) < (j : Int) := by omega
              obtain rfl : i = j := by omega
              have hdn2 : Hid (b = false → DoneF N F1) := hid (fun e => pass_end hmN.out (hps.out e))
              go_wp2
              go_roundg (cntF F1 + (if b then 1 else 0))
              case measure => have h8 := hc.out; have h9 := hc1.out; simp only [if_true] at h8; omega
              case rel => exact ⟨b, F1, rfl, hP1, hdn2, hid (Nat.le_refl _)⟩

end Go.Proofs.YtjelgphhlcecoaaGreatDoor
