/- topiaryref09.Apart: flags of pairs, as lists. topiaryref09.Apart: flags of pairs, in memory: a row a state, each in a block of its own. topiaryref09.Apart. -/
import Derived.Test.YtjelgphhlcecoaaGreatDoorJ31
import Derived.Test.YtjelgphhlcecoaaGreatDoorJ6
import Derived.Deep.LoopGhost
import Derived.Lib.QuietBelow
import Derived.BigQuiet
namespace Go.Proofs.YtjelgphhlcecoaaGreatDoor
open Go.RowKit Go.Maps

/-- a flag of a pair -/
def flg (F : List (List Bool)) (i k : Nat) : Bool := (F.getD i []).getD k false
def setG (F : List (List Bool)) (i k : Nat) : List (List Bool) := F.set i ((F.getD i []).set k true)
theorem flg_set {F : List (List Bool)} {i k : Nat} (hi : i < F.length) (hk : k < (F.getD i []).length) (i' k' : Nat) : flg (setG F i k) i' k' = if i' = i ∧ k' = k then true else flg F i' k' := by
  unfold flg setG
  by_cases e : i' = i
  · subst e
    have e1 : (F.set i' ((F.getD i' []).set k true)).getD i' [] = (F.getD i' []).set k true := by
      rw [List.getD_eq_getElem?_getD, List.getElem?_set_self hi]
      rfl
    rw [e1]
    by_cases e2 : k' = k
    · subst e2
      rw [if_pos ⟨rfl, rfl⟩, List.getD_eq_getElem?_getD, List.getElem?_set_self hk]
      rfl
    · rw [if_neg (fun h => e2 h.2), List.getD_eq_getElem?_getD, List.getElem?_set_ne (fun h => e2 h.symm), ← List.getD_eq_getElem?_getD]
  · have e1 : (F.set i ((F.getD i []).set k true)).getD i' [] = F.getD i' [] := by
      rw [List.getD_eq_getElem?_getD, List.getElem?_set_ne (fun h => e h.symm), ← List.getD_eq_getElem?_getD]
    rw [if_neg (fun h => e h.1), e1]
/-- flags of n + 1 by n + 1 -/
structure SqF (n : Nat) (F : List (List Bool)) : Prop where
  len : F.length = n + 1
  row : ∀ i, i ≤ n → (F.getD i []).length = n + 1
theorem SqF.set {n : Nat} {F : List (List Bool)} (h : SqF n F) (i k : Nat) : SqF n (setG F i k) := by
  refine ⟨by unfold setG; rw [List.length_set]; exact h.len, fun j hj => ?_⟩
  unfold setG
  by_cases e : j = i
  · subst e
    rw [List.getD_eq_getElem?_getD, List.getElem?_set_self (by rw [h.len]; omega)]
    simp only [Option.getD_some, List.length_set]
    exact h.row j hj
  · rw [List.getD_eq_getElem?_getD, List.getElem?_set_ne (fun h => e h.symm), ← List.getD_eq_getElem?_getD]
    exact h.row j hj
/-- flags that are set tell states apart; those of other numbers are set -/
structure FlgS (N : List (List Int)) (A : List Int) (F : List (List Bool)) : Prop where
  sq : SqF N.length F
  sound : ∀ i k, i ≤ N.length → k ≤ N.length → flg F i k = true → ¬ Alk N A i k
  base : ∀ i k, i ≤ N.length → k ≤ N.length → flg F i k = false → acA N A i = acA N A k
theorem FlgS.set {N : List (List Int)} {A : List Int} {F : List (List Bool)} (h : FlgS N A F) {i k b : Nat} (hi : i ≤ N.length) (hk : k ≤ N.length) (hb : b < 256) (hr : RgtN N) (hf : flg F (nxA N i b) (nxA N k b) = true) : FlgS N A (setG F i k) := by
  have hl : i < F.length := by rw [h.sq.len]; omega
  have hl2 : k < (F.getD i []).length := by rw [h.sq.row i hi]; omega
  refine ⟨h.sq.set i k, fun i' k' hi' hk' e => ?_, fun i' k' hi' hk' e => ?_⟩
  · rw [flg_set hl hl2] at e
    by_cases e1 : i' = i ∧ k' = k
    · obtain ⟨rfl, rfl⟩ := e1
      exact fun ha => h.sound _ _ (nxA_le hr _ hb) (nxA_le hr _ hb) hf (ha.next hb)
    · rw [if_neg e1] at e
      exact h.sound i' k' hi' hk' e
  · rw [flg_set hl hl2] at e
    by_cases e1 : i' = i ∧ k' = k
    · rw [if_pos e1] at e; cases e
    · rw [if_neg e1] at e
      exact h.base i' k' hi' hk' e
/-- a pass that sets none: none is missing -/
def DoneF (N : List (List Int)) (F : List (List Bool)) : Prop := ∀ i k, i ≤ N.length → k ≤ N.length → flg F i k = false → ∀ b, b < 256 → flg F (nxA N i b) (nxA N k b) = false
theorem FlgS.done {N : List (List Int)} {A : List Int} {F : List (List Bool)} (h : FlgS N A F) (hr : RgtN N) (hd : DoneF N F) : ∀ i k, i ≤ N.length → k ≤ N.length → (flg F i k = false ↔ Alk N A i k) := fun i k hi hk => by
  constructor
  · intro e
    have key : ∀ (s : Txt) i k, i ≤ N.length → k ≤ N.length → flg F i k = false → doA N A i s = doA N A k s := by
      intro s
      induction s with
      | nil => intro i k hi hk e; exact h.base i k hi hk e
      | cons c s ih =>
        intro i k hi hk e
        rw [doA_cons, doA_cons]
        exact ih _ _ (nxA_le hr _ c.toNat_lt) (nxA_le hr _ c.toNat_lt) (hd i k hi hk e _ c.toNat_lt)
    exact fun s => key s i k hi hk e
  · intro ha
    cases e : flg F i k with
    | false => rfl
    | true => exact absurd ha (h.sound i k hi hk e)
end Go.Proofs.YtjelgphhlcecoaaGreatDoor
namespace Go.Proofs.YtjelgphhlcecoaaGreatDoor
open Go.RowKit Go.Maps

def rowV (m r : Nat) : Value := .slice (some ⟨r, 0, none⟩) m m
structure ApO (m : Nat) (w0 w : World) (v : Value) (rs : List Nat) (F : List (List Bool)) : Prop where
  out : w.ownsRow w0.heap.size 43 1 v rs.length (rs.map (rowV m))
  rows : ∀ j, j < rs.length → OwnT w w0.heap.size (rowV m (rs.getD j 0)) (F.getD j [])
  len : F.length = rs.length
  nd : rs.Nodup
  off : ∀ k, v.ownBlock = some k → ¬ k ∈ rs
  low : Below w0.heap.size w0 w
theorem ownT_len {w : World} {B m r : Nat} {l : List Bool} (h : OwnT w B (rowV m r) l) : l.length = m := by
  obtain ⟨a, c, e⟩ := own_shape h
  unfold rowV at e
  injection e with _ e _
  exact e.symm
theorem ApO.keep {m : Nat} {w0 w u : World} {v : Value} {rs : List Nat} {F : List (List Bool)} (h : ApO m w0 w v rs F) (hu : Below w.heap.size w u) : ApO m w0 u v rs F :=
  ⟨own_below h.out hu, fun j hj => own_below (h.rows j hj) hu, h.len, h.nd, h.off, bl_step h.low hu⟩
theorem ApO.lt {m : Nat} {w0 w : World} {v : Value} {rs : List Nat} {F : List (List Bool)} (h : ApO m w0 w v rs F) : ∀ r ∈ rs, w0.heap.size ≤ r ∧ r < w.heap.size := fun r hr => by
  obtain ⟨j, hj, rfl⟩ := List.getElem_of_mem hr
  have h1 := (h.rows j hj).lt (rs.getD j 0) rfl
  rw [getD_el hj] at h1
  exact h1
theorem ApO.nil (m : Nat) {w0 w : World} (h : Below w0.heap.size w0 w) : ApO m w0 w (.slice none 0 0) [] [] := ⟨World.ownsRow_nil _ _ _ _, fun j hj => absurd hj (Nat.not_lt_zero _), rfl, List.nodup_nil, fun k e => (by cases e), h⟩
theorem ApO.push {m : Nat} {w0 w w' : World} {v : Value} {rs : List Nat} {F : List (List Bool)} (h : ApO m w0 w v rs F) {r : Nat} {l : List Bool} (hr : OwnT w w0.heap.size (rowV m r) l) (hn : ¬ r ∈ rs) (hv : v.ownBlock ≠ some r) {g cap : Nat}
    (ho : w'.ownsRow w0.heap.size 43 1 (.slice (some ⟨g, 0, none⟩) (rs.length + 1) cap) (rs.length + 1) (rs.map (rowV m) ++ [rowV m r])) (hg : w.grownBy w' v.ownBlock) (hat : v.ownBlock = some g ∨ g = w.heap.size) :
    ApO m w0 w' (.slice (some ⟨g, 0, none⟩) (rs.length + 1) cap) (rs ++ [r]) (F ++ [l]) := by
  have hk := Kept.of_grown hg
  have hrl := hr.lt r rfl
  refine ⟨by rw [List.length_append, List.map_append]; exact ho, fun j hj => ?_, by rw [List.length_append, List.length_append, h.len]; rfl, ?_, fun k e => ?_, h.low.trans (hk.below (fun k e => (h.out.lt k e).1) h.low.size)⟩
  · rw [List.length_append, List.length_singleton] at hj
    rcases Nat.lt_or_ge j rs.length with hl | hl
    · rw [getD_left' hl, getD_left' (by rw [h.len]; exact hl)]
      refine own_kept (h.rows j hl) hk (fun k e e' => h.off k e' ?_)
      have e1 : rs.getD j 0 = k := by injection e
      rw [← e1, getD_el hl]
      exact List.getElem_mem hl
    · have e1 : j = rs.length := by omega
      rw [getD_at' e1, getD_at' (by rw [h.len]; exact e1)]
      exact own_kept hr hk (fun k e e' => hv (by have e2 : r = k := (by injection e); rw [e2]; exact e'))
  · rw [List.nodup_append]
    refine ⟨h.nd, by simp, fun a ha b hb => ?_⟩
    have : b = r := by simpa using hb
    subst this
    exact fun e => hn (e ▸ ha)
  · have e1 : g = k := by injection e
    subst e1
    rw [List.mem_append, List.mem_singleton]
    rintro (h1 | h1)
    · rcases hat with h2 | h2
      · exact h.off g h2 h1
      · have := (h.lt g h1).2; omega
    · rcases hat with h2 | h2
      · exact hv (by rw [h2, h1])
      · omega
theorem ApO.put {m : Nat} {w0 w : World} {v : Value} {rs : List Nat} {F : List (List Bool)} (h : ApO m w0 w v rs F) {i : Nat} (hi : i < rs.length) (k : Nat) : ApO m w0 (w.setCell ⟨rs.getD i 0, k, none⟩ (.bool true)) v rs (setG F i k) := by
  have hm : rs.getD i 0 ∈ rs := by rw [getD_el hi]; exact List.getElem_mem hi
  have hlen := ownT_len (h.rows i hi)
  refine ⟨own_set h.out (fun e => h.off _ e hm), fun j hj => ?_, by unfold setG; rw [List.length_set]; exact h.len, h.nd, h.off, ?_⟩
  · unfold setG
    by_cases e : j = i
    · subst e
      have e1 : (F.set j ((F.getD j []).set k true)).getD j [] = (F.getD j []).set k true := by
        rw [List.getD_eq_getElem?_getD, List.getElem?_set_self (by rw [h.len]; exact hi)]
        rfl
      rw [e1]
      have h1 := h.rows j hi
      unfold rowV at h1 ⊢
      rw [← hlen] at h1 ⊢
      exact OwnT.put (k := k) true h1
    · have e1 : (F.set i ((F.getD i []).set k true)).getD j [] = F.getD j [] := by
        rw [List.getD_eq_getElem?_getD, List.getElem?_set_ne (fun h => e h.symm), ← List.getD_eq_getElem?_getD]
      rw [e1]
      refine own_set (h.rows j hj) (fun e' => e ?_)
      have e1 : rs.getD j 0 = rs.getD i 0 := by injection e'
      rw [getD_el hj, getD_el hi] at e1
      exact (List.getElem?_inj hj h.nd).1 (by rw [List.getElem?_eq_getElem hj, List.getElem?_eq_getElem hi, e1])
  · have hr := h.lt _ hm
    exact bl_set h.low _ _ _ hr.1
theorem ApO.at {m : Nat} {w0 w : World} {v : Value} {rs : List Nat} {F : List (List Bool)} (h : ApO m w0 w v rs F) {i k : Nat} (hi : i < rs.length) (hk : k < m) : ∃ g c, v = .slice (some ⟨g, 0, none⟩) rs.length c ∧ w.cell? ⟨g, i, none⟩ = some (rowV m (rs.getD i 0)) ∧ w.cell? ⟨rs.getD i 0, k, none⟩ = some (.bool (flg F i k)) ∧ w.frozen? ⟨rs.getD i 0, k, none⟩ = false := by
  have hlen := ownT_len (h.rows i hi)
  obtain ⟨g, c, e, _⟩ := own_form h.out (by omega)
  have ho := h.out
  rw [e] at ho
  have h1 := ho.cellAt i (by omega)
  rw [List.getElem?_map, List.getElem?_eq_getElem hi] at h1
  have h2 : w.ownsRow w0.heap.size 4 1 (.slice (some ⟨rs.getD i 0, 0, none⟩) m m) m ((F.getD i []).map Value.bool) := by
    have h9 := h.rows i hi
    unfold OwnT rowV at h9
    rw [hlen] at h9
    exact h9
  have h3 := h2.cellAt k (by omega)
  rw [List.getElem?_map, List.getElem?_eq_getElem (by omega)] at h3
  refine ⟨g, c, e, by rw [h1, getD_el hi]; rfl, by rw [h3]; unfold flg; rw [getD_el (show k < (F.getD i []).length by omega)]; rfl, h2.frozenAt k⟩
theorem ApO.cells {m : Nat} {w0 w : World} {g n c : Nat} {rs : List Nat} {F : List (List Bool)} (h : ApO m w0 w (.slice (some ⟨g, 0, none⟩) n c) rs F) {i k : Nat} (hi : i < rs.length) (hk : k < m) : w.cell? ⟨g, i, none⟩ = some (.slice (some ⟨rs.getD i 0, 0, none⟩) m m) ∧ w.cell? ⟨rs.getD i 0, k, none⟩ = some (.bool (flg F i k)) ∧ w.frozen? ⟨rs.getD i 0, k, none⟩ = false := by
  obtain ⟨g', c', e, h1, h2, h3⟩ := h.at hi hk
  injection e with e1 e2 e3
  injection e1 with e1
  injection e1 with e1
  subst e1
  exact ⟨h1, h2, h3⟩
set_option maxRecDepth 20000 in
theorem Tryz.infoBo : (Tryz.prog.info? 4).map (fun i => (i.zero, i.size, i.bytes)) = some (some (.bool false), 1, 1) := by kernel_rfl
theorem made_bools (w : World) (N : Nat) (hN : N ≤ 100000) : OwnT (w.alloc (.cells (madeCells #[.bool false] N) 4)) w.heap.size (.slice (some ⟨w.heap.size, 0, none⟩) N N) (List.replicate N false) := by
  unfold OwnT
  have e : (madeCells #[.bool false] N).toList = (List.replicate N false).map Value.bool := by
    rw [toList_madeCells_one]
    simp
  have := World.ownsRow_lit w (e := 4) (size := 1) (madeCells #[.bool false] N) N (Nat.le_refl _) (by unfold maxLen; omega) (by simp [madeCells])
  rw [e] at this
  rw [List.length_replicate]
  exact this
end Go.Proofs.YtjelgphhlcecoaaGreatDoor
namespace Go.Proofs.YtjelgphhlcecoaaGreatDoor
open Go.RowKit Go.Maps Go.Sort

/-- the row that is filled -/
structure ApR (m : Nat) (w0 w : World) (v : Value) (rs : List Nat) (F : List (List Bool)) (rk : Nat) (l : List Bool) : Prop where
  ap : ApO m w0 w v rs F
  row : OwnT w w0.heap.size (rowV m rk) l
  nin : ¬ rk ∈ rs
  nv : v.ownBlock ≠ some rk
theorem ApR.keep {m : Nat} {w0 w u : World} {v : Value} {rs : List Nat} {F : List (List Bool)} {rk : Nat} {l : List Bool} (h : ApR m w0 w v rs F rk l) (hu : Below w.heap.size w u) : ApR m w0 u v rs F rk l := ⟨h.ap.keep hu, own_below h.row hu, h.nin, h.nv⟩
theorem ApR.put {m : Nat} {w0 w : World} {v : Value} {rs : List Nat} {F : List (List Bool)} {rk : Nat} {l : List Bool} (h : ApR m w0 w v rs F rk l) (k : Nat) (x : Bool) : ApR m w0 (w.setCell ⟨rk, k, none⟩ (.bool x)) v rs F rk (l.set k x) := by
  have hr := h.row.lt rk rfl
  have hl := ownT_len h.row
  refine ⟨⟨own_set h.ap.out h.nv, fun j hj => own_set (h.ap.rows j hj) (fun e => h.nin ?_), h.ap.len, h.ap.nd, h.ap.off, bl_set h.ap.low _ _ _ hr.1⟩, ?_, h.nin, h.nv⟩
  · have e1 : rs.getD j 0 = rk := by injection e
    rw [← e1, getD_el hj]
    exact List.getElem_mem hj
  · have h1 := h.row
    unfold rowV at h1 ⊢
    rw [← hl] at h1 ⊢
    exact OwnT.put (k := k) x h1
theorem ApR.cell {m : Nat} {w0 w : World} {v : Value} {rs : List Nat} {F : List (List Bool)} {rk : Nat} {l : List Bool} (h : ApR m w0 w v rs F rk l) {k : Nat} (hk : k < m) : w.cell? ⟨rk, k, none⟩ = some (.bool (l.getD k false)) ∧ w.frozen? ⟨rk, k, none⟩ = false := by
  have hl := ownT_len h.row
  have h2 : w.ownsRow w0.heap.size 4 1 (.slice (some ⟨rk, 0, none⟩) m m) m (l.map Value.bool) := by
    have h9 := h.row
    unfold OwnT rowV at h9
    rw [hl] at h9
    exact h9
  have h3 := h2.cellAt k (by omega)
  rw [List.getElem?_map, List.getElem?_eq_getElem (by omega)] at h3
  exact ⟨by rw [h3, getD_el (show k < l.length by omega)]; rfl, h2.frozenAt k⟩
end Go.Proofs.YtjelgphhlcecoaaGreatDoor
