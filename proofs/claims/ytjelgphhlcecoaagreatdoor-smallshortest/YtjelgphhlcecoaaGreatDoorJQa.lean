/- The maths of Alike: pairs of states that the same text leads to. small.Alike$1: a pair is met. small.Alike$1: the call. Alike's memory at its start; how many pairs there are. -/
import Derived.Test.YtjelgphhlcecoaaGreatDoorJ15
import Derived.Test.YtjelgphhlcecoaaGreatDoorJSp
import Derived.Deep.AppendLies
namespace Go.Proofs.YtjelgphhlcecoaaGreatDoor

end Go.Proofs.YtjelgphhlcecoaaGreatDoor
namespace Go.Proofs.YtjelgphhlcecoaaGreatDoor
open Go.RowKit Go.Maps

/-- a pair's place -/
def plcP (n n' : Nat) (p : Nat × Nat) : Nat := ixK n p.1 * (n' + 1) + ixK n' p.2
theorem plcP_lt {n n' : Nat} (p : Nat × Nat) : plcP n n' p < (n + 1) * (n' + 1) := by
  have h1 := @ixK_le n p.1
  have h2 := @ixK_le n' p.2
  have h3 : ixK n p.1 * (n' + 1) ≤ n * (n' + 1) := Nat.mul_le_mul_right _ h1
  unfold plcP
  rw [Nat.succ_mul]
  omega
theorem plcP_inj {n n' : Nat} {p q : Nat × Nat} (hp : p.1 ≤ n ∧ p.2 ≤ n') (hq : q.1 ≤ n ∧ q.2 ≤ n') (h : plcP n n' p = plcP n n' q) : p = q := by
  unfold plcP at h
  have h1 := @ixK_le n' p.2
  have h2 := @ixK_le n' q.2
  have e2 : ixK n' p.2 = ixK n' q.2 := by
    have a1 : (ixK n p.1 * (n' + 1) + ixK n' p.2) % (n' + 1) = ixK n' p.2 := by
      rw [Nat.mul_comm, Nat.mul_add_mod]
      exact Nat.mod_eq_of_lt (by omega)
    have a2 : (ixK n q.1 * (n' + 1) + ixK n' q.2) % (n' + 1) = ixK n' q.2 := by
      rw [Nat.mul_comm, Nat.mul_add_mod]
      exact Nat.mod_eq_of_lt (by omega)
    rw [← a1, ← a2, h]
  have e1 : ixK n p.1 = ixK n q.1 := by
    rw [e2] at h
    have h3 : ixK n p.1 * (n' + 1) = ixK n q.1 * (n' + 1) := by omega
    exact Nat.eq_of_mul_eq_mul_right (by omega) h3
  exact Prod.ext (ixK_inj hp.1 hq.1 e1) (ixK_inj hp.2 hq.2 e2)
def prC (n n' : Nat) (p : Nat × Nat) : List Value := [.int .i64 (inI n p.1), .int .i64 (inI n' p.2)]
/-- which pairs are marked -/
def MrkP (n n' : Nat) (P : List (Nat × Nat)) (fl : List Bool) : Prop := ∀ p : Nat × Nat, p.1 ≤ n → p.2 ≤ n' → (fl.getD (plcP n n' p) false = true ↔ p ∈ P)
theorem MrkP.set {n n' : Nat} {P : List (Nat × Nat)} {fl : List Bool} (h : MrkP n n' P fl) (hl : fl.length = (n + 1) * (n' + 1)) {p : Nat × Nat} (hp : p.1 ≤ n ∧ p.2 ≤ n') : MrkP n n' (P ++ [p]) (fl.set (plcP n n' p) true) := fun q h1 h2 => by
  rw [List.mem_append, List.mem_singleton]
  by_cases e : q = p
  · subst e
    rw [List.getD_eq_getElem?_getD, List.getElem?_set_self (by rw [hl]; exact plcP_lt q)]
    simp
  · rw [List.getD_eq_getElem?_getD, List.getElem?_set_ne (fun e' => e (plcP_inj hp ⟨h1, h2⟩ e').symm), ← List.getD_eq_getElem?_getD, h q h1 h2]
    exact ⟨Or.inl, fun h9 => h9.resolve_right e⟩
structure AlO (n n' bw bm br bp : Nat) (w0 w : World) (pv : Value) (P : List (Nat × Nat)) (fl : List Bool) : Prop where
  wd : w.heap[bw]? = some (.cells #[.int .i64 (((n' + 1 : Nat)) : Int)] 3 (0, 0))
  mv : w.heap[bm]? = some (.cells #[.slice (some ⟨br, 0, none⟩) ((n + 1) * (n' + 1)) ((n + 1) * (n' + 1))] 43 (0, 0))
  mr : OwnT w w0.heap.size (.slice (some ⟨br, 0, none⟩) ((n + 1) * (n' + 1)) ((n + 1) * (n' + 1))) fl
  pb : w.heap[bp]? = some (.cells #[pv] 52 (0, 0))
  pr : w.ownsRow w0.heap.size 54 2 pv P.length (P.flatMap (prC n n'))
  mrk : MrkP n n' P fl
  low : Below w0.heap.size w0 w
  ge : w0.heap.size ≤ bw ∧ w0.heap.size ≤ bm ∧ w0.heap.size ≤ bp
  ne : bw ≠ bm ∧ bw ≠ br ∧ bw ≠ bp ∧ bm ≠ br ∧ bm ≠ bp ∧ br ≠ bp
  np : ∀ k, pv.ownBlock = some k → k ≠ bw ∧ k ≠ bm ∧ k ≠ br ∧ k ≠ bp
theorem AlO.len {n n' bw bm br bp : Nat} {w0 w : World} {pv : Value} {P : List (Nat × Nat)} {fl : List Bool} (h : AlO n n' bw bm br bp w0 w pv P fl) : fl.length = (n + 1) * (n' + 1) := ownT_len (m := (n + 1) * (n' + 1)) (r := br) h.mr
theorem AlO.keep {n n' bw bm br bp : Nat} {w0 w u : World} {pv : Value} {P : List (Nat × Nat)} {fl : List Bool} (h : AlO n n' bw bm br bp w0 w pv P fl) (hu : Below w.heap.size w u) : AlO n n' bw bm br bp w0 u pv P fl :=
  ⟨hs_keep h.wd hu, hs_keep h.mv hu, own_below h.mr hu, hs_keep h.pb hu, own_below h.pr hu, h.mrk, bl_step h.low hu, h.ge, h.ne, h.np⟩
theorem AlO.cell {n n' bw bm br bp : Nat} {w0 w : World} {pv : Value} {P : List (Nat × Nat)} {fl : List Bool} (h : AlO n n' bw bm br bp w0 w pv P fl) {x : Nat} (hx : x < (n + 1) * (n' + 1)) : w.cell? ⟨br, x, none⟩ = some (.bool (fl.getD x false)) ∧ w.frozen? ⟨br, x, none⟩ = false := by
  have hl := h.len
  have h2 : w.ownsRow w0.heap.size 4 1 (.slice (some ⟨br, 0, none⟩) ((n + 1) * (n' + 1)) ((n + 1) * (n' + 1))) ((n + 1) * (n' + 1)) (fl.map Value.bool) := by
    have h9 := h.mr
    unfold OwnT at h9
    rw [hl] at h9
    exact h9
  have h3 := h2.cellAt x (by omega)
  rw [List.getElem?_map, List.getElem?_eq_getElem (by omega)] at h3
  exact ⟨by rw [h3, getD_el (show x < fl.length by omega)]; rfl, h2.frozenAt x⟩
/-- the mark is set -/
theorem AlO.mark {n n' bw bm br bp : Nat} {w0 w : World} {pv : Value} {P : List (Nat × Nat)} {fl : List Bool} (h : AlO n n' bw bm br bp w0 w pv P fl) (x : Nat) : (w.setCell ⟨br, x, none⟩ (.bool true)).heap[bw]? = some (.cells #[.int .i64 (((n' + 1 : Nat)) : Int)] 3 (0, 0)) ∧ (w.setCell ⟨br, x, none⟩ (.bool true)).heap[bm]? = some (.cells #[.slice (some ⟨br, 0, none⟩) ((n + 1) * (n' + 1)) ((n + 1) * (n' + 1))] 43 (0, 0)) ∧ OwnT (w.setCell ⟨br, x, none⟩ (.bool true)) w0.heap.size (.slice (some ⟨br, 0, none⟩) ((n + 1) * (n' + 1)) ((n + 1) * (n' + 1))) (fl.set x true) ∧ (w.setCell ⟨br, x, none⟩ (.bool true)).heap[bp]? = some (.cells #[pv] 52 (0, 0)) ∧ (w.setCell ⟨br, x, none⟩ (.bool true)).ownsRow w0.heap.size 54 2 pv P.length (P.flatMap (prC n n')) ∧ Below w0.heap.size w0 (w.setCell ⟨br, x, none⟩ (.bool true)) := by
  have hbr := (h.mr.lt br rfl).1
  have hl := h.len
  refine ⟨?_, ?_, ?_, ?_, own_set h.pr (fun e => (h.np _ e).2.2.1 rfl), bl_set h.low _ _ _ hbr⟩
  · rw [Below.heap_setCell w ⟨br, x, none⟩ _ bw h.ne.2.1]; exact h.wd
  · rw [Below.heap_setCell w ⟨br, x, none⟩ _ bm h.ne.2.2.2.1]; exact h.mv
  · have h1 := h.mr
    rw [← hl] at h1 ⊢
    exact OwnT.put (k := x) true h1
  · rw [Below.heap_setCell w ⟨br, x, none⟩ _ bp (fun e => h.ne.2.2.2.2.2 e.symm)]; exact h.pb
/-- one pair more -/
theorem AlO.push {n n' bw bm br bp : Nat} {w0 w u w' : World} {pv : Value} {P : List (Nat × Nat)} {fl : List Bool} (h : AlO n n' bw bm br bp w0 w pv P fl) {p : Nat × Nat} (hp : p.1 ≤ n ∧ p.2 ≤ n') (hu : Below (w.setCell ⟨br, plcP n n' p, none⟩ (.bool true)).heap.size (w.setCell ⟨br, plcP n n' p, none⟩ (.bool true)) u) {g cap : Nat}
    (ho : w'.ownsRow w0.heap.size 54 2 (.slice (some ⟨g, 0, none⟩) (P.length + 1) cap) (P.length + 1) (P.flatMap (prC n n') ++ prC n n' p)) (hg : u.grownBy w' pv.ownBlock) (hat : pv.ownBlock = some g ∨ g = u.heap.size) :
    AlO n n' bw bm br bp w0 (w'.setCell ⟨bp, 0, none⟩ (.slice (some ⟨g, 0, none⟩) (P.length + 1) cap)) (.slice (some ⟨g, 0, none⟩) (P.length + 1) cap) (P ++ [p]) (fl.set (plcP n n' p) true) := by
  obtain ⟨m1, m2, m3, m4, m5, m6⟩ := h.mark (plcP n n' p)
  have hk := Kept.of_grown hg
  have hlt : ∀ {b : Nat} {x : Obj}, u.heap[b]? = some x → b < u.heap.size := fun hx => blk_lt hx
  have a1 := hs_keep m1 hu
  have a2 := hs_keep m2 hu
  have a3 := own_below m3 hu
  have a4 := hs_keep m4 hu
  have hbr := (a3.lt br rfl).2
  have hgn : ∀ b, b < u.heap.size → (∀ k, pv.ownBlock = some k → k ≠ b) → g ≠ b := fun b hb hne e => by
    subst e
    rcases hat with h1 | h1
    · exact hne g h1 rfl
    · omega
  have g1 := hgn bw (blk_lt a1) (fun k e => (h.np k e).1)
  have g2 := hgn bm (blk_lt a2) (fun k e => (h.np k e).2.1)
  have g3 := hgn br hbr (fun k e => (h.np k e).2.2.1)
  have g4 := hgn bp (blk_lt a4) (fun k e => (h.np k e).2.2.2)
  have b1 := hk.blk a1 (fun e => (h.np _ e).1 rfl)
  have b2 := hk.blk a2 (fun e => (h.np _ e).2.1 rfl)
  have b3 := own_kept a3 hk (fun k e e' => (h.np _ e').2.2.1 (by have e1 : br = k := (by injection e); exact e1.symm))
  have b4 := hk.blk a4 (fun e => (h.np _ e).2.2.2 rfl)
  have hlow : Below w0.heap.size w0 w' := (bl_step m6 hu).trans (hk.below (fun k e => (h.pr.lt k e).1) (bl_step m6 hu).size)
  refine ⟨?_, ?_, own_set b3 (fun e => h.ne.2.2.2.2.2 (by injection e)), heap_setCell b4, ?_, h.mrk.set h.len hp, bl_set hlow _ _ _ h.ge.2.2, h.ge, h.ne, fun k e => ?_⟩
  · rw [Below.heap_setCell w' ⟨bp, 0, none⟩ _ bw h.ne.2.2.1]; exact b1
  · rw [Below.heap_setCell w' ⟨bp, 0, none⟩ _ bm h.ne.2.2.2.2.1]; exact b2
  · have := own_set (pb := bp) (o := 0) (x := .slice (some ⟨g, 0, none⟩) (P.length + 1) cap) ho (fun e => g4 (by injection e))
    rw [List.length_append, List.flatMap_append, List.flatMap_singleton]
    exact this
  · have e1 : g = k := by injection e
    subst e1
    exact ⟨g1, g2, g3, g4⟩

end Go.Proofs.YtjelgphhlcecoaaGreatDoor
namespace Go.Proofs.YtjelgphhlcecoaaGreatDoor
open Go.RowKit Go.Maps

end Go.Proofs.YtjelgphhlcecoaaGreatDoor
namespace Go.Proofs.YtjelgphhlcecoaaGreatDoor
open Go.RowKit Go.Maps

theorem AlO.start {n n' : Nat} {w0 w3 WA : World} (hb : Below w0.heap.size w0 w3) {wd M : Nat} (hwd : n' + 1 = wd) (hM : (n + 1) * wd = M) (hM2 : M ≤ 100000) (hWA : w3.alloc (.cells #[.int .i64 (wd : Int)] 3) = WA) :
    AlO n n' w3.heap.size (WA.heap.size + 1) WA.heap.size (WA.heap.size + 1 + 1) w0 (((WA.alloc (.cells (madeCells #[.bool false] M) 4)).alloc (.cells #[.slice (some ⟨WA.heap.size, 0, none⟩) M M] 43)).alloc (.cells #[.slice none 0 0] 52)) (.slice none 0 0) [] (List.replicate M false) := by
  subst hwd
  subst hM
  have hs : WA.heap.size = w3.heap.size + 1 := by rw [← hWA]; simp
  have hA : Below w3.heap.size w3 WA := by rw [← hWA]; exact al' w3 _
  have kA : WA.heap[w3.heap.size]? = some (.cells #[.int .i64 ((n' + 1 : Nat) : Int)] 3) := by rw [← hWA]; exact heap_new w3 _
  have o1 := made_bools WA ((n + 1) * (n' + 1)) hM2
  obtain ⟨X1, hX1⟩ : ∃ X, WA.alloc (.cells (madeCells #[.bool false] ((n + 1) * (n' + 1))) 4) = X := ⟨_, rfl⟩
  rw [hX1] at o1 ⊢
  have s1 : X1.heap.size = WA.heap.size + 1 := by rw [← hX1]; simp
  have b1 : Below WA.heap.size WA X1 := by rw [← hX1]; exact al' WA _
  have k2 := heap_new X1 (.cells #[.slice (some ⟨WA.heap.size, 0, none⟩) ((n + 1) * (n' + 1)) ((n + 1) * (n' + 1))] 43)
  have b2 := al' X1 (.cells #[.slice (some ⟨WA.heap.size, 0, none⟩) ((n + 1) * (n' + 1)) ((n + 1) * (n' + 1))] 43)
  obtain ⟨X2, hX2⟩ : ∃ X, X1.alloc (.cells #[.slice (some ⟨WA.heap.size, 0, none⟩) ((n + 1) * (n' + 1)) ((n + 1) * (n' + 1))] 43) = X := ⟨_, rfl⟩
  have s2 : X2.heap.size = X1.heap.size + 1 := by rw [← hX2]; simp
  rw [hX2] at k2 b2 ⊢
  have k3 := heap_new X2 (.cells #[.slice none 0 0] 52)
  have b3 := al' X2 (.cells #[.slice none 0 0] 52)
  generalize X2.alloc (.cells #[.slice none 0 0] 52) = X3 at k3 b3 ⊢
  have hsz := hb.size
  rw [s1] at k2
  rw [s2, s1] at k3
  refine ⟨hs_keep (hs_keep (hs_keep kA b1) b2) b3, hs_keep k2 b3, own_base (own_below (own_below o1 b2) b3) (by omega), k3, World.ownsRow_nil _ _ _ _, fun p h1 h2 => ?_, bl_step (bl_step (bl_step (bl_step hb hA) b1) b2) b3, ⟨by omega, by omega, by omega⟩, ⟨by omega, by omega, by omega, by omega, by omega, by omega⟩, fun k e => (by cases e)⟩
  rw [List.getD_eq_getElem?_getD, List.getElem?_replicate]
  split <;> simp
theorem AlO.pair {n n' bw bm br bp : Nat} {w0 w : World} {pv : Value} {P : List (Nat × Nat)} {fl : List Bool} (h : AlO n n' bw bm br bp w0 w pv P fl) {k : Nat} (hk : k < P.length) : ∃ g c, pv = .slice (some ⟨g, 0, none⟩) P.length c ∧ w.cell? ⟨g, k * 2, none⟩ = some (.int .i64 (inI n (P.getD k (0, 0)).1)) ∧ w.cell? ⟨g, k * 2 + 1, none⟩ = some (.int .i64 (inI n' (P.getD k (0, 0)).2)) := by
  obtain ⟨g, c, e, _⟩ := own_form3 h.pr (show 0 < P.length by omega)
  have ho := h.pr
  rw [e] at ho
  have hfl : ∀ (P : List (Nat × Nat)) (k : Nat), k < P.length → (P.flatMap (prC n n'))[k * 2]? = some (.int .i64 (inI n (P.getD k (0, 0)).1)) ∧ (P.flatMap (prC n n'))[k * 2 + 1]? = some (.int .i64 (inI n' (P.getD k (0, 0)).2)) := by
    intro P
    induction P with
    | nil => intro k hk; exact absurd hk (Nat.not_lt_zero _)
    | cons a l ih =>
      intro k hk
      rw [List.flatMap_cons]
      cases k with
      | zero => exact ⟨rfl, rfl⟩
      | succ k =>
        have h1 := ih k (by simpa using hk)
        have e1 : (k + 1) * 2 = (prC n n' a).length + k * 2 := by show _ = 2 + _; omega
        have e2 : (k + 1) * 2 + 1 = (prC n n' a).length + (k * 2 + 1) := by show _ = 2 + _; omega
        rw [e1, List.getElem?_append_right (Nat.le_add_right _ _), Nat.add_sub_cancel_left, ← e1, e2, List.getElem?_append_right (Nat.le_add_right _ _), Nat.add_sub_cancel_left]
        exact h1
  obtain ⟨f1, f2⟩ := hfl P k hk
  exact ⟨g, c, e, (ho.cellAt (k * 2) (by omega)).trans f1, (ho.cellAt (k * 2 + 1) (by omega)).trans f2⟩

end Go.Proofs.YtjelgphhlcecoaaGreatDoor
