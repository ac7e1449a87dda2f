/- States that were met, as numbers, beside an automaton that is filled; a row that is filled beside them. The reader: escaped, told. The reader: an item of a class. The reader: a class; point. -/
import Derived.Test.YtjelgphhlcecoaaGreatDoorJ30
import Derived.Test.YtjelgphhlcecoaaGreatDoorJ21
import Derived.Test.YtjelgphhlcecoaaGreatDoorJ27
import Derived.Test.YtjelgphhlcecoaaGreatDoorJ18
namespace Go.Proofs.YtjelgphhlcecoaaGreatDoor
open Go.RowKit Go.Maps

def SI (S : List Nat) : List Int := S.map fun x : Nat => (x : Int)
theorem SI_len (S : List Nat) : (SI S).length = S.length := by simp [SI]
theorem SI_at (S : List Nat) (j : Nat) : (SI S).getD j 0 = ((S.getD j 0 : Nat) : Int) := by
  unfold SI
  rw [List.getD_eq_getElem?_getD, List.getElem?_map, List.getD_eq_getElem?_getD]
  cases S[j]? <;> rfl
structure MkS (db : Nat) (w0 w : World) (D F : Nat → Prop) (tv nv av : Value) (vs : List Value) (S : List Nat) (N : List (List Int)) (A : List Int) : Prop where
  df : DfO w0.heap.size db D F w nv av vs N A
  st : Own w w0.heap.size tv (SI S)
  sF : ∀ k, tv.ownBlock = some k → F k
  fF : ∀ k, F k → w0.heap.size ≤ k
  fL : ∀ k, F k → k < w.heap.size
  dF : ∀ k, D k → w0.heap.size ≤ k
  low : Below w0.heap.size w0 w
  up : ∀ j, Off (fun k => k < w0.heap.size) (vs.getD j nilV)
theorem MkS.keep {db : Nat} {w0 w u : World} {D F : Nat → Prop} {tv nv av : Value} {vs : List Value} {S : List Nat} {N : List (List Int)} {A : List Int} (h : MkS db w0 w D F tv nv av vs S N A) (hu : Below w.heap.size w u) : MkS db w0 u D F tv nv av vs S N A :=
  ⟨h.df.keep hu, own_below h.st hu, h.sF, h.fF, fun k hk => Nat.lt_of_lt_of_le (h.fL k hk) hu.size, h.dF, bl_step h.low hu, h.up⟩
theorem MkS.moved {db : Nat} {w0 w u : World} {D F F' : Nat → Prop} {tv tv' nv av : Value} {vs : List Value} {S S' : List Nat} {N : List (List Int)} {A : List Int} (h : MkS db w0 w D F tv nv av vs S N A) (hu : Mvd F F' w u) (hL : ∀ k, F' k → k < u.heap.size)
    (hst : Own u w0.heap.size tv' (SI S')) (hF : ∀ k, tv'.ownBlock = some k → F' k) : MkS db w0 u D F' tv' nv av vs S' N A := by
  refine ⟨h.df.moved hu, hst, hF, fun k hk => ?_, hL, h.dF, h.low.trans (hu.kept.below h.fF h.low.size), h.up⟩
  rcases hu.new k hk with h2 | h2
  · exact h.fF k h2
  · exact Nat.le_trans h.low.size h2
/-- one of their blocks changes that isn't the states' own -/
theorem MkS.other {db : Nat} {w0 w u : World} {D F : Nat → Prop} {tv nv av : Value} {vs : List Value} {S : List Nat} {N : List (List Int)} {A : List Int} (h : MkS db w0 w D F tv nv av vs S N A) {b : Nat} (hb : F b) (ht : tv.ownBlock ≠ some b) (hk : Kept (fun k => some b = some k) w u) : MkS db w0 u D F tv nv av vs S N A :=
  h.moved ⟨hk.mono fun k _ e => by injection e with e; rw [← e]; exact hb, fun _ hk => Or.inl hk⟩ (fun k hk' => Nat.lt_of_lt_of_le (h.fL k hk') hk.size) (own_kept h.st hk fun k e e' => ht (by injection e' with e'; rw [e, e'])) h.sF
theorem SI_snoc (S : List Nat) (t : Nat) : SI (S ++ [t]) = SI S ++ [(t : Int)] := by simp [SI]
/-- one state more -/
theorem MkS.push {db : Nat} {w0 w u : World} {D F : Nat → Prop} {tv nv av : Value} {vs : List Value} {S : List Nat} {N : List (List Int)} {A : List Int} (h : MkS db w0 w D F tv nv av vs S N A) {t g cap : Nat}
    (ho : u.ownsRow w0.heap.size 3 1 (.slice (some ⟨g, 0, none⟩) ((SI S).length + 1) cap) ((SI S).length + 1) (numCells (SI S) ++ [.int .i64 (t : Int)])) (hg : w.grownBy u tv.ownBlock) (hat : tv.ownBlock = some g ∨ g = w.heap.size) :
    MkS db w0 u D (fun k => F k ∨ k = g) (.slice (some ⟨g, 0, none⟩) ((SI S).length + 1) cap) nv av vs (S ++ [t]) N A := by
  have hgl : g < u.heap.size := (ho.lt g rfl).2
  refine h.moved ⟨(Kept.of_grown hg).mono fun k _ e => h.sF k e, fun k hk => ?_⟩ (fun k hk => ?_) ?_ (fun k e => Or.inr (by injection e with e; exact e.symm))
  · rcases hk with h1 | h1
    · exact Or.inl h1
    · rcases hat with h2 | h2
      · exact Or.inl (h1 ▸ h.sF g h2)
      · exact Or.inr (by omega)
  · rcases hk with h1 | h1
    · exact Nat.lt_of_lt_of_le (h.fL k h1) hg.size
    · omega
  · have e1 : (SI S ++ [(t : Int)]).length = (SI S).length + 1 := List.length_append
    unfold Own
    rw [SI_snoc, e1, numCells_snoc]
    exact ho
theorem MkS.newBlk {db : Nat} {w0 w u : World} {D F : Nat → Prop} {tv nv av : Value} {vs : List Value} {S : List Nat} {N : List (List Int)} {A : List Int} (h : MkS db w0 w D F tv nv av vs S N A) (hu : Below w.heap.size w u) (hs : w.heap.size < u.heap.size) : MkS db w0 u D (fun k => F k ∨ k = w.heap.size) tv nv av vs S N A :=
  h.moved ⟨Kept.of_below hu, fun k hk => by
    rcases hk with h1 | h1
    · exact Or.inl h1
    · exact Or.inr (by omega)⟩ (fun k hk => by
    rcases hk with h1 | h1
    · exact Nat.lt_of_lt_of_le (h.fL k h1) hu.size
    · omega) (own_below h.st hu) (fun k e => Or.inl (h.sF k e))
theorem MkS.drop {db : Nat} {w0 w : World} {D F G : Nat → Prop} {tv nv av : Value} {vs : List Value} {S : List Nat} {N : List (List Int)} {A : List Int} (h : MkS db w0 w D F tv nv av vs S N A) (hG : ∀ k, G k → F k) (ht : ∀ k, tv.ownBlock = some k → G k) : MkS db w0 w D G tv nv av vs S N A :=
  ⟨⟨h.df.blk, h.df.nxt, h.df.nF, h.df.acc, h.df.aF, h.df.nums.more fun k hk => Or.inl (by rcases hk with h1 | h1; exact Or.inl h1; exact Or.inr (hG k h1)), h.df.inD, h.df.lt, fun k hk hg => h.df.apart k hk (hG k hg), h.df.base⟩,
    h.st, ht, fun k hk => h.fF k (hG k hk), fun k hk => h.fL k (hG k hk), h.dF, h.low, h.up⟩
theorem MkS.row2 {db : Nat} {w0 w w2 : World} {D F : Nat → Prop} {tv nv av x : Value} {vs : List Value} {S : List Nat} {N : List (List Int)} {A l : List Int} (h : MkS db w0 w D F tv nv av vs S N A) (hx : Nums w x l) (hxo : Off (fun k => D k ∨ F k) x) (hxu : Off (fun k => k < w0.heap.size) x) {g cap : Nat}
    (ho : w2.ownsRow w0.heap.size 23 1 (.slice (some ⟨g, 0, none⟩) (vs.length + 1) cap) (vs.length + 1) (vs ++ [x])) (hg : w.grownBy w2 nv.ownBlock) (hat : nv.ownBlock = some g ∨ g = w.heap.size) :
    ∃ D2, MkS db w0 (w2.setCell ⟨db, 0, none⟩ (.slice (some ⟨g, 0, none⟩) (vs.length + 1) cap)) D2 F tv (.slice (some ⟨g, 0, none⟩) (vs.length + 1) cap) av (vs ++ [x]) S (N ++ [l]) A ∧ Kept (fun k => D k) w (w2.setCell ⟨db, 0, none⟩ (.slice (some ⟨g, 0, none⟩) (vs.length + 1) cap)) := by
  have hat' : ∀ k, (Value.slice (some ⟨g, 0, none⟩) (vs.length + 1) cap).ownBlock = some k → nv.ownBlock = some k ∨ w.heap.size ≤ k := fun k e => by
    have e1 : g = k := by injection e
    subst e1
    rcases hat with h1 | h1
    · exact Or.inl h1
    · exact Or.inr (by omega)
  obtain ⟨h1, h2⟩ := h.df.addRow h.fL hx hxo ho hg hat'
  have hbl : Below w0.heap.size w (w2.setCell ⟨db, 0, none⟩ (.slice (some ⟨g, 0, none⟩) (vs.length + 1) cap)) := h2.below h.dF h.low.size
  refine ⟨_, ⟨h1, own_kept h.st h2 (fun k e hd => h.df.apart k hd (h.sF k e)), h.sF, h.fF, fun k hk => Nat.lt_of_lt_of_le (h.fL k hk) h2.size, fun k hk => ?_, h.low.trans hbl, fun j => ?_⟩, h2⟩
  · rcases hk with h3 | h3
    · exact h.dF k h3
    · rcases hat' k h3 with h4 | h4
      · exact h.dF k (h.df.nF k h4).1
      · exact Nat.le_trans h.low.size h4
  · rw [getD_snoc]
    split
    · exact hxu
    · exact h.up j
theorem MkS.acc2 {db : Nat} {w0 w w2 : World} {D F : Nat → Prop} {tv nv av : Value} {vs : List Value} {S : List Nat} {N : List (List Int)} {A A' : List Int} (h : MkS db w0 w D F tv nv av vs S N A) {g n cap : Nat}
    (ho : Own w2 w0.heap.size (.slice (some ⟨g, 0, none⟩) n cap) A') (hg : w.grownBy w2 av.ownBlock) (hat : av.ownBlock = some g ∨ g = w.heap.size) :
    ∃ D2, MkS db w0 (w2.setCell ⟨db, 1, none⟩ (.slice (some ⟨g, 0, none⟩) n cap)) D2 F tv nv (.slice (some ⟨g, 0, none⟩) n cap) vs S N A' ∧ Kept (fun k => D k) w (w2.setCell ⟨db, 1, none⟩ (.slice (some ⟨g, 0, none⟩) n cap)) := by
  have hat' : ∀ k, (Value.slice (some ⟨g, 0, none⟩) n cap).ownBlock = some k → av.ownBlock = some k ∨ w.heap.size ≤ k := fun k e => by
    have e1 : g = k := by injection e
    subst e1
    rcases hat with h1 | h1
    · exact Or.inl h1
    · exact Or.inr (by omega)
  obtain ⟨h1, h2⟩ := h.df.addAcc h.fL ho hg hat'
  have hbl : Below w0.heap.size w (w2.setCell ⟨db, 1, none⟩ (.slice (some ⟨g, 0, none⟩) n cap)) := h2.below h.dF h.low.size
  refine ⟨_, ⟨h1, own_kept h.st h2 (fun k e hd => h.df.apart k hd (h.sF k e)), h.sF, h.fF, fun k hk => Nat.lt_of_lt_of_le (h.fL k hk) h2.size, fun k hk => ?_, h.low.trans hbl, h.up⟩, h2⟩
  rcases hk with h3 | h3
  · exact h.dF k h3
  · rcases hat' k h3 with h4 | h4
    · exact h.dF k (h.df.aF k h4).1
    · exact Nat.le_trans h.low.size h4
/-- a row that is filled beside them, in the block rk -/
structure MkL (db : Nat) (w0 : World) (rk : Nat) (w : World) (D F : Nat → Prop) (tv nv av : Value) (vs : List Value) (S : List Nat) (N : List (List Int)) (A r : List Int) : Prop where
  s : MkS db w0 w D F tv nv av vs S N A
  rF : F rk
  rt : tv.ownBlock ≠ some rk
  row : Own w w0.heap.size (.slice (some ⟨rk, 0, none⟩) 256 256) r
theorem MkL.len {db : Nat} {w0 w : World} {rk : Nat} {D F : Nat → Prop} {tv nv av : Value} {vs : List Value} {S : List Nat} {N : List (List Int)} {A r : List Int} (h : MkL db w0 rk w D F tv nv av vs S N A r) : r.length = 256 := by
  obtain ⟨a, c, e⟩ := own_shape h.row
  injection e with _ e _
  exact e.symm
theorem MkL.keep {db : Nat} {w0 w u : World} {rk : Nat} {D F : Nat → Prop} {tv nv av : Value} {vs : List Value} {S : List Nat} {N : List (List Int)} {A r : List Int} (h : MkL db w0 rk w D F tv nv av vs S N A r) (hu : Below w.heap.size w u) : MkL db w0 rk u D F tv nv av vs S N A r := ⟨h.s.keep hu, h.rF, h.rt, own_below h.row hu⟩
theorem MkL.put {db : Nat} {w0 w : World} {rk : Nat} {D F : Nat → Prop} {tv nv av : Value} {vs : List Value} {S : List Nat} {N : List (List Int)} {A r : List Int} (h : MkL db w0 rk w D F tv nv av vs S N A r) (b : Nat) (y : Int) : MkL db w0 rk (w.setCell ⟨rk, b, none⟩ (.int .i64 y)) D F tv nv av vs S N A (r.set b y) :=
  ⟨h.s.other h.rF h.rt ((Kept.refl _ w).setCell fun _ => rfl), h.rF, h.rt, own_num_put y h.row h.len.symm⟩
theorem MkL.cell {db : Nat} {w0 w : World} {rk : Nat} {D F : Nat → Prop} {tv nv av : Value} {vs : List Value} {S : List Nat} {N : List (List Int)} {A r : List Int} (h : MkL db w0 rk w D F tv nv av vs S N A r) {b : Nat} (hb : b < 256) : w.cell? ⟨rk, b, none⟩ = some (.int .i64 (r.getD b 0)) ∧ w.frozen? ⟨rk, b, none⟩ = false :=
  ⟨own_num_at h.row (by rw [h.len]; exact hb), own_num_free h.row h.len.symm b⟩
theorem MkL.push {db : Nat} {w0 w u : World} {rk : Nat} {D F : Nat → Prop} {tv nv av : Value} {vs : List Value} {S : List Nat} {N : List (List Int)} {A r : List Int} (h : MkL db w0 rk w D F tv nv av vs S N A r) {t g cap : Nat}
    (ho : u.ownsRow w0.heap.size 3 1 (.slice (some ⟨g, 0, none⟩) ((SI S).length + 1) cap) ((SI S).length + 1) (numCells (SI S) ++ [.int .i64 (t : Int)])) (hg : w.grownBy u tv.ownBlock) (hat : tv.ownBlock = some g ∨ g = w.heap.size) :
    MkL db w0 rk u D (fun k => F k ∨ k = g) (.slice (some ⟨g, 0, none⟩) ((SI S).length + 1) cap) nv av vs (S ++ [t]) N A r := by
  refine ⟨h.s.push ho hg hat, Or.inl h.rF, fun e => ?_, own_kept h.row (Kept.of_grown hg) (fun k e e' => ?_)⟩
  · have e1 : g = rk := by injection e
    rcases hat with h1 | h1
    · exact h.rt (by rw [h1, e1])
    · have := h.s.fL _ h.rF
      omega
  · have e1 : rk = k := by injection e
    subst e1
    exact h.rt e'
theorem MkL.other {db : Nat} {w0 w u : World} {rk : Nat} {D F : Nat → Prop} {tv nv av : Value} {vs : List Value} {S : List Nat} {N : List (List Int)} {A r : List Int} (h : MkL db w0 rk w D F tv nv av vs S N A r) {b : Nat} (hb : F b) (ht : tv.ownBlock ≠ some b) (hr : b ≠ rk) (hk : Kept (fun k => some b = some k) w u) : MkL db w0 rk u D F tv nv av vs S N A r :=
  ⟨h.s.other hb ht hk, h.rF, h.rt, own_kept h.row hk fun k e e' => hr (by have e1 : rk = k := (by injection e); have e2 : b = k := (by injection e'); omega)⟩
theorem MkS.at {db : Nat} {w0 w : World} {D F : Nat → Prop} {tv nv av : Value} {vs : List Value} {S : List Nat} {N : List (List Int)} {A : List Int} (h : MkS db w0 w D F tv nv av vs S N A) {n : Nat} (hn : n < S.length) : ∃ g c, tv = .slice (some ⟨g, 0, none⟩) (SI S).length c ∧ w.cell? ⟨g, n, none⟩ = some (.int .i64 ((S.getD n 0 : Nat) : Int)) := by
  have hl := SI_len S
  obtain ⟨g, c, e, _⟩ := own_form h.st (by omega)
  have hst := h.st
  rw [e] at hst
  refine ⟨g, c, e, ?_⟩
  rw [own_num_at hst (by omega), SI_at]
/-- a row, filled up with noughts -/
def rowN0 (q : List Int) : List Int := q ++ List.replicate (256 - q.length) 0
theorem rowN0_put {q : List Int} {b : Nat} (hq : q.length = b) (hb : b < 256) (y : Int) : (rowN0 q).set b y = rowN0 (q ++ [y]) := by
  subst hq
  unfold rowN0
  rw [List.set_append_right _ _ (Nat.le_refl _), Nat.sub_self, show 256 - q.length = (256 - (q ++ [y]).length) + 1 by rw [List.length_append, List.length_singleton]; omega, List.replicate_succ, List.set_cons_zero, List.append_assoc]
  rfl
theorem rowN0_full {q : List Int} (h : q.length = 256) : rowN0 q = q := by unfold rowN0; rw [h]; simp
end Go.Proofs.YtjelgphhlcecoaaGreatDoor
namespace Go.Proofs.YtjelgphhlcecoaaGreatDoor
open Go.RowKit

theorem escF_hex (r : Txt) : escF (120 :: r) = match hexP r with
    | none => none
    | some (a, r1) => match hexP r1 with
      | none => none
      | some (b, q) => some (16 * a + b, q) := by
  show (match r with
      | x :: y :: q => match hexF x, hexF y with
        | some a, some b => some (16 * a + b, q)
        | _, _ => none
      | _ => none) = _
  cases r with
  | nil => rfl
  | cons x r =>
    cases r with
    | nil => cases hx : hexF x <;> simp [hexP, hx]
    | cons y q => cases hx : hexF x <;> cases hy : hexF y <;> simp [hexP, hx, hy]
theorem hexP_lt {q r : Txt} {a : Nat} (h : hexP q = some (a, r)) : a < 16 := by
  cases q with
  | nil => cases h
  | cons c q =>
    cases hx : hexF c with
    | none => simp [hexP, hx] at h
    | some b =>
      simp [hexP, hx] at h
      have := hex_lt _ _ hx
      omega

set_option maxRecDepth 20000 in
set_option maxHeartbeats 2000000 in
theorem escapedC {w : World} {rb : Nat} {v : Value} {s q : Txt} (h : At w rb v s q) (hs : s.length ≤ 200) (p : Int) :
    Calls Tryz.prog 116 #[.pointer (some ⟨rb, 0, none⟩), .int .i64 p] w (Said p (escF q) w rb v s) := by
  cases q with
  | nil =>
    have G := hid (nextNo h hs p)
    clear h
    go_enter Tryz.func116, Tryz.ntmps116
    go_wp2_with (go_at_call 115; refine G.out.mono ?_; rintro e w1 ⟨rfl, hb1⟩)
    exact ⟨rfl, rfl, Kept.of_below hb1⟩
  | cons c r =>
    have G := hid (nextYes h hs p)
    clear h
    by_cases h1 : c = 110
    · subst h1
      rw [show escF (110 :: r) = some (10, r) from rfl]
      rw [show ((110 : UInt8).toNat : Int) = 110 from rfl] at G
      go_enter Tryz.func116, Tryz.ntmps116
      go_wp2_with (go_at_call 115; refine G.out.mono ?_; rintro e w1 ⟨rfl, hat, hk⟩; have hat := hid hat)
      go_ret
      exact ⟨⟨rfl, hat.out⟩, hk⟩
    by_cases h2 : c = 116
    · subst h2
      rw [show escF (116 :: r) = some (9, r) from rfl]
      rw [show ((116 : UInt8).toNat : Int) = 116 from rfl] at G
      go_enter Tryz.func116, Tryz.ntmps116
      go_wp2_with (go_at_call 115; refine G.out.mono ?_; rintro e w1 ⟨rfl, hat, hk⟩; have hat := hid hat)
      go_ret
      exact ⟨⟨rfl, hat.out⟩, hk⟩
    by_cases h3 : c = 114
    · subst h3
      rw [show escF (114 :: r) = some (13, r) from rfl]
      rw [show ((114 : UInt8).toNat : Int) = 114 from rfl] at G
      go_enter Tryz.func116, Tryz.ntmps116
      go_wp2_with (go_at_call 115; refine G.out.mono ?_; rintro e w1 ⟨rfl, hat, hk⟩; have hat := hid hat)
      go_ret
      exact ⟨⟨rfl, hat.out⟩, hk⟩
    by_cases h4 : c = 120
    · subst h4
      rw [escF_hex]
      rw [show ((120 : UInt8).toNat : Int) = 120 from rfl] at G
      have GD := hid (fun u q (hat : At u rb v s q) => digitC hat hs p)
      clear h1 h2 h3
      cases e1 : hexP r with
      | none =>
        have GD1 := hid (fun u (hat : At u rb v s r) => (show Calls _ _ _ _ (Said p none u rb v s) by have := GD.out u r hat; rwa [e1] at this))
        clear e1 GD
        go_enter Tryz.func116, Tryz.ntmps116
        go_wp2_with (first
          | (go_at_call 115; refine G.out.mono ?_; rintro e w1 ⟨rfl, hat, hk⟩; have hat := hid hat)
          | (go_at_call 128; refine (GD1.out _ hat.out).mono ?_; intro e w2 hw2; obtain ⟨he2, hk2⟩ := hw2.no; subst he2))
        exact ⟨rfl, rfl, hk.trans hk2⟩
      | some x =>
        obtain ⟨a, r1⟩ := x
        have ha := hexP_lt e1
        have GD1 := hid (fun u (hat : At u rb v s r) => (show Calls _ _ _ _ (Said p (some (a, r1)) u rb v s) by have := GD.out u r hat; rwa [e1] at this))
        show Calls _ _ _ _ (Said p (match hexP r1 with | none => none | some (b, q) => some (16 * a + b, q)) w rb v s)
        cases e2 : hexP r1 with
        | none =>
          have GD2 := hid (fun u (hat : At u rb v s r1) => (show Calls _ _ _ _ (Said p none u rb v s) by have := GD.out u r1 hat; rwa [e2] at this))
          clear e1 e2 GD
          go_enter Tryz.func116, Tryz.ntmps116
          go_wp2_with (first
            | (go_at_call 115; refine G.out.mono ?_; rintro e w1 ⟨rfl, hat, hk⟩; have hat := hid hat)
            | (go_at_call 128; refine (GD2.out _ hat2.out).mono ?_; intro e w3 hw3; obtain ⟨he3, hk3⟩ := hw3.no; subst he3)
            | (go_at_call 128; refine (GD1.out _ hat.out).mono ?_; intro e w2 hw2; obtain ⟨he2, hat2, hk2⟩ := hw2.yes; subst he2; have hat2 := hid hat2))
          exact ⟨rfl, rfl, (hk.trans hk2).trans hk3⟩
        | some y =>
          obtain ⟨b, r2⟩ := y
          have hb := hexP_lt e2
          have GD2 := hid (fun u (hat : At u rb v s r1) => (show Calls _ _ _ _ (Said p (some (b, r2)) u rb v s) by have := GD.out u r1 hat; rwa [e2] at this))
          clear e1 e2 GD
          have haz : (a : Int) ≤ 15 := by omega
          have hbz : (b : Int) ≤ 15 := by omega
          go_enter Tryz.func116, Tryz.ntmps116
          go_wp2_with (first
            | (go_at_call 115; refine G.out.mono ?_; rintro e w1 ⟨rfl, hat, hk⟩; have hat := hid hat)
            | (go_at_call 128; refine (GD2.out _ hat2.out).mono ?_; intro e w3 hw3; obtain ⟨he3, hat3, hk3⟩ := hw3.yes; subst he3; have hat3 := hid hat3)
            | (go_at_call 128; refine (GD1.out _ hat.out).mono ?_; intro e w2 hw2; obtain ⟨he2, hat2, hk2⟩ := hw2.yes; subst he2; have hat2 := hid hat2))
          go_ret
          exact ⟨⟨ret_u8 (by omega), hat3.out⟩, (hk.trans hk2).trans hk3⟩
    have e : escF (c :: r) = if escD c then some (c.toNat, r) else none := by
      simp only [escF]
      rw [if_neg h1, if_neg h2, if_neg h3, if_neg h4]
    rw [e]
    have hn := c.toNat_lt
    have n1 : ¬ c.toNat = 110 := fun h => h1 (UInt8.toNat_inj.1 h)
    have n2 : ¬ c.toNat = 116 := fun h => h2 (UInt8.toNat_inj.1 h)
    have n3 : ¬ c.toNat = 114 := fun h => h3 (UInt8.toNat_inj.1 h)
    have n4 : ¬ c.toNat = 120 := fun h => h4 (UInt8.toNat_inj.1 h)
    have GI := hid (fun u => idxC bothS (c.toNat : Int) u)
    rw [toU8] at GI
    have hh := tells_both c.toNat hn
    have hle := Lib.indexByte_ge bothS.data.toList (UInt8.ofNat c.toNat)
    rw [show UInt8.ofNat c.toNat = c by simp] at GI hh hle
    generalize Lib.indexByte bothS.data.toList c = z at GI hh hle
    clear e h1 h2 h3 h4
    generalize c.toNat = n at G GI n1 n2 n3 n4 hn ⊢
    have c1 : ((n : Int) == 110) = false := beq_eq_false_iff_ne.2 (by omega)
    have c2 : ((n : Int) == 116) = false := beq_eq_false_iff_ne.2 (by omega)
    have c3 : ((n : Int) == 114) = false := beq_eq_false_iff_ne.2 (by omega)
    have c4 : ((n : Int) == 120) = false := beq_eq_false_iff_ne.2 (by omega)
    cases hd : escD c with
    | true =>
      rw [hd] at hh
      have hz : ¬ z < 0 := by simpa using hh
      rw [if_pos rfl]
      clear hh hd
      go_enter Tryz.func116, Tryz.ntmps116
      go_wp2_with (first
        | (go_at_call 115; refine G.out.mono ?_; rintro e w1 ⟨rfl, hat, hk⟩; have hat := hid hat)
        | (go_at_call 57; refine (GI.out _).mono ?_; rintro e u1 ⟨rfl, hu⟩; subst u1))
      go_ret
      exact ⟨⟨rfl, hat.out⟩, hk⟩
    | false =>
      rw [hd] at hh
      have hz : z < 0 := by simpa using hh
      rw [if_neg Bool.false_ne_true]
      clear hh hd
      go_enter Tryz.func116, Tryz.ntmps116
      go_wp2_with (first
        | (go_at_call 115; refine G.out.mono ?_; rintro e w1 ⟨rfl, hat, hk⟩; have hat := hid hat)
        | (go_at_call 57; refine (GI.out _).mono ?_; rintro e u1 ⟨rfl, hu⟩; subst u1))
      exact ⟨rfl, rfl, hk⟩

/-- the place at which what is left begins -/
def plc (s q : Txt) : Int := (s.length : Int) - q.length
theorem At.place {w : World} {rb : Nat} {v : Value} {s q : Txt} (h : At w rb v s q) : w.cell? ⟨rb, 1, none⟩ = some (.int .i64 (plc s q)) := by
  obtain ⟨pre, hp, hb⟩ := h
  obtain ⟨c0, c1, c2, c3, c4⟩ := rd3 hb
  rw [c1]
  unfold plc
  rw [hp]
  simp

set_option maxRecDepth 20000 in
set_option maxHeartbeats 2000000 in
theorem toldC {w : World} {rb : Nat} {v : Value} {s q : Txt} (h : At w rb v s q) (hs : s.length ≤ 200) (S : ByteArray) (left : UInt8 → Bool) (hT : Tells S fun c => left c || c == 92) :
    Calls Tryz.prog 110 #[.pointer (some ⟨rb, 0, none⟩), .string S] w (Said (plc s q) (signF left q) w rb v s) := by
  have hpl := h.place
  generalize plc s q = p at hpl ⊢
  cases q with
  | nil =>
    have G := hid (nextNo h hs p)
    clear h
    go_enter Tryz.func110, Tryz.ntmps110
    go_wp2_with (go_at_call 115; refine G.out.mono ?_; rintro e w1 ⟨rfl, hb1⟩)
    exact ⟨rfl, rfl, Kept.of_below hb1⟩
  | cons c r =>
    have G := hid (nextYes h hs p)
    clear h
    by_cases h1 : c = 92
    · subst h1
      rw [show signF left (92 :: r) = escF r from rfl]
      rw [show ((92 : UInt8).toNat : Int) = 92 from rfl] at G
      have GE := hid (fun u (hat : At u rb v s r) => escapedC hat hs p)
      cases e1 : escF r with
      | none =>
        rw [e1] at GE
        clear e1
        go_enter Tryz.func110, Tryz.ntmps110
        go_wp2_with (first
          | (go_at_call 115; refine G.out.mono ?_; rintro e w1 ⟨rfl, hat, hk⟩; have hat := hid hat)
          | (go_at_call 116; refine (GE.out _ hat.out).mono ?_; intro e w2 hw2; obtain ⟨he2, hk2⟩ := hw2.no; subst he2))
        exact ⟨rfl, rfl, hk.trans hk2⟩
      | some x =>
        obtain ⟨b, r1⟩ := x
        rw [e1] at GE
        clear e1
        go_enter Tryz.func110, Tryz.ntmps110
        go_wp2_with (first
          | (go_at_call 115; refine G.out.mono ?_; rintro e w1 ⟨rfl, hat, hk⟩; have hat := hid hat)
          | (go_at_call 116; refine (GE.out _ hat.out).mono ?_; intro e w2 hw2; obtain ⟨he2, hat2, hk2⟩ := hw2.yes; subst he2; have hat2 := hid hat2))
        go_ret
        exact ⟨⟨rfl, hat2.out⟩, hk.trans hk2⟩
    · have hn := c.toNat_lt
      have n1 : ¬ c.toNat = 92 := fun h => h1 (UInt8.toNat_inj.1 h)
      have GP := hid (fun u => plainC c.toNat S _ u hn hT)
      have e : signF left (c :: r) = if plainB c.toNat (fun c => left c || c == 92) then some (c.toNat, r) else none := by
        have hpb : plainB c.toNat (fun c => left c || c == 92) = (decide (32 ≤ c.toNat ∧ c.toNat ≤ 126) && !left c) := by
          show (decide (32 ≤ c.toNat ∧ c.toNat ≤ 126) && !(left (UInt8.ofNat c.toNat) || UInt8.ofNat c.toNat == 92)) = _
          rw [show UInt8.ofNat c.toNat = c by simp, show (c == 92) = false from beq_eq_false_iff_ne.2 h1, Bool.or_false]
        rw [hpb]
        simp only [signF]
        rw [if_neg h1]
        have hlt : (c < 32 ∨ 126 < c) ↔ ¬ (32 ≤ c.toNat ∧ c.toNat ≤ 126) := by
          rw [UInt8.lt_iff_toNat_lt, UInt8.lt_iff_toNat_lt]
          simp
          omega
        by_cases hv : 32 ≤ c.toNat ∧ c.toNat ≤ 126
        · rw [if_neg (fun h => (hlt.1 h) hv), decide_eq_true hv]
          cases left c <;> rfl
        · rw [if_pos (hlt.2 hv), decide_eq_false hv]
          rfl
      rw [e]
      clear e h1 hT
      generalize plainB c.toNat (fun c => left c || c == 92) = pb at GP ⊢
      generalize c.toNat = n at G GP n1 hn ⊢
      have c1 : ((n : Int) == 92) = false := beq_eq_false_iff_ne.2 (by omega)
      cases pb with
      | true =>
        rw [if_pos rfl]
        go_enter Tryz.func110, Tryz.ntmps110
        go_wp2_with (first
          | (go_at_call 115; refine G.out.mono ?_; rintro e w1 ⟨rfl, hat, hk⟩; have hat := hid hat)
          | (go_at_call 117; refine (GP.out _).mono ?_; rintro e u1 ⟨rfl, hu⟩; subst u1))
        go_ret
        exact ⟨⟨rfl, hat.out⟩, hk⟩
      | false =>
        rw [if_neg Bool.false_ne_true]
        go_enter Tryz.func110, Tryz.ntmps110
        go_wp2_with (first
          | (go_at_call 115; refine G.out.mono ?_; rintro e w1 ⟨rfl, hat, hk⟩; have hat := hid hat)
          | (go_at_call 117; refine (GP.out _).mono ?_; rintro e u1 ⟨rfl, hu⟩; subst u1))
        exact ⟨rfl, rfl, hk⟩

end Go.Proofs.YtjelgphhlcecoaaGreatDoor
namespace Go.Proofs.YtjelgphhlcecoaaGreatDoor
open Go.RowKit

/-- an item: its two bytes, and what is left -/
def itemP (q : Txt) : Option (Nat × Nat × Txt) :=
  match signF leftC q with
  | none => none
  | some (a, s1) =>
    if s1.head? == some 45 then
      match signF leftC s1.tail with
      | none => none
      | some (b, s2) => if b < a then none else some (a, b, s2)
    else some (a, a, s1)
theorem items_item (n : Nat) (first : Bool) (acc : W4) (s : Txt) : itemsF (n + 1) first acc s =
    if !first && s.head? == some 93 then some (acc, s.tail) else
    match itemP s with
    | none => none
    | some (a, b, r) => itemsF n false (orB acc (spanB a b)) r := by
  rw [itemsF]
  split
  · rfl
  unfold itemP
  cases signF leftC s with
  | none => rfl
  | some x =>
    obtain ⟨a, s1⟩ := x
    simp only
    split
    · cases signF leftC s1.tail with
      | none => rfl
      | some y =>
        obtain ⟨b, s2⟩ := y
        simp only
        split <;> rfl
    · rfl
theorem itemP_lt {q r : Txt} {a b : Nat} (h : itemP q = some (a, b, r)) : r.length < q.length := by
  unfold itemP at h
  split at h
  · cases h
  rename_i a' s1 hs
  have h1 := signF_lt hs
  split at h
  · split at h
    · cases h
    rename_i b' s2 hs2
    have h2 := signF_lt hs2
    have h3 : s1.tail.length ≤ s1.length := by simp
    split at h
    · cases h
    · injection h with h; injection h with _ h; injection h with _ h; subst h; omega
  · injection h with h; injection h with _ h; injection h with _ h; subst h; exact h1
theorem items_fuel : ∀ (n : Nat) (first : Bool) (acc : W4) (s : Txt), s.length + 1 ≤ n → itemsF n first acc s = itemsF (n + 1) first acc s
  | 0, _, _, _, h => by omega
  | n + 1, first, acc, s, h => by
    rw [items_item, items_item (n + 1)]
    split
    · rfl
    cases e : itemP s with
    | none => rfl
    | some x =>
      obtain ⟨a, b, r⟩ := x
      have := itemP_lt e
      exact items_fuel n false _ r (by omega)
theorem items_more {n m : Nat} {first : Bool} {acc : W4} {s : Txt} (h : s.length + 1 ≤ n) (h' : n ≤ m) : itemsF n first acc s = itemsF m first acc s := by
  induction h' with
  | refl => rfl
  | step hm ih =>
    rename_i m
    have hm' : n ≤ m := hm
    exact ih.trans (items_fuel m first acc s (by omega))
theorem sign_byte {left : UInt8 → Bool} {q r : Txt} {b : Nat} (h : signF left q = some (b, r)) : b < 256 := by
  cases q with
  | nil => cases h
  | cons c q =>
    simp only [signF] at h
    have hc := c.toNat_lt
    split at h
    · cases h
    split at h
    · cases q with
      | nil => cases h
      | cons d q =>
        have hd := d.toNat_lt
        by_cases h4 : d = 120
        · subst h4
          rw [escF_hex] at h
          cases e1 : hexP q with
          | none => rw [e1] at h; cases h
          | some x =>
            obtain ⟨a, r1⟩ := x
            have := hexP_lt e1
            rw [e1] at h
            simp only at h
            cases e2 : hexP r1 with
            | none => rw [e2] at h; cases h
            | some y =>
              obtain ⟨b', r2⟩ := y
              have := hexP_lt e2
              rw [e2] at h
              injection h with h; injection h with h _
              omega
        · simp only [escF] at h
          rw [if_neg h4] at h
          split at h
          · injection h with h; injection h with h _; omega
          split at h
          · injection h with h; injection h with h _; omega
          split at h
          · injection h with h; injection h with h _; omega
          split at h
          · injection h with h; injection h with h _; omega
          · cases h
    split at h
    · cases h
    · injection h with h; injection h with h _; omega

/-- a fault, told by panic -/
abbrev faultE (n : Int) : Ending := .panicked [{ v := .iface 87 (.int .i64 n), recovered := false }]
def SaidI (res : Option (Nat × Nat × Txt)) (w : World) (rb : Nat) (v : Value) (s : Txt) : Ending → World → Prop := fun e w' =>
  (match res with
    | some (a, b, q) => e = .returned (valB (spanB a b)) ∧ At w' rb v s q
    | none => ∃ n, e = faultE n) ∧ Kept (oneBlk rb) w w'
theorem al_kept {w u : World} {F : Nat → Prop} (h : Kept F w u) (o : Obj) : Kept F w (u.alloc o) := h.trans (Kept.of_below (al' u o))
theorem kept_put4 {F : Nat → Prop} {w u : World} (h : Kept F w u) {b : Nat} (S : W4) (hb : b < w.heap.size → F b) : Kept F w (put4 u b S) := by
  unfold put4
  exact (((h.setCell (a := ⟨b, 0, none⟩) hb).setCell (a := ⟨b, 1, none⟩) hb).setCell (a := ⟨b, 2, none⟩) hb).setCell (a := ⟨b, 3, none⟩) hb
theorem At.put4 {w : World} {rb b : Nat} {v : Value} {s q : Txt} (h : At w rb v s q) (S : W4) (hne : rb ≠ b) : At (Go.Proofs.YtjelgphhlcecoaaGreatDoor.put4 w b S) rb v s q := by
  obtain ⟨pre, h1, h2⟩ := h
  refine ⟨pre, h1, ?_⟩
  show (World.setCell (World.setCell (World.setCell (World.setCell w _ _) _ _) _ _) _ _).heap[rb]? = _
  rw [Below.heap_setCell _ _ _ _ hne, Below.heap_setCell _ _ _ _ hne, Below.heap_setCell _ _ _ _ hne, Below.heap_setCell _ _ _ _ hne]
  exact h2
theorem Blk.kept {F : Nat → Prop} {w w' : World} {b : Nat} {S : W4} (h : Blk w b S) (hk : Kept F w w') (hn : ¬ F b) : Blk w' b S := hk.blk h hn

set_option maxRecDepth 20000 in
set_option maxHeartbeats 2000000 in
theorem itemC {w : World} {rb : Nat} {v : Value} {s q : Txt} (h : At w rb v s q) (hs : s.length ≤ 200) :
    Calls Tryz.prog 113 #[.pointer (some ⟨rb, 0, none⟩)] w (SaidI (itemP q) w rb v s) := by
  have hrb : rb < w.heap.size := by obtain ⟨_, _, hb⟩ := h; exact blk_lt hb
  have hpl := h.place
  have h1 := h.keep (al' w (.cells #[.int .u64 0, .int .u64 0, .int .u64 0, .int .u64 0] 97))
  have GT := hid (fun u q (hat : At u rb v s q) => toldC hat hs classS leftC tells_class)
  have b0 : Hid (Blk (w.alloc (.cells #[.int .u64 0, .int .u64 0, .int .u64 0, .int .u64 0] 97)) w.heap.size noneB) := hid (heap_new w _)
  have k0 : Hid (Kept (oneBlk rb) w (w.alloc (.cells #[.int .u64 0, .int .u64 0, .int .u64 0, .int .u64 0] 97))) := hid (Kept.of_below (al' w _))
  have hne : ¬ oneBlk rb w.heap.size := fun e => by have : w.heap.size = rb := e; omega
  have hpl1 := h1.place
  have h1 := hid h1
  generalize plc s q = p at hpl hpl1
  cases e1 : signF leftC q with
  | none =>
    have GT1 := hid (fun u (hat : At u rb v s q) => (show Calls _ _ _ _ (Said (plc s q) none u rb v s) by have := GT.out u q hat; rwa [e1] at this))
    have hi : itemP q = none := by unfold itemP; rw [e1]
    rw [hi]
    clear e1 GT hi h
    go_enter Tryz.func113, Tryz.ntmps113
    go_wp2_with (first
      | (go_at_call 110; refine (GT1.out _ h1.out).mono ?_; intro e w1 hw1; obtain ⟨he1, hk1⟩ := hw1.no; subst he1))
    exact ⟨rfl, ⟨_, rfl⟩, k0.out.trans hk1⟩
  | some x =>
    obtain ⟨a, s1⟩ := x
    have ha := sign_byte e1
    have GT1 := hid (fun u (hat : At u rb v s q) => (show Calls _ _ _ _ (Said (plc s q) (some (a, s1)) u rb v s) by have := GT.out u q hat; rwa [e1] at this))
    by_cases h45 : s1.head? = some 45
    · obtain ⟨s1', rfl⟩ : ∃ s1', s1 = 45 :: s1' := by
        cases s1 with
        | nil => cases h45
        | cons c t => injection h45 with h; subst h; exact ⟨t, rfl⟩
      have GK := hid (fun u (hat : At u rb v s (45 :: s1')) => takeYes hat hs)
      rw [show ((45 : UInt8).toNat : Int) = 45 from rfl] at GK
      cases e2 : signF leftC s1' with
      | none =>
        have GT2 := hid (fun u (hat : At u rb v s s1') => (show Calls _ _ _ _ (Said (plc s s1') none u rb v s) by have := GT.out u s1' hat; rwa [e2] at this))
        have hi : itemP q = none := by unfold itemP; rw [e1]; simp [e2]
        rw [hi]
        clear e1 e2 GT hi h h45
        go_enter Tryz.func113, Tryz.ntmps113
        go_wp2_with (first
          | (go_at_call 110; refine (GT2.out _ hat2.out).mono ?_; intro e w3 hw3; obtain ⟨he3, hk3⟩ := hw3.no; subst he3)
          | (go_at_call 110; refine (GT1.out _ h1.out).mono ?_; intro e w1 hw1; obtain ⟨he1, hat1, hk1⟩ := hw1.yes; subst he1; have hat1 := hid hat1)
          | (go_at_call 59; refine (GK.out _ hat1.out).mono ?_; rintro e w2 ⟨rfl, hat2, hk2⟩; have hat2 := hid hat2))
        exact ⟨rfl, ⟨_, rfl⟩, ((k0.out.trans hk1).trans hk2).trans hk3⟩
      | some y =>
        obtain ⟨b, s2⟩ := y
        have hb := sign_byte e2
        have GT2 := hid (fun u (hat : At u rb v s s1') => (show Calls _ _ _ _ (Said (plc s s1') (some (b, s2)) u rb v s) by have := GT.out u s1' hat; rwa [e2] at this))
        by_cases hlt : b < a
        · have hi : itemP q = none := by unfold itemP; rw [e1]; simp [e2, hlt]
          have hltz : (b : Int) < (a : Int) := by omega
          rw [hi]
          clear e1 e2 GT hi h h45
          go_enter Tryz.func113, Tryz.ntmps113
          go_wp2_with (first
            | (go_at_call 110; refine (GT2.out _ hat2.out).mono ?_; intro e w3 hw3; obtain ⟨he3, hat3, hk3⟩ := hw3.yes; subst he3)
            | (go_at_call 110; refine (GT1.out _ h1.out).mono ?_; intro e w1 hw1; obtain ⟨he1, hat1, hk1⟩ := hw1.yes; subst he1; have hat1 := hid hat1)
            | (go_at_call 59; refine (GK.out _ hat1.out).mono ?_; rintro e w2 ⟨rfl, hat2, hk2⟩; have hat2 := hid hat2))
          exact ⟨rfl, ⟨_, rfl⟩, ((k0.out.trans hk1).trans hk2).trans hk3⟩
        · have hi : itemP q = some (a, b, s2) := by unfold itemP; rw [e1]; simp [e2, hlt]
          have hltz : ¬ (b : Int) < (a : Int) := by omega
          have GS := hid (fun u => spanC a b u ha hb)
          rw [hi]
          show Calls _ _ _ _ fun e w' => (e = .returned (valB (spanB a b)) ∧ At w' rb v s s2) ∧ Kept (oneBlk rb) w w'
          clear e1 e2 GT hi h h45
          generalize spanB a b = R at GS ⊢
          obtain ⟨r0, r1, r2, r3⟩ := R
          go_enter Tryz.func113, Tryz.ntmps113
          go_wp2_with (first
            | (go_at_call 110; refine (GT2.out _ hat2.out).mono ?_; intro e w3 hw3; obtain ⟨he3, hat3, hk3⟩ := hw3.yes; subst he3; have hat3 := hid hat3; have b3 := hid (((b0.out.kept hk1 hne).kept hk2 hne).kept hk3 hne))
            | (go_at_call 110; refine (GT1.out _ h1.out).mono ?_; intro e w1 hw1; obtain ⟨he1, hat1, hk1⟩ := hw1.yes; subst he1; have hat1 := hid hat1)
            | (go_at_call 59; refine (GK.out _ hat1.out).mono ?_; rintro e w2 ⟨rfl, hat2, hk2⟩; have hat2 := hid hat2)
            | (go_at_call 127; refine (GS.out _).mono ?_; rintro e w4 ⟨rfl, hb4⟩; have b4 := hid (b3.out.keep hb4); have hat4 := hid (hat3.out.keep hb4); obtain ⟨z0, z1, z2, z3, z4, z5, z6, z7⟩ := Blk.cells (sa := 0) (sb := 0) (sc := 0) (sd := 0) b4.out))
          refine bodyPost_ret (v := .agg #[.int .u64 r0, .int .u64 r1, .int .u64 r2, .int .u64 r3]) (by simp [results, Tryz.results113, go_sem, z0, z1, z2, z3]) rfl ⟨⟨rfl, ?_⟩, ?_⟩
          · exact hat4.out.put4 ⟨r0, r1, r2, r3⟩ (by omega)
          · exact kept_put4 ((((k0.out.trans hk1).trans hk2).trans hk3).trans (Kept.of_below hb4)) ⟨r0, r1, r2, r3⟩ (fun h => by omega)
    · have hno : (s1.head? == some 45) = false := by simpa using h45
      have GK := hid (fun u (hat : At u rb v s s1) => takeNo hat hs 45 hno)
      rw [show ((45 : UInt8).toNat : Int) = 45 from rfl] at GK
      have hi : itemP q = some (a, a, s1) := by unfold itemP; rw [e1]; simp [h45]
      have GS := hid (fun u => spanC a a u ha ha)
      rw [hi]
      show Calls _ _ _ _ fun e w' => (e = .returned (valB (spanB a a)) ∧ At w' rb v s s1) ∧ Kept (oneBlk rb) w w'
      clear e1 GT hi h h45 hno
      generalize spanB a a = R at GS ⊢
      obtain ⟨r0, r1, r2, r3⟩ := R
      go_enter Tryz.func113, Tryz.ntmps113
      go_wp2_with (first
        | (go_at_call 110; refine (GT1.out _ h1.out).mono ?_; intro e w1 hw1; obtain ⟨he1, hat1, hk1⟩ := hw1.yes; subst he1; have hat1 := hid hat1; have b1 := hid (b0.out.kept hk1 hne))
        | (go_at_call 59; refine (GK.out _ hat1.out).mono ?_; rintro e w2 ⟨rfl, hb2⟩)
        | (go_at_call 127; refine (GS.out _).mono ?_; rintro e w4 ⟨rfl, hb4⟩; have b4 := hid ((b1.out.keep hb2).keep hb4); have hat4 := hid ((hat1.out.keep hb2).keep hb4); obtain ⟨z0, z1, z2, z3, z4, z5, z6, z7⟩ := Blk.cells (sa := 0) (sb := 0) (sc := 0) (sd := 0) b4.out))
      refine bodyPost_ret (v := .agg #[.int .u64 r0, .int .u64 r1, .int .u64 r2, .int .u64 r3]) (by simp [results, Tryz.results113, go_sem, z0, z1, z2, z3]) rfl ⟨⟨rfl, ?_⟩, ?_⟩
      · exact hat4.out.put4 ⟨r0, r1, r2, r3⟩ (by omega)
      · exact kept_put4 (((k0.out.trans hk1).trans (Kept.of_below hb2)).trans (Kept.of_below hb4)) ⟨r0, r1, r2, r3⟩ (fun h => by omega)

end Go.Proofs.YtjelgphhlcecoaaGreatDoor
namespace Go.Proofs.YtjelgphhlcecoaaGreatDoor
open Go.RowKit

/-- how much is left to be read -/
def plcN (w : World) (rb : Nat) (n : Nat) : Nat := match w.cell? ⟨rb, 1, none⟩ with
  | some (.int _ z) => n - z.toNat
  | _ => 0
theorem At.left {w : World} {rb : Nat} {v : Value} {s q : Txt} (h : At w rb v s q) : plcN w rb s.length = q.length := by
  unfold plcN
  rw [h.place]
  obtain ⟨pre, hp, _⟩ := h
  unfold plc
  rw [hp]
  simp
theorem or_none {S : W4} (h : Fit4 S) : orB noneB S = S := (mkB_eq h fun x _ => by rw [noneB_has]; simp).symm
theorem span_fit (a b : Nat) : Fit4 (spanB a b) := mkB_fit _
theorem or_fit (S T : W4) : Fit4 (orB S T) := mkB_fit _

def SaidS (res : Option (W4 × Txt)) (w : World) (rb : Nat) (v : Value) (s : Txt) : Ending → World → Prop := fun e w' =>
  (match res with
    | some (S, q) => e = .returned (valB S) ∧ At w' rb v s q
    | none => ∃ n, e = faultE n) ∧ Kept (oneBlk rb) w w'
theorem SaidS.mk_no {res : Option (W4 × Txt)} {w w' : World} {rb : Nat} {v : Value} {s : Txt} (h : res = none) (n : Int) (hk : Kept (oneBlk rb) w w') : SaidS res w rb v s (faultE n) w' := by subst h; exact ⟨⟨n, rfl⟩, hk⟩
theorem SaidS.mk_yes {res : Option (W4 × Txt)} {w w' : World} {rb : Nat} {v : Value} {s q : Txt} {S : W4} (h : res = some (S, q)) (hat : At w' rb v s q) (hk : Kept (oneBlk rb) w w') : SaidS res w rb v s (.returned (valB S)) w' := by subst h; exact ⟨⟨rfl, hat⟩, hk⟩
/-- the class, of what its items are -/
def finC (oth : Bool) (R : Option (W4 × Txt)) : Option (W4 × Txt) := match R with
  | none => none
  | some (S, r) => if (if oth then notB S else S) = noneB then none else some (if oth then notB S else S, r)
theorem classF_fin (n : Nat) (q : Txt) : classF n q = finC (q.head? == some 94) (itemsF n true noneB (if q.head? == some 94 then q.tail else q)) := by
  unfold classF finC
  cases q.head? == some 94
  · simp only [Bool.false_eq_true, if_false]
    cases itemsF n true noneB q with
    | none => rfl
    | some x => rfl
  · simp only [if_true]
    cases itemsF n true noneB q.tail with
    | none => rfl
    | some x => rfl
set_option maxRecDepth 20000 in
theorem eqNone (a b c d : Nat) {r : Bool} (h : decide ((⟨a, b, c, d⟩ : W4) = noneB) = r) (w : World) : (Op.equalIn 10000 97 (.agg #[.int .u64 (a : Int), .int .u64 (b : Int), .int .u64 (c : Int), .int .u64 (d : Int)]) (.agg #[.int .u64 0, .int .u64 0, .int .u64 0, .int .u64 0])).run Tryz.prog w = .ok r w := by
  rw [← h]
  exact equal4 9998 a b c d 0 0 0 0 w
set_option maxRecDepth 20000 in
set_option maxHeartbeats 4000000 in
/-- a class behind its first item -/
theorem classC {w : World} {rb : Nat} {v : Value} {s q : Txt} (h : At w rb v s q) (hs : s.length ≤ 200) (p : Int) :
    Calls Tryz.prog 107 #[.pointer (some ⟨rb, 0, none⟩), .int .i64 p] w (SaidS (classF (q.length + 1) q) w rb v s) := by
  have hrb : rb < w.heap.size := by obtain ⟨_, _, hb⟩ := h; exact blk_lt hb
  rw [classF_fin]
  have GI := hid (fun u q (hat : At u rb v s q) => itemC hat hs)
  have h1 := hid (h.keep (al' w (.cells #[.int .u64 0, .int .u64 0, .int .u64 0, .int .u64 0] 97)))
  have b0 : Hid (Blk (w.alloc (.cells #[.int .u64 0, .int .u64 0, .int .u64 0, .int .u64 0] 97)) w.heap.size noneB) := hid (heap_new w _)
  have k0 : Hid (Kept (oneBlk rb) w (w.alloc (.cells #[.int .u64 0, .int .u64 0, .int .u64 0, .int .u64 0] 97))) := hid (Kept.of_below (al' w _))
  have hne : ¬ oneBlk rb w.heap.size := fun e => by have : w.heap.size = rb := e; omega
  have GT : Hid (Calls Tryz.prog 59 #[.pointer (some ⟨rb, 0, none⟩), .int .u8 94] (w.alloc (.cells #[.int .u64 0, .int .u64 0, .int .u64 0, .int .u64 0] 97)) fun e w' => e = .returned (.bool (q.head? == some 94)) ∧ At w' rb v s (if q.head? == some 94 then q.tail else q) ∧ Kept (oneBlk rb) (w.alloc (.cells #[.int .u64 0, .int .u64 0, .int .u64 0, .int .u64 0] 97)) w') := hid (by
    by_cases h94 : q.head? = some 94
    · obtain ⟨q', rfl⟩ : ∃ q', q = 94 :: q' := by
        cases q with
        | nil => cases h94
        | cons c t => injection h94 with h; subst h; exact ⟨t, rfl⟩
      exact (takeYes h1.out hs).mono fun e w' hh => hh
    · have hno : (q.head? == some 94) = false := by simpa using h94
      rw [hno]
      exact (takeNo h1.out hs 94 hno).mono fun e w' hh => ⟨hh.1, h1.out.keep hh.2, Kept.of_below hh.2⟩)
  have hlen : (if q.head? == some 94 then q.tail else q).length + 1 ≤ q.length + 1 := by split <;> simp
  generalize (q.head? == some 94) = oth at GT hlen ⊢
  generalize hn0 : q.length + 1 = n0 at hlen ⊢
  generalize (if oth = true then q.tail else q) = q1 at GT hlen ⊢
  cases n0 with
  | zero => omega
  | succ n0 =>
  rw [items_item]
  simp only [Bool.not_true, Bool.false_and, Bool.false_eq_true, if_false]
  cases e1 : itemP q1 with
  | none =>
    have GI1 := hid (fun u (hat : At u rb v s q1) => (show Calls _ _ _ _ (SaidI none u rb v s) by have := GI.out u q1 hat; rwa [e1] at this))
    show Calls _ _ _ _ (SaidS none w rb v s)
    clear e1 GI h hn0
    go_enter Tryz.func107, Tryz.ntmps107
    go_wp2_with (first
      | (go_at_call 59; refine GT.out.mono ?_; rintro e w1 ⟨rfl, hat1, hk1⟩; have hat1 := hid hat1)
      | (go_at_call 113; refine (GI1.out _ hat1.out).mono ?_; rintro e w2 ⟨⟨n, he⟩, hk2⟩; subst he))
    exact ⟨rfl, ⟨_, rfl⟩, (k0.out.trans hk1).trans hk2⟩
  | some x =>
    obtain ⟨a, b, r1⟩ := x
    have hr1 := itemP_lt e1
    have GI1 := hid (fun u (hat : At u rb v s q1) => (show Calls _ _ _ _ (SaidI (some (a, b, r1)) u rb v s) by have := GI.out u q1 hat; rwa [e1] at this))
    show Calls _ _ _ _ (SaidS (finC oth (itemsF n0 false (orB noneB (spanB a b)) r1)) w rb v s)
    rw [or_none (span_fit a b)]
    obtain ⟨R, hR⟩ : ∃ R, Hid (itemsF n0 false (spanB a b) r1 = R) := ⟨_, hid rfl⟩
    rw [hR.out]
    have hR1 : Hid (itemsF (r1.length + 1) false (spanB a b) r1 = R) := hid ((items_more (Nat.le_refl _) (by omega)).trans hR.out)
    have hS1 := hid (span_fit a b)
    clear e1 h hn0 hR
    have GI2 : Hid (∀ u (hat : At u rb v s q1), Calls Tryz.prog 113 #[.pointer (some ⟨rb, 0, none⟩)] u fun e w' => (e = .returned (valB (spanB a b)) ∧ At w' rb v s r1) ∧ Kept (oneBlk rb) u w') := GI1
    clear GI1
    generalize spanB a b = S1 at GI2 hR1 hS1
    obtain ⟨x0, x1, x2, x3⟩ := S1
    have GK1 := hid (fun u q (hat : At u rb v s q) (hq : (q.head? == some 93) = false) => takeNo hat hs 93 hq)
    have GK2 := hid (fun u r (hat : At u rb v s (93 :: r)) => takeYes hat hs)
    rw [show ((93 : UInt8).toNat : Int) = 93 from rfl] at GK1 GK2
    go_enter Tryz.func107, Tryz.ntmps107
    go_wp2_with (first
      | (go_at_call 59; refine GT.out.mono ?_; rintro e w1 ⟨rfl, hat1, hk1⟩; have hat1 := hid hat1)
      | (go_at_call 113; refine (GI2.out _ hat1.out).mono ?_; rintro e w2 ⟨⟨he, hat2⟩, hk2⟩; subst he; have hat2 := hid hat2; have hsz2 : w.heap.size < w2.heap.size := Nat.lt_of_lt_of_le (by simp) (Nat.le_trans hk1.size hk2.size)))
    go_loopw [] (fun wr => ∃ S q', Fit4 S ∧ Hid (At wr rb v s q') ∧ Hid (Blk wr w2.heap.size S) ∧ Hid (Blk wr w.heap.size noneB) ∧ Kept (oneBlk rb) w wr ∧ Hid (itemsF (q'.length + 1) false S q' = R)) (fun wr => plcN wr rb s.length)
    case atStart =>
      exact ⟨⟨x0, x1, x2, x3⟩, r1, hS1.out, hid (hat2.out.keep (al' w2 _)), hid (heap_new w2 _), hid ((((b0.out.kept hk1 hne).kept hk2 hne)).keep (al' w2 _)), al_kept ((k0.out.trans hk1).trans hk2) _, hR1⟩
    case round =>
      obtain ⟨S, q', hfS, hat, bS, bN, hkw, hRq⟩ := hrel
      have hne2 : ¬ oneBlk rb w2.heap.size := fun e => by have : w2.heap.size = rb := e; omega
      have hmu := hat.out.left
      by_cases h93 : q'.head? = some 93
      · obtain ⟨r, rfl⟩ : ∃ r, q' = 93 :: r := by
          cases q' with
          | nil => cases h93
          | cons c t => injection h93 with h; subst h; exact ⟨t, rfl⟩
        have hRv : R = some (S, r) := by rw [← hRq.out, items_item]; rfl
        have GT' := hid (GK2.out wr r hat.out)
        have hRv' := hid hRv
        clear h93 hRv hRq hmu hR1 GI GI2 GK1 GK2 GT hat
        cases oth with
        | false =>
          have hfin : Hid (finC false R = if S = noneB then none else some (S, r)) := hid (by rw [hRv'.out]; rfl)
          obtain ⟨a0, a1, a2, a3⟩ := S
          by_cases hz : (⟨a0, a1, a2, a3⟩ : W4) = noneB
          · have hfin := hid (hfin.out.trans (if_pos hz))
            have hq := eqNone a0 a1 a2 a3 (decide_eq_true hz)
            clear hz
            go_wp2_with (first
              | (go_at_call 59; refine GT'.out.mono ?_; rintro e w3 ⟨rfl, hat3, hk3⟩; have b3 := hid (bS.out.kept hk3 hne2); obtain ⟨s0, s1, s2, s3, s4, s5, s6, s7⟩ := b3.out.cells))
            exact ⟨rfl, SaidS.mk_no hfin.out _ (hkw.trans hk3)⟩
          · have hfin := hid (hfin.out.trans (if_neg hz))
            have hq := eqNone a0 a1 a2 a3 (decide_eq_false hz)
            clear hz
            go_wp2_with (first
              | (go_at_call 59; refine GT'.out.mono ?_; rintro e w3 ⟨rfl, hat3, hk3⟩; have hat3 := hid hat3; have b3 := hid (bS.out.kept hk3 hne2); have c3 := hid (bN.out.kept hk3 hne); obtain ⟨s0, s1, s2, s3, s4, s5, s6, s7⟩ := b3.out.cells; obtain ⟨z0, z1, z2, z3, z4, z5, z6, z7⟩ := Blk.cells (sa := 0) (sb := 0) (sc := 0) (sd := 0) c3.out))
            refine bodyPost_ret (v := .agg #[.int .u64 a0, .int .u64 a1, .int .u64 a2, .int .u64 a3]) (by simp [results, Tryz.results107, go_sem, z0, z1, z2, z3]) rfl (SaidS.mk_yes (S := ⟨a0, a1, a2, a3⟩) hfin.out (hat3.out.put4 ⟨a0, a1, a2, a3⟩ (by omega)) (kept_put4 (hkw.trans hk3) ⟨a0, a1, a2, a3⟩ (fun h => by omega)))
        | true =>
          have hfin : Hid (finC true R = if notB S = noneB then none else some (notB S, r)) := hid (by rw [hRv'.out]; rfl)
          obtain ⟨a0, a1, a2, a3⟩ := S
          have GN := hid (fun u => notC a0 a1 a2 a3 u hfS)
          generalize notB ⟨a0, a1, a2, a3⟩ = T at GN hfin
          obtain ⟨t0, t1, t2, t3⟩ := T
          by_cases hz : (⟨t0, t1, t2, t3⟩ : W4) = noneB
          · have hfin := hid (hfin.out.trans (if_pos hz))
            have hq := eqNone t0 t1 t2 t3 (decide_eq_true hz)
            clear hz
            go_wp2_with (first
              | (go_at_call 59; refine GT'.out.mono ?_; rintro e w3 ⟨rfl, hat3, hk3⟩; have b3 := hid (bS.out.kept hk3 hne2); obtain ⟨s0, s1, s2, s3, s4, s5, s6, s7⟩ := b3.out.cells)
              | (go_at_call 50; refine (GN.out _).mono ?_; rintro e w4 ⟨rfl, hb4⟩; have b4 := hid (b3.out.keep hb4); obtain ⟨m0, m1, m2, m3, m4, m5, m6, m7⟩ := b4.out.cells))
            exact ⟨rfl, SaidS.mk_no hfin.out _ (kept_put4 (b := w2.heap.size) ((hkw.trans hk3).trans (Kept.of_below hb4)) ⟨t0, t1, t2, t3⟩ (fun h => by omega))⟩
          · have hfin := hid (hfin.out.trans (if_neg hz))
            have hq := eqNone t0 t1 t2 t3 (decide_eq_false hz)
            clear hz
            have hnn : ¬ w.heap.size = w2.heap.size := by omega
            go_wp2_with (first
              | (go_at_call 59; refine GT'.out.mono ?_; rintro e w3 ⟨rfl, hat3, hk3⟩; have hat3 := hid hat3; have b3 := hid (bS.out.kept hk3 hne2); have c3 := hid (bN.out.kept hk3 hne); obtain ⟨s0, s1, s2, s3, s4, s5, s6, s7⟩ := b3.out.cells)
              | (go_at_call 50; refine (GN.out _).mono ?_; rintro e w4 ⟨rfl, hb4⟩; have hat4 := hid (hat3.out.keep hb4); have b4 := hid (b3.out.keep hb4); have c4 := hid (c3.out.keep hb4); obtain ⟨m0, m1, m2, m3, m4, m5, m6, m7⟩ := b4.out.cells; obtain ⟨z0, z1, z2, z3, z4, z5, z6, z7⟩ := Blk.cells (sa := 0) (sb := 0) (sc := 0) (sd := 0) c4.out))
            refine bodyPost_ret (v := .agg #[.int .u64 t0, .int .u64 t1, .int .u64 t2, .int .u64 t3]) (by simp [results, Tryz.results107, go_sem, z0, z1, z2, z3]) rfl (SaidS.mk_yes (S := ⟨t0, t1, t2, t3⟩) hfin.out ((hat4.out.put4 ⟨t0, t1, t2, t3⟩ (by omega)).put4 ⟨t0, t1, t2, t3⟩ (by omega)) (kept_put4 (kept_put4 ((hkw.trans hk3).trans (Kept.of_below hb4)) ⟨t0, t1, t2, t3⟩ (fun h => by omega)) ⟨t0, t1, t2, t3⟩ (fun h => by omega)))
      · have hno : (q'.head? == some 93) = false := by simpa using h93
        have GT' := hid (GK1.out wr q' hat.out hno)
        have hit := items_item q'.length false S q'
        rw [hRq.out, hno] at hit
        simp only [Bool.and_false, Bool.false_eq_true, if_false] at hit
        cases e2 : itemP q' with
        | none =>
          rw [e2] at hit
          have GI' := hid (fun u (hat : At u rb v s q') => (show Calls _ _ _ _ (SaidI none u rb v s) by have := GI.out u q' hat; rwa [e2] at this))
          have hfin : Hid (finC oth R = none) := hid (by rw [hit]; rfl)
          clear h93 hRq hmu hR1 GI GI2 GK1 GK2 GT hit e2 hno
          obtain ⟨a0, a1, a2, a3⟩ := S
          go_wp2_with (first
            | (go_at_call 59; refine GT'.out.mono ?_; rintro e w3 ⟨rfl, hb3⟩; have hd3 : Below w3.heap.size w3 w3.drew := (Below.refl _ _).drew; have hat3 := hid ((hat.out.keep hb3).keep hd3); have b3 := hid ((bS.out.keep hb3).keep hd3); obtain ⟨s0, s1, s2, s3, s4, s5, s6, s7⟩ := b3.out.cells))
          have HI : Hid (∀ (Q : Exit → Act → World → Prop) (a : Act) (R' : Ending → World → Prop), (∀ n w4, Kept (oneBlk rb) w3.drew w4 → R' (faultE n) w4) → Calls Tryz.prog 113 #[.pointer (some ⟨rb, 0, none⟩)] w3.drew R') := hid (fun Q a R' hR' => (GI'.out _ hat3.out).mono (by rintro e w4 ⟨⟨n, he⟩, hk4⟩; subst he; exact hR' n w4 hk4))
          refine wp_region_any (by kernel_rfl) ?_
          change wpAny _ _ _ _ _ _ _ (World.drew _)
          refine wpAny_take (i := 1) (v := .pointer (some ⟨rb, 0, none⟩)) rfl (by kernel_rfl) (by kernel_rfl) (by kernel_rfl) (fun _ _ _ h => h) (Or.inl ⟨by rfl, fun w => by go_simp⟩) ?_
          refine wpAny_ready (rs := [0, 2]) (by kernel_rfl) (by simp) ?_
          refine AllReady.cons rfl (fun K hK => ?_) (AllReady.cons rfl (fun K hK => ?_) AllReady.nil)
          · go_simp
            refine hK _ _ ?_
            clear hK K
            refine wpAny_ready (rs := [2]) (by kernel_rfl) (by simp) ?_
            refine AllReady.cons rfl (fun K hK => ?_) AllReady.nil
            go_simp
            refine HI.out (fun _ _ _ => True) ⟨#[], []⟩ _ ?_
            intro n w4 hk4
            exact ⟨rfl, SaidS.mk_no hfin.out _ (((hkw.trans (Kept.of_below hb3)).trans (Kept.of_below hd3)).trans hk4)⟩
          · go_simp
            refine HI.out (fun _ _ _ => True) ⟨#[], []⟩ _ ?_
            intro n w4 hk4
            exact ⟨rfl, SaidS.mk_no hfin.out _ (((hkw.trans (Kept.of_below hb3)).trans (Kept.of_below hd3)).trans hk4)⟩
        | some y =>
          obtain ⟨a', b', r2⟩ := y
          rw [e2] at hit
          have hlt2 := itemP_lt e2
          have hit2 : R = itemsF q'.length false (orB S (spanB a' b')) r2 := hit
          have hR2 : Hid (itemsF (r2.length + 1) false (orB S (spanB a' b')) r2 = R) := hid ((items_more (Nat.le_refl _) (by omega)).trans hit2.symm)
          have GI' : Hid (∀ u (hat : At u rb v s q'), Calls Tryz.prog 113 #[.pointer (some ⟨rb, 0, none⟩)] u fun e w' => (e = .returned (valB (spanB a' b')) ∧ At w' rb v s r2) ∧ Kept (oneBlk rb) u w') := hid (fun u hat => by have := GI.out u q' hat; rw [e2] at this; exact this)
          obtain ⟨a0, a1, a2, a3⟩ := S
          have hfp := span_fit a' b'
          have hf2 := hid (or_fit ⟨a0, a1, a2, a3⟩ (spanB a' b'))
          generalize spanB a' b' = P at GI' hR2 hfp hf2
          obtain ⟨p0, p1, p2, p3⟩ := P
          have GO := hid (fun u => orC a0 a1 a2 a3 p0 p1 p2 p3 u hfS hfp)
          generalize orB ⟨a0, a1, a2, a3⟩ ⟨p0, p1, p2, p3⟩ = T at GO hR2 hf2
          obtain ⟨t0, t1, t2, t3⟩ := T
          have hmu := hid hmu
          have hlt2 := hid hlt2
          clear h93 hRq hR1 GI GI2 GK1 GK2 GT hit hit2 e2 hno
          go_wp2_with (first
            | (go_at_call 59; refine GT'.out.mono ?_; rintro e w3 ⟨rfl, hb3⟩; have hd3 : Below w3.heap.size w3 w3.drew := (Below.refl _ _).drew; have hat3 := hid ((hat.out.keep hb3).keep hd3); have b3 := hid ((bS.out.keep hb3).keep hd3); have c3 := hid ((bN.out.keep hb3).keep hd3); obtain ⟨s0, s1, s2, s3, s4, s5, s6, s7⟩ := b3.out.cells))
          go_region_with (first
            | (go_at_call 113; refine (GI'.out _ hat3.out).mono ?_; rintro e w4 ⟨⟨he, hat4⟩, hk4⟩; subst he; have hat4 := hid hat4; have b4 := hid (b3.out.kept hk4 hne2); have c4 := hid (c3.out.kept hk4 hne); obtain ⟨m0, m1, m2, m3, m4, m5, m6, m7⟩ := b4.out.cells)
            | (go_at_call 114; refine (GO.out _).mono ?_; rintro e w5 ⟨rfl, hb5⟩; have hat5 := hid (hat4.out.keep hb5); have b5 := hid (b4.out.keep hb5); have c5 := hid (c4.out.keep hb5); obtain ⟨n0', n1, n2, n3, n4, n5, n6, n7⟩ := b5.out.cells)
            | fail)
          all_goals
            go_wp2
            have hat6 := hat5.out.put4 (b := w2.heap.size) ⟨t0, t1, t2, t3⟩ (by omega)
            have hm6 := hat6.left
            refine ⟨⟨⟨t0, t1, t2, t3⟩, r2, hf2.out, hid hat6, hid (b5.out.put (S' := ⟨t0, t1, t2, t3⟩)), hid (c5.out.other (S' := ⟨t0, t1, t2, t3⟩) (by omega)), kept_put4 ((((hkw.trans (Kept.of_below hb3)).trans (Kept.of_below hd3)).trans hk4).trans (Kept.of_below hb5)) ⟨t0, t1, t2, t3⟩ (fun h => by omega), hR2⟩, ?_⟩
            have hl2 := hlt2.out
            have hm := hmu.out
            show plcN _ rb s.length < plcN wr rb s.length
            rw [hm]
            exact Nat.lt_of_le_of_lt (Nat.le_of_eq hm6) hl2

set_option maxRecDepth 20000 in
set_option maxHeartbeats 1000000 in
theorem pointC (w : World) : Calls Tryz.prog 108 #[] w fun e w' => e = .returned (valB (notB (spanB 10 10))) ∧ Below w.heap.size w w' := by
  have G1 := hid (fun u => oneC 10 u (by omega))
  have hf := span_fit 10 10
  generalize spanB 10 10 = P at G1 hf ⊢
  obtain ⟨p0, p1, p2, p3⟩ := P
  have G2 := hid (fun u => notC p0 p1 p2 p3 u hf)
  generalize notB ⟨p0, p1, p2, p3⟩ = T at G2 ⊢
  obtain ⟨t0, t1, t2, t3⟩ := T
  have b0 : Hid (Blk (w.alloc (.cells #[.int .u64 0, .int .u64 0, .int .u64 0, .int .u64 0] 97)) w.heap.size noneB) := hid (heap_new w _)
  go_enter Tryz.func108, Tryz.ntmps108
  go_wp2_with (first
    | (go_at_call 109; refine (G1.out _).mono ?_; rintro e w1 ⟨rfl, hb1⟩)
    | (go_at_call 50; refine (G2.out _).mono ?_; rintro e w2 ⟨rfl, hb2⟩; have b2 := hid ((b0.out.keep hb1).keep hb2); obtain ⟨z0, z1, z2, z3, z4, z5, z6, z7⟩ := Blk.cells (sa := 0) (sb := 0) (sc := 0) (sd := 0) b2.out))
  refine bodyPost_ret (v := .agg #[.int .u64 t0, .int .u64 t1, .int .u64 t2, .int .u64 t3]) (by simp [results, Tryz.results108, go_sem, z0, z1, z2, z3]) rfl ⟨rfl, bl_put (bl_step (bl_step (al' w _) hb1) hb2) ⟨t0, t1, t2, t3⟩ (Nat.le_refl _)⟩

end Go.Proofs.YtjelgphhlcecoaaGreatDoor
