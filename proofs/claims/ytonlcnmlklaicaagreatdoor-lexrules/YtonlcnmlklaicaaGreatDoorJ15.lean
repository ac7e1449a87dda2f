/- What spots.Of holds in memory. == and != on sets of bytes. Right of package regex. spots.Of: of what is no right rule; facts for the rest. -/
import Derived.Test.YtonlcnmlklaicaaGreatDoorJ14
import Derived.Test.YtonlcnmlklaicaaGreatDoorJ2
import Derived.Test.YtonlcnmlklaicaaGreatDoorJ6
import Derived.Deep.AppendLies
import Derived.Maps.AppendAt
namespace Go.Proofs.YtonlcnmlklaicaaGreatDoor
open Go.RowKit

/-- the parts that lie open, the last first; their cells, the first first -/
def PtS (F : Nat → Prop) (w : World) : List Rx → List Value → Prop
  | [], xs => xs = []
  | t :: r, xs => ∃ ys fv lv, xs = ys ++ [.bool t.null, fv, lv] ∧ PtS F w r ys ∧ PtV F w fv lv (firstL t (nS r)) (lastL t (nS r))
theorem PtS.kept {F : Nat → Prop} {w w' : World} (hk : Kept F w w') : ∀ {st : List Rx} {xs : List Value}, PtS F w st xs → PtS F w' st xs
  | [], _, h => h
  | _ :: _, _, ⟨ys, fv, lv, e, h1, h2⟩ => ⟨ys, fv, lv, e, PtS.kept hk h1, h2.kept hk⟩
theorem PtS.more {F G : Nat → Prop} {w : World} (hG : ∀ k, G k → F k ∨ w.heap.size ≤ k) : ∀ {st : List Rx} {xs : List Value}, PtS F w st xs → PtS G w st xs
  | [], _, h => h
  | _ :: _, _, ⟨ys, fv, lv, e, h1, h2⟩ => ⟨ys, fv, lv, e, PtS.more hG h1, h2.more hG⟩
theorem PtS.len {F : Nat → Prop} {w : World} : ∀ {st : List Rx} {xs : List Value}, PtS F w st xs → xs.length = st.length * 3
  | [], _, h => by cases h; rfl
  | _ :: _, _, ⟨ys, fv, lv, e, h1, h2⟩ => by rw [e, List.length_append, PtS.len h1]; simp; omega

theorem LkS.grow {F G : Nat → Prop} {B pb n : Nat} {gv : Value} {u w' : World} {gs : List Value} {fl : List (List Int)} (h : LkS F B pb gv n u gs fl) (hG : ∀ k, G k → F k ∨ u.heap.size ≤ k) (hFG : ∀ k, F k → G k) (hlt : ∀ k, G k → k < w'.heap.size) {H : Nat → Prop} (hk : Kept H u w') (hHG : ∀ k, H k → G k) (hHp : ¬ H pb) (hHg : ∀ k, gv.ownBlock = some k → ¬ H k) : LkS G B pb gv n w' gs fl where
  base := Nat.le_trans h.base hk.size
  lt := hlt
  row := fun k e => ⟨hFG k (h.row k e).1, (h.row k e).2⟩
  inF := hFG _ h.inF
  p := hk.cell h.p (h.lt _ h.inF) hHp
  own := own_kept h.own hk hHg
  nums := (h.nums.more hG).kept (hk.mono fun k _ e => hHG k e)
  len := h.len
  n60 := h.n60
  good := h.good

structure OfM (B pb : Nat) (F : Nat → Prop) (n : Nat) (w : World) (sv gv ov : Value) (S : List W4) (gs : List Value) (fl : List (List Int)) (st : List Rx) (xs : List Value) : Prop where
  lk : LkS F B pb gv n w gs fl
  blk : w.heap[pb]? = some (.cells #[sv, .bool false, nilV, nilV, gv] 88 (0, 0))
  sets : OwnS w B sv S
  sF : ∀ k, sv.ownBlock = some k → F k ∧ k ≠ pb ∧ gv.ownBlock ≠ some k
  own : w.ownsRow B 109 3 ov st.length xs
  oF : ∀ k, ov.ownBlock = some k → F k ∧ k ≠ pb ∧ gv.ownBlock ≠ some k ∧ sv.ownBlock ≠ some k
  pts : PtS F w st xs
theorem OfM.keep {B pb n : Nat} {F : Nat → Prop} {w u : World} {sv gv ov : Value} {S : List W4} {gs : List Value} {fl : List (List Int)} {st : List Rx} {xs : List Value} (h : OfM B pb F n w sv gv ov S gs fl st xs) (hu : Below w.heap.size w u) : OfM B pb F n u sv gv ov S gs fl st xs :=
  ⟨h.lk.keep hu, hs_keep h.blk hu, own_below h.sets hu, h.sF, own_below h.own hu, h.oF, h.pts.kept (Kept.of_below hu)⟩
theorem OfM.linked {B pb n : Nat} {F : Nat → Prop} {w u : World} {sv gv ov : Value} {S : List W4} {gs gs' : List Value} {fl fl' : List (List Int)} {st : List Rx} {xs : List Value} (h : OfM B pb F n w sv gv ov S gs fl st xs) (hu : Kept (fun k => gv.ownBlock = some k) w u) (hl : LkS F B pb gv n u gs' fl') : OfM B pb F n u sv gv ov S gs' fl' st xs :=
  ⟨hl, hu.blk h.blk (fun e => (h.lk.row _ e).2 rfl), own_kept h.sets hu (fun k e e' => (h.sF k e).2.2 e'), h.sF, own_kept h.own hu (fun k e e' => (h.oF k e).2.2.1 e'), h.oF, h.pts.kept (hu.mono fun k _ e => (h.lk.row k e).1)⟩
/-- one part more -/
theorem OfM.push {B pb n : Nat} {F : Nat → Prop} {u w' : World} {sv gv ov : Value} {S : List W4} {gs : List Value} {fl : List (List Int)} {st : List Rx} {xs : List Value} (h : OfM B pb F n u sv gv ov S gs fl st xs) {g cap : Nat} {t : Rx} {fv lv : Value} (hp : PtV F u fv lv (firstL t (nS st)) (lastL t (nS st)))
    (ho : w'.ownsRow B 109 3 (.slice (some ⟨g, 0, none⟩) (st.length + 1) cap) (st.length + 1) (xs ++ [.bool t.null, fv, lv])) (hg : u.grownBy w' ov.ownBlock) (hat : ov.ownBlock = some g ∨ g = u.heap.size) :
    OfM B pb (fun k => F k ∨ k = g) n w' sv gv (.slice (some ⟨g, 0, none⟩) (st.length + 1) cap) S gs fl (t :: st) (xs ++ [.bool t.null, fv, lv]) := by
  have hG : ∀ k, (F k ∨ k = g) → F k ∨ u.heap.size ≤ k := fun k hk => by
    rcases hk with hk | rfl
    · exact Or.inl hk
    · rcases hat with h1 | h1
      · exact Or.inl (h.oF k h1).1
      · exact Or.inr (Nat.le_of_eq h1.symm)
  have hk := Kept.of_grown hg
  have hgl := ho.lt g rfl
  have hlt : ∀ k, (F k ∨ k = g) → k < w'.heap.size := fun k hk' => by
    rcases hk' with hk' | rfl
    · exact Nat.lt_of_lt_of_le (h.lk.lt k hk') hk.size
    · exact hgl.2
  have hHG : ∀ k, ov.ownBlock = some k → (F k ∨ k = g) := fun k e => Or.inl (h.oF k e).1
  have hpb := h.lk.lt _ h.lk.inF
  have hkF : Kept (fun k => F k ∨ k = g) u w' := hk.mono fun k _ e => hHG k e
  refine ⟨h.lk.grow hG (fun k e => Or.inl e) hlt hk hHG (fun e => (h.oF _ e).2.1 rfl) (fun k e e' => (h.oF k e').2.2.1 e), hk.blk h.blk (fun e => (h.oF _ e).2.1 rfl), own_kept h.sets hk (fun k e e' => (h.oF k e').2.2.2 e), fun k e => ⟨Or.inl (h.sF k e).1, (h.sF k e).2⟩, ho, fun k e => ?_, ⟨xs, fv, lv, rfl, (h.pts.more hG).kept hkF, (hp.more hG).kept hkF⟩⟩
  · have e' : g = k := by injection e
    subst e'
    refine ⟨Or.inr rfl, ?_⟩
    rcases hat with h1 | h1
    · exact (h.oF g h1).2
    · refine ⟨fun e2 => by omega, fun e2 => ?_, fun e2 => ?_⟩
      · have := h.lk.lt _ (h.lk.row g e2).1; omega
      · have := h.lk.lt _ (h.sF g e2).1; omega
/-- one set more -/
theorem OfM.addSet {B pb n : Nat} {F : Nat → Prop} {u w' : World} {sv gv ov : Value} {S : List W4} {gs : List Value} {fl : List (List Int)} {st : List Rx} {xs : List Value} (h : OfM B pb F n u sv gv ov S gs fl st xs) {g cap : Nat} {T : W4}
    (ho : w'.ownsRow B 65 4 (.slice (some ⟨g, 0, none⟩) (S.length + 1) cap) (S.length + 1) (flatS S ++ [.int .u64 (T.a : Int), .int .u64 (T.b : Int), .int .u64 (T.c : Int), .int .u64 (T.d : Int)])) (hg : u.grownBy w' sv.ownBlock) (hat : sv.ownBlock = some g ∨ g = u.heap.size) :
    OfM B pb (fun k => F k ∨ k = g) n (w'.setCell ⟨pb, 0, none⟩ (.slice (some ⟨g, 0, none⟩) (S.length + 1) cap)) (.slice (some ⟨g, 0, none⟩) (S.length + 1) cap) gv ov (S ++ [T]) gs fl st xs := by
  have hG : ∀ k, (F k ∨ k = g) → F k ∨ u.heap.size ≤ k := fun k hk => by
    rcases hk with hk | rfl
    · exact Or.inl hk
    · rcases hat with h1 | h1
      · exact Or.inl (h.sF k h1).1
      · exact Or.inr (Nat.le_of_eq h1.symm)
  have hpb := h.lk.lt _ h.lk.inF
  have hgl := ho.lt g rfl
  have hgp : g ≠ pb := by
    rcases hat with h1 | h1
    · exact (h.sF g h1).2.1
    · omega
  have hk0 := Kept.of_grown hg
  have hk : Kept (fun k => sv.ownBlock = some k ∨ k = pb) u (w'.setCell ⟨pb, 0, none⟩ (.slice (some ⟨g, 0, none⟩) (S.length + 1) cap)) := (hk0.mono fun k _ e => Or.inl e).setCell fun _ => Or.inr rfl
  have hHG : ∀ k, (sv.ownBlock = some k ∨ k = pb) → (F k ∨ k = g) := fun k e => by
    rcases e with e | rfl
    · exact Or.inl (h.sF k e).1
    · exact Or.inl h.lk.inF
  have hkF : Kept (fun k => F k ∨ k = g) u (w'.setCell ⟨pb, 0, none⟩ (.slice (some ⟨g, 0, none⟩) (S.length + 1) cap)) := hk.mono fun k _ e => hHG k e
  have hb1 : (w'.setCell ⟨pb, 0, none⟩ (.slice (some ⟨g, 0, none⟩) (S.length + 1) cap)).heap[pb]? = some (.cells #[.slice (some ⟨g, 0, none⟩) (S.length + 1) cap, .bool false, nilV, nilV, gv] 88 (0, 0)) := heap_setCell (hk0.blk h.blk (fun e => (h.sF _ e).2.1 rfl))
  have hkp : Kept (oneBlk pb) w' (w'.setCell ⟨pb, 0, none⟩ (.slice (some ⟨g, 0, none⟩) (S.length + 1) cap)) := (Kept.refl _ _).setCell fun _ => rfl
  refine ⟨⟨Nat.le_trans h.lk.base hk.size, fun k hk' => ?_, fun k e => ⟨Or.inl (h.lk.row k e).1, (h.lk.row k e).2⟩, Or.inl h.lk.inF, blk_cell hb1 rfl, own_kept h.lk.own hk (fun k e e' => ?_), (h.lk.nums.more hG).kept hkF, h.lk.len, h.lk.n60, h.lk.good⟩, hb1, ?_, fun k e => ?_, own_kept h.own hk (fun k e e' => ?_), fun k e => ⟨Or.inl (h.oF k e).1, (h.oF k e).2.1, (h.oF k e).2.2.1, fun e' => ?_⟩, (h.pts.more hG).kept hkF⟩
  · rcases hk' with hk' | rfl
    · exact Nat.lt_of_lt_of_le (h.lk.lt k hk') hk.size
    · simpa using hgl.2
  · rcases e' with e' | e'
    · exact (h.sF k e').2.2 e
    · exact (h.lk.row k e).2 e'
  · have := own_kept ho hkp (fun k e e' => by have e2 : g = k := by injection e
                                              have e3 : k = pb := e'
                                              omega)
    unfold OwnS
    rw [flatS_app, List.length_append]
    exact this
  · have e' : g = k := by injection e
    subst e'
    refine ⟨Or.inr rfl, hgp, fun e2 => ?_⟩
    rcases hat with h1 | h1
    · exact (h.sF g h1).2.2 e2
    · have := h.lk.lt _ (h.lk.row g e2).1; omega
  · rcases e' with e' | e'
    · exact (h.oF k e).2.2.2 e'
    · exact (h.oF k e).2.1 e'
  · have e2 : g = k := by injection e'
    subst e2
    rcases hat with h1 | h1
    · exact (h.oF g e).2.2.2 h1
    · have := h.lk.lt _ (h.oF g e).1; omega
/-- one more that nothing stands behind -/
theorem OfM.addFol {B pb n : Nat} {F : Nat → Prop} {u w' : World} {sv gv ov : Value} {S : List W4} {gs : List Value} {fl : List (List Int)} {st : List Rx} {xs : List Value} (h : OfM B pb F n u sv gv ov S gs fl st xs) (hn : n + 1 ≤ 60) {g cap : Nat}
    (ho : w'.ownsRow B 23 1 (.slice (some ⟨g, 0, none⟩) (gs.length + 1) cap) (gs.length + 1) (gs ++ [nilV])) (hg : u.grownBy w' gv.ownBlock) (hat : gv.ownBlock = some g ∨ g = u.heap.size) :
    OfM B pb (fun k => F k ∨ k = g) (n + 1) (w'.setCell ⟨pb, 4, none⟩ (.slice (some ⟨g, 0, none⟩) (gs.length + 1) cap)) sv (.slice (some ⟨g, 0, none⟩) (gs.length + 1) cap) ov S (gs ++ [nilV]) (fl ++ [[]]) st xs := by
  have hG : ∀ k, (F k ∨ k = g) → F k ∨ u.heap.size ≤ k := fun k hk => by
    rcases hk with hk | rfl
    · exact Or.inl hk
    · rcases hat with h1 | h1
      · exact Or.inl (h.lk.row k h1).1
      · exact Or.inr (Nat.le_of_eq h1.symm)
  have hpb := h.lk.lt _ h.lk.inF
  have hgl := ho.lt g rfl
  have hgp : g ≠ pb := by
    rcases hat with h1 | h1
    · exact (h.lk.row g h1).2
    · omega
  have hk0 := Kept.of_grown hg
  have hk : Kept (fun k => gv.ownBlock = some k ∨ k = pb) u (w'.setCell ⟨pb, 4, none⟩ (.slice (some ⟨g, 0, none⟩) (gs.length + 1) cap)) := (hk0.mono fun k _ e => Or.inl e).setCell fun _ => Or.inr rfl
  have hHG : ∀ k, (gv.ownBlock = some k ∨ k = pb) → (F k ∨ k = g) := fun k e => by
    rcases e with e | rfl
    · exact Or.inl (h.lk.row k e).1
    · exact Or.inl h.lk.inF
  have hkF : Kept (fun k => F k ∨ k = g) u (w'.setCell ⟨pb, 4, none⟩ (.slice (some ⟨g, 0, none⟩) (gs.length + 1) cap)) := hk.mono fun k _ e => hHG k e
  have hb1 : (w'.setCell ⟨pb, 4, none⟩ (.slice (some ⟨g, 0, none⟩) (gs.length + 1) cap)).heap[pb]? = some (.cells #[sv, .bool false, nilV, nilV, .slice (some ⟨g, 0, none⟩) (gs.length + 1) cap] 88 (0, 0)) := heap_setCell (hk0.blk h.blk (fun e => (h.lk.row _ e).2 rfl))
  have hkp : Kept (oneBlk pb) w' (w'.setCell ⟨pb, 4, none⟩ (.slice (some ⟨g, 0, none⟩) (gs.length + 1) cap)) := (Kept.refl _ _).setCell fun _ => rfl
  have hl1 : (gs ++ [nilV]).length = gs.length + 1 := by simp
  refine ⟨⟨Nat.le_trans h.lk.base hk.size, fun k hk' => ?_, fun k e => ?_, Or.inl h.lk.inF, blk_cell hb1 rfl, ?_, ((h.lk.nums.more hG).kept hkF).snoc (Nums.nil _) (Off.nil _), by rw [hl1, h.lk.len], hn, fun j => ?_⟩, hb1, own_kept h.sets hk (fun k e e' => ?_), fun k e => ⟨Or.inl (h.sF k e).1, (h.sF k e).2.1, fun e' => ?_⟩, own_kept h.own hk (fun k e e' => ?_), fun k e => ⟨Or.inl (h.oF k e).1, (h.oF k e).2.1, fun e' => ?_, (h.oF k e).2.2.2⟩, (h.pts.more hG).kept hkF⟩
  · rcases hk' with hk' | rfl
    · exact Nat.lt_of_lt_of_le (h.lk.lt k hk') hk.size
    · simpa using hgl.2
  · have e' : g = k := by injection e
    subst e'
    exact ⟨Or.inr rfl, hgp⟩
  · rw [hl1]
    exact own_kept ho hkp (fun k e e' => by have e2 : g = k := by injection e
                                            have e3 : k = pb := e'
                                            omega)
  · rw [getD_snoc]
    split
    · exact ⟨List.Pairwise.nil, fun x hx => absurd hx (List.not_mem_nil)⟩
    · exact ⟨(h.lk.good j).1, fun x hx => by have := (h.lk.good j).2 x hx; omega⟩
  · rcases e' with e' | e'
    · exact (h.sF k e).2.2 e'
    · exact (h.sF k e).2.1 e'
  · have e2 : g = k := by injection e'
    subst e2
    rcases hat with h1 | h1
    · exact (h.sF g e).2.2 h1
    · have := h.lk.lt _ (h.sF g e).1; omega
  · rcases e' with e' | e'
    · exact (h.oF k e).2.2.1 e'
    · exact (h.oF k e).2.1 e'
  · have e2 : g = k := by injection e'
    subst e2
    rcases hat with h1 | h1
    · exact (h.oF g e).2.2.1 h1
    · have := h.lk.lt _ (h.oF g e).1; omega
/-- the first of them -/
theorem OfM.cut {B pb n : Nat} {F : Nat → Prop} {w : World} {sv gv : Value} {S : List W4} {gs : List Value} {fl : List (List Int)} {st r : List Rx} {xs ys : List Value} {g m cap : Nat} (h : OfM B pb F n w sv gv (.slice (some ⟨g, 0, none⟩) m cap) S gs fl st xs) (hm : m = st.length) (hr : r.length ≤ st.length) (hy : xs.take (r.length * 3) = ys) (hp : PtS F w r ys) :
    OfM B pb F n w sv gv (.slice (some ⟨g, 0, none⟩) r.length cap) S gs fl r ys := by
  subst hm
  refine ⟨h.lk, h.blk, h.sets, h.sF, ?_, h.oF, hp⟩
  have := own_cut h.own r.length hr
  rw [hy] at this
  exact this
/-- the last of them anew -/
theorem OfM.put {B pb n : Nat} {F : Nat → Prop} {w : World} {sv gv : Value} {S : List W4} {gs : List Value} {fl : List (List Int)} {a t : Rx} {r : List Rx} {ys : List Value} {x0 x1 x2 fv lv : Value} {g cap : Nat} (h : OfM B pb F n w sv gv (.slice (some ⟨g, 0, none⟩) (r.length + 1) cap) S gs fl (a :: r) (ys ++ [x0, x1, x2])) (hl : ys.length = r.length * 3) (hr : PtS F w r ys) (hp : PtV F w fv lv (firstL t (nS r)) (lastL t (nS r))) :
    OfM B pb F n (((w.setCell ⟨g, r.length * 3, none⟩ (.bool t.null)).setCell ⟨g, r.length * 3 + 1, none⟩ fv).setCell ⟨g, r.length * 3 + 2, none⟩ lv) sv gv (.slice (some ⟨g, 0, none⟩) (r.length + 1) cap) S gs fl (t :: r) (ys ++ [.bool t.null, fv, lv]) := by
  have hx : (((ys ++ [x0, x1, x2]).set (r.length * 3) (.bool t.null)).set (r.length * 3 + 1) fv).set (r.length * 3 + 2) lv = ys ++ [.bool t.null, fv, lv] := by
    rw [← hl, List.set_append_right _ _ (by omega), List.set_append_right _ _ (by omega), List.set_append_right _ _ (by omega)]
    simp
  have h0 : w.ownsRow B 109 3 (.slice (some ⟨g, 0, none⟩) (r.length + 1) cap) (r.length + 1) (ys ++ [x0, x1, x2]) := h.own
  have h1 := h0.stored (r.length * 3) (.bool t.null)
  have h2 := h1.1.stored (r.length * 3 + 1) fv
  have h3 := h2.1.stored (r.length * 3 + 2) lv
  rw [hx] at h3
  have hg := h.oF g rfl
  have hk : Kept (oneBlk g) w (((w.setCell ⟨g, r.length * 3, none⟩ (.bool t.null)).setCell ⟨g, r.length * 3 + 1, none⟩ fv).setCell ⟨g, r.length * 3 + 2, none⟩ lv) := (((Kept.refl (oneBlk g) w).setCell (a := ⟨g, r.length * 3, none⟩) (v := .bool t.null) fun _ => show oneBlk g g from rfl).setCell (a := ⟨g, r.length * 3 + 1, none⟩) (v := fv) fun _ => show oneBlk g g from rfl).setCell (a := ⟨g, r.length * 3 + 2, none⟩) (v := lv) fun _ => show oneBlk g g from rfl
  have hkF : Kept F w (((w.setCell ⟨g, r.length * 3, none⟩ (.bool t.null)).setCell ⟨g, r.length * 3 + 1, none⟩ fv).setCell ⟨g, r.length * 3 + 2, none⟩ lv) := hk.mono fun k _ e => by have e' : k = g := e; rw [e']; exact hg.1
  refine ⟨h.lk.grow (H := oneBlk g) (fun k e => Or.inl e) (fun k e => e) (fun k e => Nat.lt_of_lt_of_le (h.lk.lt k e) hk.size) hk (fun k e => by have e' : k = g := e; rw [e']; exact hg.1) (fun e => hg.2.1 e.symm) (fun k e e' => by have e2 : k = g := e'; rw [e2] at e; exact hg.2.2.1 e), hk.blk h.blk (fun e => hg.2.1 e.symm), own_kept h.sets hk (fun k e e' => by have e2 : k = g := e'; rw [e2] at e; exact hg.2.2.2 e), h.sF, h3.1, h.oF, ⟨ys, fv, lv, rfl, hr.kept hkF, hp.kept hkF⟩⟩

end Go.Proofs.YtonlcnmlklaicaaGreatDoor
namespace Go.Proofs.YtonlcnmlklaicaaGreatDoor
open Go.RowKit

end Go.Proofs.YtonlcnmlklaicaaGreatDoor
namespace Go.Proofs.YtonlcnmlklaicaaGreatDoor
open Go.RowKit

set_option maxRecDepth 20000 in
theorem operandsC (op : Int) (w : World) : Calls Tryz.prog 65 #[.int .i64 op] w fun e w' => e = .returned (.int .i64 (wants op)) ∧ w' = w := by
  by_cases h1 : op = 1
  · subst h1; rw [show wants 1 = 0 by decide]; go_enter Tryz.func65, Tryz.ntmps65; go_wp2; go_ret; exact ⟨rfl, rfl⟩
  by_cases h2 : op = 2
  · subst h2; rw [show wants 2 = 0 by decide]; go_enter Tryz.func65, Tryz.ntmps65; go_wp2; go_ret; exact ⟨rfl, rfl⟩
  by_cases h3 : op = 3
  · subst h3; rw [show wants 3 = 2 by decide]; go_enter Tryz.func65, Tryz.ntmps65; go_wp2; go_ret; exact ⟨rfl, rfl⟩
  by_cases h4 : op = 4
  · subst h4; rw [show wants 4 = 2 by decide]; go_enter Tryz.func65, Tryz.ntmps65; go_wp2; go_ret; exact ⟨rfl, rfl⟩
  by_cases h5 : op = 5
  · subst h5; rw [show wants 5 = 1 by decide]; go_enter Tryz.func65, Tryz.ntmps65; go_wp2; go_ret; exact ⟨rfl, rfl⟩
  by_cases h6 : op = 6
  · subst h6; rw [show wants 6 = 1 by decide]; go_enter Tryz.func65, Tryz.ntmps65; go_wp2; go_ret; exact ⟨rfl, rfl⟩
  by_cases h7 : op = 7
  · subst h7; rw [show wants 7 = 1 by decide]; go_enter Tryz.func65, Tryz.ntmps65; go_wp2; go_ret; exact ⟨rfl, rfl⟩
  have c1 : (op == 1) = false := beq_eq_false_iff_ne.2 h1
  have c2 : (op == 2) = false := beq_eq_false_iff_ne.2 h2
  have c3 : (op == 3) = false := beq_eq_false_iff_ne.2 h3
  have c4 : (op == 4) = false := beq_eq_false_iff_ne.2 h4
  have c5 : (op == 5) = false := beq_eq_false_iff_ne.2 h5
  have c6 : (op == 6) = false := beq_eq_false_iff_ne.2 h6
  have c7 : (op == 7) = false := beq_eq_false_iff_ne.2 h7
  have e : wants op = -1 := by unfold wants; rw [if_neg (by omega), if_neg (by omega), if_neg (by omega)]
  rw [e]
  clear h1 h2 h3 h4 h5 h6 h7
  go_enter Tryz.func65, Tryz.ntmps65; go_wp2; go_ret; exact ⟨rfl, rfl⟩

/-- a cell as a value -/
abbrev celV (op : Int) (a b c d : Nat) : Value := .agg #[.int .i64 op, .int .u64 (a : Int), .int .u64 (b : Int), .int .u64 (c : Int), .int .u64 (d : Int)]
theorem cells5 {w : World} {b : Nat} {x0 x1 x2 x3 x4 : Value} {T : TypeId} (h : w.heap[b]? = some (.cells #[x0, x1, x2, x3, x4] T (0, 0))) :
    w.cell? ⟨b, 0, none⟩ = some x0 ∧ w.cell? ⟨b, 1, none⟩ = some x1 ∧ w.cell? ⟨b, 2, none⟩ = some x2 ∧ w.cell? ⟨b, 3, none⟩ = some x3 ∧ w.cell? ⟨b, 4, none⟩ = some x4 := ⟨blk_cell h rfl, blk_cell h rfl, blk_cell h rfl, blk_cell h rfl, blk_cell h rfl⟩

set_option maxRecDepth 20000 in
set_option maxHeartbeats 1000000 in
theorem rightSetC (op : Int) (a b c d : Nat) (w : World) : Calls Tryz.prog 66 #[celV op a b c d] w fun e w' => e = .returned (.bool (!(decide ((⟨a, b, c, d⟩ : W4) = noneB) == (op == 1)))) ∧ Below w.heap.size w w' := by
  have he : ∀ u, (Op.equalIn 10000 65 (.agg #[.int .u64 (a : Int), .int .u64 (b : Int), .int .u64 (c : Int), .int .u64 (d : Int)]) (.agg #[.int .u64 0, .int .u64 0, .int .u64 0, .int .u64 0])).run Tryz.prog u = .ok (decide ((⟨a, b, c, d⟩ : W4) = noneB)) u := fun u => equal4 9998 a b c d 0 0 0 0 u
  generalize decide ((⟨a, b, c, d⟩ : W4) = noneB) = E at he ⊢
  have hb : ∀ x y : Bool, ∀ u, (binOp .eql 4 (.bool x) (.bool y)).run Tryz.prog u = .ok (.bool (x == y)) u := fun x y u => by cases x <;> cases y <;> kernel_rfl
  go_enter Tryz.func66, Tryz.ntmps66
  go_wp2_with fail
  go_quiet (fail)
  go_wp2
  go_ret
  refine ⟨?_, ?_⟩
  · cases E <;> cases (op == 1) <;> rfl
  · exact (al' w _).trans ⟨rfl, rfl, rfl, Nat.le_refl _, fun _ _ => rfl⟩

set_option maxRecDepth 20000 in
set_option maxHeartbeats 4000000 in
theorem rightP (v : Value) (l : List Cel) (w : World) (hA : Cels w v l) : Calls Tryz.prog 49 #[v] w fun e w' => e = .returned (.bool (rightB l)) ∧ Below w.heap.size w w' := by
  obtain ⟨av, cv, rfl, _, _, hFl, hAt⟩ := hA
  have hAt := hid hAt
  by_cases h60 : 60 < l.length
  · have e : rightB l = false := by unfold rightB; rw [decide_eq_false (by omega : ¬ l.length ≤ 60)]; simp
    rw [e]
    have h60z : (60 : Int) < (l.length : Int) := by omega
    go_enter Tryz.func49, Tryz.ntmps49; go_wp2; go_ret; exact ⟨rfl, Below.refl _ _⟩
  have h60z : ¬ (60 : Int) < (l.length : Int) := by omega
  have hend := hid (fun (h : 1 ≤ l.length) d => @right_end l h (by omega) d)
  have hnil : Hid (l.length = 0 → rightB l = false) := hid (fun h => by unfold rightB; rw [decide_eq_false (by omega : ¬ 1 ≤ l.length)]; rfl)
  have hbad := hid (fun k (hk : k ≤ l.length) (h : depthN l k = none) => right_bad (depth_none l h l.length hk))
  have hsucc := hid (fun k d => @depth_succ l k d)
  have GW := hid operandsC
  have GS := hid rightSetC
  generalize rightB l = R at hend hbad hnil ⊢
  go_enter Tryz.func49, Tryz.ntmps49
  go_wp2
  go_loopw [3, 12] (fun d i wr => ∃ (k : Nat) (z : Int), k ≤ l.length ∧ i = .int .i64 k ∧ d = .int .i64 z ∧ Hid (depthN l k = some z) ∧ 0 ≤ z ∧ z ≤ k ∧ Below w.heap.size w wr) (fun _ i _ => l.length - (intOf i).toNat)
  case atStart => exact ⟨0, 0, Nat.zero_le _, rfl, rfl, hid rfl, Int.le_refl _, by omega, Below.refl _ _⟩
  case round =>
    obtain ⟨k, z, hk, rfl, rfl, hdep, hz0, hzk, hbl⟩ := hrel
    by_cases hlt : k < l.length
    · have hltz : (k : Int) < (l.length : Int) := by omega
      obtain ⟨b', o', rfl, hb', hat0⟩ := hAt.out k hlt
      have hat := hat0.keep hbl
      clear hat0
      have hs := hid (hsucc.out k z hdep.out hlt)
      have hbk := hid (hbad.out (k + 1) (by omega))
      generalize l[k] = c at hat hs
      obtain ⟨op, S⟩ := c
      obtain ⟨sa, sb, sc, sd⟩ := S
      obtain ⟨d0, d1, d2, d3, d4⟩ := hat
      simp only at d0 d1 d2 d3 d4
      have GW0 := hid (fun u => GW.out op u)
      have GS0 := hid (fun u => GS.out op sa sb sc sd u)
      have hwl := wants_le op
      have hbb := hid (al' wr (.cells #[.int .i64 op, .int .u64 (sa : Int), .int .u64 (sb : Int), .int .u64 (sc : Int), .int .u64 (sd : Int)] 67))
      unfold badC at hs
      simp only at hs
      generalize wants op = q at GW0 hs hwl
      have hop : decide (op = 1) = (op == 1) := by rw [Bool.eq_iff_iff]; simp
      rw [hop] at hs
      clear hop
      generalize (decide ((⟨sa, sb, sc, sd⟩ : W4) = noneB) == (op == 1)) = E at GS0 hs
      by_cases hq : q < 0
      · have hR : R = false := hbk.out (by rw [hs.out, decide_eq_true hq]; rfl)
        subst hR
        go_wp2_with (go_at_call 65; refine (GW0.out _).mono ?_; rintro e u1 ⟨rfl, hu⟩; subst u1)
        go_ret
        exact ⟨rfl, bl_step hbl hbb.out⟩
      · by_cases hd : z < q
        · have hR : R = false := hbk.out (by rw [hs.out, decide_eq_true hd, Bool.or_true]; rfl)
          subst hR
          go_wp2_with (go_at_call 65; refine (GW0.out _).mono ?_; rintro e u1 ⟨rfl, hu⟩; subst u1)
          go_ret
          exact ⟨rfl, bl_step hbl hbb.out⟩
        · rw [decide_eq_false hq, decide_eq_false hd, Bool.false_or, Bool.false_or] at hs
          cases E with
          | true =>
            have hR : R = false := hbk.out (by rw [hs.out]; rfl)
            subst hR
            clear hs
            go_wp2_with (first
              | (go_at_call 65; refine (GW0.out _).mono ?_; rintro e u1 ⟨rfl, hu⟩; subst u1)
              | (go_at_call 66; refine (GS0.out _).mono ?_; rintro e w1 ⟨rfl, hb1⟩))
            go_ret
            exact ⟨rfl, bl_step (bl_step hbl hbb.out) hb1⟩
          | false =>
            rw [if_neg Bool.false_ne_true] at hs
            go_wp2_with (first
              | (go_at_call 65; refine (GW0.out _).mono ?_; rintro e u1 ⟨rfl, hu⟩; subst u1)
              | (go_at_call 66; refine (GS0.out _).mono ?_; rintro e w1 ⟨rfl, hb1⟩))
            go_roundw
            case rel => exact ⟨k + 1, z - q + 1, by omega, by go_num, by go_num, hs, by omega, by omega, bl_step (bl_step hbl hbb.out) hb1⟩
            case measure => simp [intOf]; omega
    · have hltz : ¬ (k : Int) < (l.length : Int) := by omega
      have e : k = l.length := by omega
      subst e
      by_cases hl0 : l.length = 0
      · have hR := hnil.out hl0
        have hz : z = 0 := by omega
        subst hz
        subst hR
        go_wp2
        go_ret
        exact ⟨rfl, hbl⟩
      · have hR := hend.out (by omega) z hdep.out
        clear hl0
        go_wp2
        go_ret
        exact ⟨by first | rfl | rw [hR], hbl⟩

end Go.Proofs.YtonlcnmlklaicaaGreatDoor
namespace Go.Proofs.YtonlcnmlklaicaaGreatDoor
open Go.RowKit

set_option maxRecDepth 20000 in
theorem Tryz.infoP : (Tryz.prog.info? 109).map (fun i => (i.zero, i.size, i.bytes)) = some (some (.agg #[.bool false, .slice none 0 0, .slice none 0 0]), 3, 56) := by kernel_rfl
set_option maxRecDepth 20000 in
theorem Tryz.infoS4 : (Tryz.prog.info? 65).map (fun i => (i.zero, i.size, i.bytes)) = some (some (.agg #[.int .u64 0, .int .u64 0, .int .u64 0, .int .u64 0]), 4, 32) := by kernel_rfl
set_option maxRecDepth 20000 in
theorem Tryz.infoN : (Tryz.prog.info? 23).map (fun i => (i.zero, i.size, i.bytes)) = some (some (.slice none 0 0), 1, 24) := by kernel_rfl
set_option maxRecDepth 20000 in
theorem Tryz.sizeP (u : World) : (sizeOf 109).run Tryz.prog u = .ok 3 u := by kernel_rfl
set_option maxRecDepth 20000 in
theorem Tryz.elemP : Tryz.prog.elem 107 = 109 := by kernel_rfl
set_option maxRecDepth 20000 in
theorem cutP_hi (g n cap r : Nat) (h : r ≤ cap) (u : World) : (Instr.slice 107 (.slice (some ⟨g, 0, none⟩) n cap) none (some (.int .i64 (r : Int))) none).run Tryz.prog u = .ok (.slice (some ⟨g, 0, none⟩) r cap) u := by
  rw [run_slice_h u 107 _ _ _ Tryz.underlying107 .i64 _ (by omega) (by omega), Tryz.elemP, Tryz.sizeP]
  simp [sliced, Addr.add]

theorem nS_step {st : List Rx} {c : Cel} (h0 : 0 ≤ wants c.op) (h1 : wants c.op ≤ (st.length : Int)) : nS (stepS st c) ≤ nS st + 1 := by
  obtain ⟨op, S⟩ := c
  simp only at h0 h1 ⊢
  rcases wants_cases op h0 with ⟨rfl, hw⟩ | ⟨rfl, hw⟩ | ⟨rfl, hw⟩ | ⟨rfl, hw⟩ | ⟨rfl, hw⟩ | ⟨rfl, hw⟩ | ⟨rfl, hw⟩
  · simp [stepS, nS, nSets]
  · simp [stepS, nS, nSets]
  · rw [hw] at h1
    match st, h1 with
    | b :: a :: r, _ => simp [stepS, nS, nSets]; omega
    | [_], h => simp at h
    | [], h => simp at h
  · rw [hw] at h1
    match st, h1 with
    | b :: a :: r, _ => simp [stepS, nS, nSets]; omega
    | [_], h => simp at h
    | [], h => simp at h
  · rw [hw] at h1
    match st, h1 with
    | a :: r, _ => simp [stepS, nS, nSets]
    | [], h => simp at h
  · rw [hw] at h1
    match st, h1 with
    | a :: r, _ => simp [stepS, nS, nSets]
    | [], h => simp at h
  · rw [hw] at h1
    match st, h1 with
    | a :: r, _ => simp [stepS, nS, nSets]
    | [], h => simp at h
theorem len_step {st : List Rx} {c : Cel} (h0 : 0 ≤ wants c.op) (h1 : wants c.op ≤ (st.length : Int)) : (stepS st c).length ≤ st.length + 1 := by
  have := stepS_len h0 h1
  omega
theorem nS_stK {l : List Cel} (hr : rightB l = true) : ∀ k, k ≤ l.length → nS (stK l k) ≤ k ∧ (stK l k).length ≤ k
  | 0, _ => ⟨Nat.le_refl _, Nat.le_refl _⟩
  | k + 1, hk => by
    have ih := nS_stK hr k (by omega)
    have hw := stK_wants hr k (by omega)
    rw [stK_succ l k (by omega)]
    have h1 := nS_step (c := l[k]) hw.1 hw.2
    have h2 := len_step (c := l[k]) hw.1 hw.2
    omega
theorem firstL_in (t : Rx) (n m : Nat) (h : n + nSets t ≤ m) : InN (firstL t n) m := fun x hx => by
  obtain ⟨k, rfl, hk⟩ := (firstL_mem t n x).1 hx
  have := fst_in t n k hk
  omega
theorem lastL_in (t : Rx) (n m : Nat) (h : n + nSets t ≤ m) : InN (lastL t n) m := fun x hx => by
  obtain ⟨k, rfl, hk⟩ := (lastL_mem t n x).1 hx
  have := lst_in t n k hk
  omega
theorem lastL_cat (a b : Rx) (n : Nat) : lastL (.cat a b) n = if b.null then unionL (lastL a n) (lastL b (n + nSets a)) else lastL b (n + nSets a) := by
  rw [lastL, unionL_comm]
theorem cells5s {w : World} {b : Nat} {x0 x1 x2 x3 x4 : Value} {T : TypeId} (h : w.heap[b]? = some (.cells #[x0, x1, x2, x3, x4] T (0, 0))) :
    w.cell? ⟨b, 0, none⟩ = some x0 ∧ w.cell? ⟨b, 1, none⟩ = some x1 ∧ w.cell? ⟨b, 2, none⟩ = some x2 ∧ w.cell? ⟨b, 3, none⟩ = some x3 ∧ w.cell? ⟨b, 4, none⟩ = some x4 ∧ w.frozen? ⟨b, 0, none⟩ = false ∧ w.frozen? ⟨b, 1, none⟩ = false ∧ w.frozen? ⟨b, 2, none⟩ = false ∧ w.frozen? ⟨b, 3, none⟩ = false ∧ w.frozen? ⟨b, 4, none⟩ = false :=
  ⟨blk_cell h rfl, blk_cell h rfl, blk_cell h rfl, blk_cell h rfl, blk_cell h rfl, blk_frozen h 0, blk_frozen h 1, blk_frozen h 2, blk_frozen h 3, blk_frozen h 4⟩
theorem OfM.start (u : World) (x : Nat) (hx : x < u.heap.size) : OfM u.heap.size u.heap.size (fun k => k = u.heap.size ∨ k ≤ x) 0 (u.alloc (.cells #[nilV, .bool false, nilV, nilV, nilV] 88)) nilV nilV nilV [] [] [] [] [] where
  lk := ⟨by simp, fun k e => (by rw [size_al]; rcases e with e | e <;> omega), fun k e => (by cases e), Or.inl rfl, blk_cell (heap_new u (.cells #[nilV, .bool false, nilV, nilV, nilV] 88)) (by rfl), World.ownsRow_nil _ _ _ _, NumsF.nil _ _, rfl, (by omega), fun j => ⟨List.Pairwise.nil, fun x hx => (by simp at hx)⟩⟩
  blk := heap_new u _
  sets := World.ownsRow_nil _ _ _ _
  sF := fun k e => by cases e
  own := World.ownsRow_nil _ _ _ _
  oF := fun k e => by cases e
  pts := rfl
/-- all blocks up to n are among those that change -/
def LowF (n : Nat) (F : Nat → Prop) : Prop := ∀ k, k ≤ n → F k
theorem LowF.up {n : Nat} {F G : Nat → Prop} (h : LowF n F) (hG : ∀ k, F k → G k) : LowF n G := fun k hk => hG k (h k hk)
/-- spots in memory that lie in none of the blocks F -/
structure SpVF (F : Nat → Prop) (w : World) (sv fv lv gv : Value) (p : Sp) : Prop where
  spv : SpV w sv fv lv gv p
  os : Off F sv
  of : Off F fv
  ol : Off F lv
  og : Off F gv
  oin : ∀ b o n c, gv = .slice (some ⟨b, o, none⟩) n c → ∀ j x, j < p.follow.length → w.cell? ⟨b, o + j, none⟩ = some x → Off F x
theorem off_row {F : Nat → Prop} {w : World} {B n size : Nat} {e : TypeId} {v : Value} {xs : List Value} (h : w.ownsRow B e size v n xs) (hF : ∀ k, F k → k < B) : Off F v := fun ad n c e hn hf => by
  rcases h.2 with ⟨rfl, _⟩ | ⟨g, cap, cur, rfl, hb, _⟩
  · cases e
  · injection e with e1
    cases e1
    have : g < B := hF _ hf
    omega
theorem Off.low {n : Nat} {F : Nat → Prop} {v : Value} (h : Off F v) (hl : LowF n F) : Off (fun k => k < n) v := fun ad m c e h0 hg => h ad m c e h0 (hl _ (Nat.le_of_lt hg))
theorem oin_of {F : Nat → Prop} {m : Nat} {w : World} {B : Nat} {v : Value} {vs : List Value} {ls : List (List Int)} (h : w.ownsRow B 23 1 v vs.length vs) (hn : NumsF F w vs ls) (hl : LowF m F) : ∀ b o n c, v = .slice (some ⟨b, o, none⟩) n c → ∀ j x, j < ls.length → w.cell? ⟨b, o + j, none⟩ = some x → Off (fun k => k < m) x := by
  intro b o n c e j x hj hx
  have h' := h
  have hll := hn.1
  rcases h.2 with ⟨rfl, h0⟩ | ⟨g, cap, cur, rfl, _⟩
  · cases e
  · injection e with e1
    cases e1
    have h2 := h'.cellAt j (by omega)
    rw [Nat.zero_add, h2, List.getElem?_eq_getElem (by omega)] at hx
    have h3 := (hn.2 j).2
    rw [List.getD_eq_getElem?_getD, List.getElem?_eq_getElem (by omega)] at h3
    injection hx with hx
    rw [← hx]
    exact h3.low hl
theorem spvf_mk {F : Nat → Prop} {m pb : Nat} {w : World} {sv fv lv gv : Value} {S : List W4} {nu : Bool} {f l : List Int} {gs : List Value} {fl : List (List Int)} (hs : OwnS w pb sv S) (hfit : ∀ X ∈ S, Fit4 X) (hf : Nums w fv f) (of : Off F fv) (hl : Nums w lv l) (ol : Off F lv) (hg : w.ownsRow pb 23 1 gv gs.length gs) (hn : NumsF F w gs fl) (hX : LowF m F) (hm : m ≤ pb) : SpVF (fun k => k < m) w sv fv lv gv ⟨S, nu, f, l, fl⟩ :=
  ⟨⟨Sets.of_own hs hfit, hf, hl, numss_of (F := F) hg hn⟩, off_row hs (fun _ h => Nat.lt_of_lt_of_le h hm), of.low hX, ol.low hX, off_row hg (fun _ h => Nat.lt_of_lt_of_le h hm), oin_of (F := F) hg hn hX⟩
theorem folOK_start : FolOK (FolS []) (nS []) [] := ⟨rfl, fun _ hj => absurd hj (Nat.not_lt_zero _), fun _ _ hj => absurd hj (Nat.not_lt_zero _)⟩

def put5 (w : World) (b : Nat) (y0 y1 y2 y3 y4 : Value) : World := ((((w.setCell ⟨b, 0, none⟩ y0).setCell ⟨b, 1, none⟩ y1).setCell ⟨b, 2, none⟩ y2).setCell ⟨b, 3, none⟩ y3).setCell ⟨b, 4, none⟩ y4
theorem put5_blk {w : World} {b : Nat} {x0 x1 x2 x3 x4 y0 y1 y2 y3 y4 : Value} {T : TypeId} {fr : Nat × Nat} (h : w.heap[b]? = some (.cells #[x0, x1, x2, x3, x4] T fr)) : (put5 w b y0 y1 y2 y3 y4).heap[b]? = some (.cells #[y0, y1, y2, y3, y4] T fr) := heap_setCell (heap_setCell (heap_setCell (heap_setCell (heap_setCell h))))
theorem put5_kept {F : Nat → Prop} {w u : World} {b : Nat} {y0 y1 y2 y3 y4 : Value} (h : Kept F w u) (hb : F b) : Kept F w (put5 u b y0 y1 y2 y3 y4) := ((((h.setCell fun _ => hb).setCell fun _ => hb).setCell fun _ => hb).setCell fun _ => hb).setCell fun _ => hb
end Go.Proofs.YtonlcnmlklaicaaGreatDoor
