/- Places in memory: the object that placesOf fills. A map from texts to their places in a list. (*dfa.meeting).number: states that were met, in a list and in a map. Has of package bytes. -/
import Derived.Test.YtonlcnmlklaicaaGreatDoorJ16
import Derived.Test.YtonlcnmlklaicaaGreatDoorJ17
import Derived.Test.YtonlcnmlklaicaaGreatDoorJ25
import Derived.Test.YtonlcnmlklaicaaGreatDoorJ21
import Derived.Maps.OwnSet
import Derived.Deep.RegionLaw
import Derived.Deep.DrawnRows
import Derived.Maps.AppendAt
import Derived.Deep.RegionHeld3
namespace Go.Proofs.YtonlcnmlklaicaaGreatDoor
open Go.RowKit

theorem SpVF.keep {F : Nat → Prop} {w w' : World} {sv fv lv gv : Value} {p : Sp} (h : SpVF F w sv fv lv gv p) (hb : Below w.heap.size w w') : SpVF F w' sv fv lv gv p :=
  ⟨h.spv.keep hb, h.os, h.of, h.ol, h.og, fun b o n c e j x hj hx => by
    obtain ⟨a, cap, e2, hc, hn, hat⟩ := h.spv.follow
    rw [e] at e2
    injection e2 with e3 e4 e5
    obtain ⟨b', o', x', e6, hlt, h1, _⟩ := hat j hj
    rw [← e3] at e6
    cases e6
    have := keep_cell hb h1
    rw [hx] at this
    injection this with this
    subst this
    exact h.oin b o n c e j _ hj h1⟩
theorem Sets.kept {F : Nat → Prop} {w w' : World} {v : Value} {l : List W4} (h : Sets w v l) (hk : Kept F w w') (ho : Off F v) : Sets w' v l := by
  obtain ⟨a, cap, rfl, hc, hn, hf, hat⟩ := h
  refine ⟨a, cap, rfl, hc, hn, hf, fun j hj => ?_⟩
  obtain ⟨b, o, rfl, hlt, h4⟩ := hat j hj
  have hn : ¬ F b := ho _ _ _ rfl (by omega)
  exact ⟨b, o, rfl, Nat.lt_of_lt_of_le hlt hk.size, hk.cell h4.1 hlt hn, hk.cell h4.2.1 hlt hn, hk.cell h4.2.2.1 hlt hn, hk.cell h4.2.2.2 hlt hn⟩
theorem SpVF.kept {F : Nat → Prop} {w w' : World} {sv fv lv gv : Value} {p : Sp} (h : SpVF F w sv fv lv gv p) (hk : Kept F w w') : SpV w' sv fv lv gv p := by
  refine ⟨h.spv.sets.kept hk h.os, h.spv.first.kept hk h.of, h.spv.last.kept hk h.ol, ?_⟩
  have hog := h.og
  have hoin := h.oin
  obtain ⟨a, cap, rfl, hc, hn, hat⟩ := h.spv.follow
  refine ⟨a, cap, rfl, hc, hn, fun j hj => ?_⟩
  obtain ⟨b, o, x, rfl, hlt, h1, h2⟩ := hat j hj
  have hn : ¬ F b := hog _ _ _ rfl (by omega)
  exact ⟨b, o, x, rfl, Nat.lt_of_lt_of_le hlt hk.size, hk.cell h1 hlt hn, h2.kept hk (hoin b o _ _ rfl j x hj h1)⟩

structure PlO (B pb e : Nat) (F : Nat → Prop) (w : World) (sv bv fv : Value) (S : List W4) (gs : List Value) (G : List (List Int)) (f : List Int) : Prop where
  blk : w.heap[pb]? = some (.cells #[.int .i64 (e : Int), sv, bv, fv] 70 (0, 0))
  sets : OwnS w B sv S
  sF : ∀ k, sv.ownBlock = some k → F k ∧ k ≠ pb ∧ bv.ownBlock ≠ some k ∧ fv.ownBlock ≠ some k
  beh : w.ownsRow B 23 1 bv gs.length gs
  bF : ∀ k, bv.ownBlock = some k → F k ∧ k ≠ pb ∧ fv.ownBlock ≠ some k
  fir : Own w B fv f
  fF : ∀ k, fv.ownBlock = some k → F k ∧ k ≠ pb
  nums : NumsF F w gs G
  inF : F pb
  lt : ∀ k, F k → k < w.heap.size
  base : B ≤ pb
  low : ∀ k, k < B → F k
theorem PlO.size {B pb e : Nat} {F : Nat → Prop} {w : World} {sv bv fv : Value} {S : List W4} {gs : List Value} {G : List (List Int)} {f : List Int} (h : PlO B pb e F w sv bv fv S gs G f) : B ≤ w.heap.size := Nat.le_of_lt (Nat.lt_of_le_of_lt h.base (blk_lt h.blk))
theorem PlO.keep {B pb e : Nat} {F : Nat → Prop} {w u : World} {sv bv fv : Value} {S : List W4} {gs : List Value} {G : List (List Int)} {f : List Int} (h : PlO B pb e F w sv bv fv S gs G f) (hu : Below w.heap.size w u) : PlO B pb e F u sv bv fv S gs G f :=
  ⟨hs_keep h.blk hu, own_below h.sets hu, h.sF, own_below h.beh hu, h.bF, own_below h.fir hu, h.fF, h.nums.kept (Kept.of_below hu), h.inF, fun k hk => Nat.lt_of_lt_of_le (h.lt k hk) hu.size, h.base, h.low⟩
theorem own_set {w : World} {pb o size n B : Nat} {e : TypeId} {v x : Value} {xs : List Value} (h : w.ownsRow B e size v n xs) (hn : v.ownBlock ≠ some pb) : (w.setCell ⟨pb, o, none⟩ x).ownsRow B e size v n xs :=
  own_keep h fun k hk => Below.heap_setCell w ⟨pb, o, none⟩ x k (fun e => hn (by rw [hk, e]))
theorem cells4p {w : World} {b : Nat} {x0 x1 x2 x3 : Value} {T : TypeId} (h : w.heap[b]? = some (.cells #[x0, x1, x2, x3] T (0, 0))) :
    w.cell? ⟨b, 0, none⟩ = some x0 ∧ w.cell? ⟨b, 1, none⟩ = some x1 ∧ w.cell? ⟨b, 2, none⟩ = some x2 ∧ w.cell? ⟨b, 3, none⟩ = some x3 ∧ w.frozen? ⟨b, 0, none⟩ = false ∧ w.frozen? ⟨b, 1, none⟩ = false ∧ w.frozen? ⟨b, 2, none⟩ = false ∧ w.frozen? ⟨b, 3, none⟩ = false :=
  ⟨blk_cell h rfl, blk_cell h rfl, blk_cell h rfl, blk_cell h rfl, blk_frozen h 0, blk_frozen h 1, blk_frozen h 2, blk_frozen h 3⟩
/-- more of the first ones -/
theorem PlO.addFirst {B pb e : Nat} {F : Nat → Prop} {u w' : World} {sv bv fv v' : Value} {S : List W4} {gs : List Value} {G : List (List Int)} {f f' : List Int} (h : PlO B pb e F u sv bv fv S gs G f)
    (ho : Own w' B v' f') (hg : u.grownBy w' fv.ownBlock) (hat : ∀ k, v'.ownBlock = some k → fv.ownBlock = some k ∨ u.heap.size ≤ k) :
    PlO B pb e (fun k => F k ∨ v'.ownBlock = some k) (w'.setCell ⟨pb, 3, none⟩ v') sv bv v' S gs G f' := by
  have hk := Kept.of_grown hg
  have hpb : ¬ fv.ownBlock = some pb := fun e => (h.fF _ e).2 rfl
  have hb1 := hk.blk h.blk hpb
  have hG : ∀ k, (F k ∨ v'.ownBlock = some k) → F k ∨ u.heap.size ≤ k := fun k hk' => by
    rcases hk' with h1 | h1
    · exact Or.inl h1
    · rcases hat k h1 with h2 | h2
      · exact Or.inl (h.fF k h2).1
      · exact Or.inr h2
  have hpv : v'.ownBlock ≠ some pb := fun e => by
    rcases hat _ e with h1 | h1
    · exact hpb h1
    · have := blk_lt h.blk; omega
  have hkF : Kept (fun k => F k ∨ v'.ownBlock = some k) u (w'.setCell ⟨pb, 3, none⟩ v') := (hk.mono fun k _ e => Or.inl (h.fF k e).1).setCell fun _ => Or.inl h.inF
  refine ⟨heap_setCell hb1, own_set (own_kept h.sets hk fun k e e' => (h.sF k e).2.2.2 e') (fun e => (h.sF _ e).2.1 rfl), fun k e => ⟨Or.inl (h.sF k e).1, (h.sF k e).2.1, (h.sF k e).2.2.1, fun e' => ?_⟩, own_set (own_kept h.beh hk fun k e e' => (h.bF k e).2.2 e') (fun e => (h.bF _ e).2.1 rfl), fun k e => ⟨Or.inl (h.bF k e).1, (h.bF k e).2.1, fun e' => ?_⟩, own_set ho hpv, fun k e => ⟨Or.inr e, fun e' => hpv (by rw [← e']; exact e)⟩, (h.nums.more hG).kept hkF, Or.inl h.inF, fun k hk' => ?_, h.base, fun k hk' => Or.inl (h.low k hk')⟩
  · rcases hat k e' with h1 | h1
    · exact (h.sF k e).2.2.2 h1
    · have := (h.sets.lt k e).2; omega
  · rcases hat k e' with h1 | h1
    · exact (h.bF k e).2.2 h1
    · have := (h.beh.lt k e).2; omega
  · rcases hk' with h1 | h1
    · exact Nat.lt_of_lt_of_le (h.lt k h1) hkF.size
    · have := (ho.lt k h1).2; simpa using this
/-- one set more -/
theorem PlO.addSet {B pb e : Nat} {F : Nat → Prop} {u w' : World} {sv bv fv v' : Value} {S S' : List W4} {gs : List Value} {G : List (List Int)} {f : List Int} (h : PlO B pb e F u sv bv fv S gs G f)
    (ho : OwnS w' B v' S') (hg : u.grownBy w' sv.ownBlock) (hat : ∀ k, v'.ownBlock = some k → sv.ownBlock = some k ∨ u.heap.size ≤ k) :
    PlO B pb e (fun k => F k ∨ v'.ownBlock = some k) (w'.setCell ⟨pb, 1, none⟩ v') v' bv fv S' gs G f := by
  have hk := Kept.of_grown hg
  have hpb : ¬ sv.ownBlock = some pb := fun e => (h.sF _ e).2.1 rfl
  have hb1 := hk.blk h.blk hpb
  have hG : ∀ k, (F k ∨ v'.ownBlock = some k) → F k ∨ u.heap.size ≤ k := fun k hk' => by
    rcases hk' with h1 | h1
    · exact Or.inl h1
    · rcases hat k h1 with h2 | h2
      · exact Or.inl (h.sF k h2).1
      · exact Or.inr h2
  have hpv : v'.ownBlock ≠ some pb := fun e => by
    rcases hat _ e with h1 | h1
    · exact hpb h1
    · have := blk_lt h.blk; omega
  have hkF : Kept (fun k => F k ∨ v'.ownBlock = some k) u (w'.setCell ⟨pb, 1, none⟩ v') := (hk.mono fun k _ e => Or.inl (h.sF k e).1).setCell fun _ => Or.inl h.inF
  refine ⟨heap_setCell hb1, own_set ho hpv, fun k e => ⟨Or.inr e, fun e' => hpv (by rw [← e']; exact e), fun e' => ?_, fun e' => ?_⟩, own_set (own_kept h.beh hk fun k e e' => (h.sF k e').2.2.1 e) (fun e => (h.bF _ e).2.1 rfl), fun k e => ⟨Or.inl (h.bF k e).1, (h.bF k e).2⟩, own_set (own_kept h.fir hk fun k e e' => (h.sF k e').2.2.2 e) (fun e => (h.fF _ e).2 rfl), fun k e => ⟨Or.inl (h.fF k e).1, (h.fF k e).2⟩, (h.nums.more hG).kept hkF, Or.inl h.inF, fun k hk' => ?_, h.base, fun k hk' => Or.inl (h.low k hk')⟩
  · rcases hat k e with h1 | h1
    · exact (h.sF k h1).2.2.1 e'
    · have := (h.beh.lt k e').2; omega
  · rcases hat k e with h1 | h1
    · exact (h.sF k h1).2.2.2 e'
    · have := (h.fir.lt k e').2; omega
  · rcases hk' with h1 | h1
    · exact Nat.lt_of_lt_of_le (h.lt k h1) hkF.size
    · have := (ho.lt k h1).2; simpa using this
/-- one list more of what is behind -/
theorem PlO.addBeh {B pb e : Nat} {F : Nat → Prop} {u w' : World} {sv bv fv v' x : Value} {S : List W4} {gs : List Value} {G : List (List Int)} {f l : List Int} (h : PlO B pb e F u sv bv fv S gs G f) (hx : Nums u x l) (hxo : Off F x)
    (ho : w'.ownsRow B 23 1 v' (gs.length + 1) (gs ++ [x])) (hg : u.grownBy w' bv.ownBlock) (hat : ∀ k, v'.ownBlock = some k → bv.ownBlock = some k ∨ u.heap.size ≤ k) :
    PlO B pb e (fun k => F k ∨ v'.ownBlock = some k) (w'.setCell ⟨pb, 2, none⟩ v') sv v' fv S (gs ++ [x]) (G ++ [l]) f := by
  have hk := Kept.of_grown hg
  have hpb : ¬ bv.ownBlock = some pb := fun e => (h.bF _ e).2.1 rfl
  have hb1 := hk.blk h.blk hpb
  have hG : ∀ k, (F k ∨ v'.ownBlock = some k) → F k ∨ u.heap.size ≤ k := fun k hk' => by
    rcases hk' with h1 | h1
    · exact Or.inl h1
    · rcases hat k h1 with h2 | h2
      · exact Or.inl (h.bF k h2).1
      · exact Or.inr h2
  have hpv : v'.ownBlock ≠ some pb := fun e => by
    rcases hat _ e with h1 | h1
    · exact hpb h1
    · have := blk_lt h.blk; omega
  have hkF : Kept (fun k => F k ∨ v'.ownBlock = some k) u (w'.setCell ⟨pb, 2, none⟩ v') := (hk.mono fun k _ e => Or.inl (h.bF k e).1).setCell fun _ => Or.inl h.inF
  have hlen : (gs ++ [x]).length = gs.length + 1 := by simp
  refine ⟨heap_setCell hb1, own_set (own_kept h.sets hk fun k e e' => (h.sF k e).2.2.1 e') (fun e => (h.sF _ e).2.1 rfl), fun k e => ⟨Or.inl (h.sF k e).1, (h.sF k e).2.1, fun e' => ?_, (h.sF k e).2.2.2⟩, by rw [hlen]; exact own_set ho hpv, fun k e => ⟨Or.inr e, fun e' => hpv (by rw [← e']; exact e), fun e' => ?_⟩, own_set (own_kept h.fir hk fun k e e' => (h.bF k e').2.2 e) (fun e => (h.fF _ e).2 rfl), fun k e => ⟨Or.inl (h.fF k e).1, (h.fF k e).2⟩, ((h.nums.snoc hx hxo).more hG).kept hkF, Or.inl h.inF, fun k hk' => ?_, h.base, fun k hk' => Or.inl (h.low k hk')⟩
  · rcases hat k e' with h1 | h1
    · exact (h.sF k e).2.2.1 h1
    · have := (h.sets.lt k e).2; omega
  · rcases hat k e with h1 | h1
    · exact (h.bF k h1).2.2 e'
    · have := (h.fir.lt k e').2; omega
  · rcases hk' with h1 | h1
    · exact Nat.lt_of_lt_of_le (h.lt k h1) hkF.size
    · have := (ho.lt k h1).2; simpa using this

end Go.Proofs.YtonlcnmlklaicaaGreatDoor
namespace Go.Proofs.YtonlcnmlklaicaaGreatDoor
open Go.RowKit Go.Maps

/-- the map of the first n texts of a list -/
def dT {H : Type} (L : List Txt) : Nat → DataW H
  | 0 => .map []
  | n + 1 => (dT L n).put (.string (L.getD n [])) (.lit (.int .i64 (n : Int)))
theorem dT_map {H : Type} (L : List Txt) : ∀ n, IsMap (dT (H := H) L n)
  | 0 => isMap_empty
  | n + 1 => (dT_map L n).put _ _
theorem idx_nodup {L : List Txt} (hL : L.Nodup) {n : Nat} (h : n < L.length) : L.idxOf L[n] = n := by
  have hm : L.idxOf L[n] < L.length := List.idxOf_lt_length_of_mem (List.getElem_mem h)
  have e : L[L.idxOf L[n]] = L[n] := List.getElem_idxOf hm
  exact (List.getElem?_inj hm hL).1 (by rw [List.getElem?_eq_getElem hm, List.getElem?_eq_getElem h, e])
theorem take_mem_succ {L : List Txt} {n : Nat} (h : n < L.length) (T : Txt) : T ∈ L.take (n + 1) ↔ T ∈ L.take n ∨ T = L.getD n [] := by
  rw [List.take_succ_eq_append_getElem h, List.mem_append, List.mem_singleton, List.getD_eq_getElem?_getD, List.getElem?_eq_getElem h]
  rfl
theorem dT_no {H : Type} (L : List Txt) (T : Txt) : ∀ n, n ≤ L.length → ¬ T ∈ L.take n → Maps.has (dT (H := H) L n) (.string T) = false
  | 0, _, _ => rfl
  | n + 1, hn, h => by
    rw [take_mem_succ (by omega)] at h
    have h1 := dT_no (H := H) L T n (by omega) (fun e => h (Or.inl e))
    rw [dT, has_put_other (fun e => h (Or.inr (by injection e)))]
    exact h1
theorem dT_yes {H : Type} (L : List Txt) (T : Txt) (hL : L.Nodup) : ∀ n, n ≤ L.length → T ∈ L.take n → Maps.has (dT (H := H) L n) (.string T) = true ∧ ∀ z, (dT (H := H) L n).atKey (.string T) z = .lit (.int .i64 (L.idxOf T : Int))
  | 0, _, h => by simp at h
  | n + 1, hn, h => by
    rw [take_mem_succ (by omega)] at h
    have hat : L.getD n [] = L[n] := by rw [List.getD_eq_getElem?_getD, List.getElem?_eq_getElem (by omega)]; rfl
    by_cases e : L.getD n [] = T
    · have hk : WideAt.IsKeyLit (.string T) := trivial
      have hidx : L.idxOf T = n := by rw [← e, hat]; exact idx_nodup hL (by omega)
      rw [dT, e, hidx]
      exact ⟨has_put_same (dT_map L n) hk _, fun z => atKey_put_same (dT_map L n) hk _ z⟩
    · have hne : (Lit.string T) ≠ .string (L.getD n []) := fun e' => e (by injection e' with e'; exact e'.symm)
      have h' : T ∈ L.take n := h.resolve_right fun e2 => e e2.symm
      have ih := dT_yes (H := H) L T hL n (by omega) h'
      rw [dT, has_put_other hne]
      exact ⟨ih.1, fun z => by rw [atKey_put_other hne]; exact ih.2 z⟩
theorem dT_app {H : Type} (L M : List Txt) : ∀ n, n ≤ L.length → dT (H := H) (L ++ M) n = dT L n
  | 0, _ => rfl
  | n + 1, hn => by rw [dT, dT, dT_app L M n (by omega), getD_left (by omega)]
theorem dT_snoc {H : Type} (L : List Txt) (T : Txt) : dT (H := H) (L ++ [T]) (L.length + 1) = (dT L L.length).put (.string T) (.lit (.int .i64 (L.length : Int))) := by
  rw [dT, dT_app L [T] _ (Nat.le_refl _), getD_snoc_at rfl]

end Go.Proofs.YtonlcnmlklaicaaGreatDoor
namespace Go.Proofs.YtonlcnmlklaicaaGreatDoor
open Go.RowKit Go.Maps

/-- the blocks F may have changed, F' are theirs behind -/
structure Mvd (F F' : Nat → Prop) (w w' : World) : Prop where
  kept : Kept F w w'
  new : ∀ k, F' k → F k ∨ w.heap.size ≤ k
theorem Mvd.of_below {F : Nat → Prop} {w w' : World} (h : Below w.heap.size w w') : Mvd F F w w' := ⟨Kept.of_below h, fun _ hk => Or.inl hk⟩
set_option maxRecDepth 20000 in
theorem Mvd.trans {F F' F'' : Nat → Prop} {w u v : World} (h : Mvd F F' w u) (h2 : Mvd F' F'' u v) : Mvd F F'' w v :=
  ⟨h.kept.step h2.kept fun k hk hf => (h.new k hf).resolve_right (by omega), fun k hk => by
    rcases h2.new k hk with h3 | h3
    · exact h.new k h3
    · exact Or.inr (Nat.le_trans h.kept.size h3)⟩
def strCells (L : List Txt) : List Value := L.map fun T => .string (strT T)
abbrev OwnStr (w : World) (B : Nat) (v : Value) (L : List Txt) : Prop := w.ownsRow B 9 1 v L.length (strCells L)
structure MeO (B mb : Nat) (F : Nat → Prop) (w : World) (tv : Value) (mm : Nat) (L : List Txt) : Prop where
  blk : w.heap[mb]? = some (.cells #[tv, .map (some mm)] 76 (0, 0))
  row : OwnStr w B tv L
  map : w.ownsMap Tryz.prog 9 (plainElem (H := Unit) Tryz.prog 3) mm L.length (dT L L.length)
  rF : ∀ k, tv.ownBlock = some k → F k ∧ k ≠ mb ∧ k ≠ mm
  mF : F mm ∧ mm ≠ mb
  inF : F mb
  lt : ∀ k, F k → k < w.heap.size
  base : B ≤ mb
theorem own_map_kept {H : Type} {P : Program} {k : TypeId} {R : Value → Option (DataW H × List MemPlace)} {w w' : World} {b n : Nat} {D : DataW H} (h : w.ownsMap P k R b n D) (hb : w'.heap[b]? = w.heap[b]?) : w'.ownsMap P k R b n D := by
  obtain ⟨es, clock, h1, F, hs, hD⟩ := h
  exact ⟨es, clock, hb.trans h1, F, hs, hD⟩
theorem MeO.keep {B mb mm : Nat} {F : Nat → Prop} {w u : World} {tv : Value} {L : List Txt} (h : MeO B mb F w tv mm L) (hu : Below w.heap.size w u) : MeO B mb F u tv mm L :=
  ⟨hs_keep h.blk hu, own_below h.row hu, own_map_kept h.map (hu.block _ (h.lt _ h.mF.1)), h.rF, h.mF, h.inF, fun k hk => Nat.lt_of_lt_of_le (h.lt k hk) hu.size, h.base⟩
theorem MeO.kept {B mb mm : Nat} {F G : Nat → Prop} {w u : World} {tv : Value} {L : List Txt} (h : MeO B mb F w tv mm L) (hu : Kept G w u) (hG : ∀ k, F k → ¬ G k) : MeO B mb F u tv mm L :=
  ⟨hu.blk h.blk (hG _ h.inF), own_kept h.row hu (fun k e => hG k (h.rF k e).1), own_map_kept h.map (hu.block _ (h.lt _ h.mF.1) (hG _ h.mF.1)), h.rF, h.mF, h.inF, fun k hk => Nat.lt_of_lt_of_le (h.lt k hk) hu.size, h.base⟩
set_option maxRecDepth 20000 in
theorem law9 : Keyed Tryz.prog 9 := string_keyed Tryz.underlying9
set_option maxRecDepth 20000 in
theorem zero3 (w : World) : (zeroValue 3).run Tryz.prog w = .ok (.int .i64 0) w := by kernel_rfl
set_option maxRecDepth 20000 in
theorem keyT (T : Txt) (hT : T.length ≤ 100000) : keyOf Tryz.prog 9 (.string (strT T)) = some (.string T) := WideMaps.keyOf_string_mk Tryz.underlying9 (by show T.toArray.size ≤ maxLen; rw [List.size_toArray]; unfold maxLen; omega)
theorem cells2m {w : World} {b : Nat} {x0 x1 : Value} {T : TypeId} (h : w.heap[b]? = some (.cells #[x0, x1] T (0, 0))) : w.cell? ⟨b, 0, none⟩ = some x0 ∧ w.cell? ⟨b, 1, none⟩ = some x1 ∧ w.frozen? ⟨b, 0, none⟩ = false ∧ w.frozen? ⟨b, 1, none⟩ = false :=
  ⟨blk_cell h rfl, blk_cell h rfl, blk_frozen h 0, blk_frozen h 1⟩
set_option maxRecDepth 20000 in
theorem look_met {u : World} {m : Nat} {L : List Txt} {T : Txt} (h : u.ownsMap Tryz.prog 9 (plainElem (H := Unit) Tryz.prog 3) m L.length (dT L L.length)) (hL : L.Nodup) (hT : T.length ≤ 100000) (hs : T ∈ L) :
    (Instr.lookup 73 (.map (some m)) (.string (strT T)) true).run Tryz.prog u = .ok (.tuple #[.int .i64 (L.idxOf T : Int), .bool true]) u := by
  obtain ⟨v, ps, hrun, hR⟩ := h.look_ok law9 Tryz.underlying73 (zero3 u) (plainElem_int Tryz.underlying3 (WalkArith.wf_i64 (by omega))) (keyT T hT)
  obtain ⟨h1, h2⟩ := dT_yes (H := Unit) L T hL L.length (Nat.le_refl _) (by rw [List.take_length]; exact hs)
  rw [h2] at hR
  obtain ⟨c, rfl, hc, _⟩ := plainElem_int_inv Tryz.underlying3 hR
  simp only [Prod.mk.injEq] at hc
  have hc1 := hc.1
  injection hc1 with hc1
  injection hc1 with _ hc1
  rw [hrun, h1, hc1]
set_option maxRecDepth 20000 in
theorem look_unmet {u : World} {m : Nat} {L : List Txt} {T : Txt} (h : u.ownsMap Tryz.prog 9 (plainElem (H := Unit) Tryz.prog 3) m L.length (dT L L.length)) (hT : T.length ≤ 100000) (hs : ¬ T ∈ L) :
    ∃ c, (Instr.lookup 73 (.map (some m)) (.string (strT T)) true).run Tryz.prog u = .ok (.tuple #[.int .i64 c, .bool false]) u := by
  obtain ⟨v, ps, hrun, hR⟩ := h.look_ok law9 Tryz.underlying73 (zero3 u) (plainElem_int Tryz.underlying3 (WalkArith.wf_i64 (by omega))) (keyT T hT)
  obtain ⟨c, rfl, hc, _⟩ := plainElem_int_inv Tryz.underlying3 hR
  exact ⟨c, by rw [hrun, dT_no (H := Unit) L T L.length (Nat.le_refl _) (by rw [List.take_length]; exact hs)]⟩
def metT (L : List Txt) (T : Txt) : List Txt := if T ∈ L then L else L ++ [T]
set_option maxRecDepth 20000 in
theorem Tryz.infoStr : (Tryz.prog.info? 9).map (fun i => (i.zero, i.size, i.bytes)) = some (some (.string ⟨#[]⟩), 1, 16) := by kernel_rfl
set_option maxRecDepth 20000 in
/-- one state more -/
theorem MeO.add {B mb mm : Nat} {F : Nat → Prop} {w u w' : World} {tv : Value} {L : List Txt} {T : Txt} (h : MeO B mb F w tv mm L)
    (hg1 : w.grownBy u (some mm)) (hmap : u.ownsMap Tryz.prog 9 (plainElem (H := Unit) Tryz.prog 3) mm (L.length + 1) (dT (L ++ [T]) (L.length + 1)))
    {o : Obj} {g cap : Nat} (ho : w'.ownsRow B 9 1 (.slice (some ⟨g, 0, none⟩) (L.length + 1) cap) (L.length + 1) (strCells L ++ [.string (strT T)])) (hg : (u.alloc o).grownBy w' tv.ownBlock) (hat : tv.ownBlock = some g ∨ g = (u.alloc o).heap.size) :
    ∃ F', MeO B mb F' (w'.setCell ⟨mb, 0, none⟩ (.slice (some ⟨g, 0, none⟩) (L.length + 1) cap)) (.slice (some ⟨g, 0, none⟩) (L.length + 1) cap) mm (L ++ [T]) ∧ Mvd F F' w (w'.setCell ⟨mb, 0, none⟩ (.slice (some ⟨g, 0, none⟩) (L.length + 1) cap)) ∧ (∀ k, F k → F' k) := by
  have k1 := Kept.of_grown hg1
  have k2 : Kept (fun k => some mm = some k) w (u.alloc o) := k1.step (Kept.of_below (al' u o) (F := noBlk)) (fun _ _ h => h.elim)
  have k3 := Kept.of_grown hg
  have hsz : w.heap.size ≤ (u.alloc o).heap.size := k2.size
  have hgm : ¬ some mm = some mb := fun e => h.mF.2 (by injection e)
  have hb2 : (u.alloc o).heap[mb]? = _ := k2.blk h.blk hgm
  have htm : ¬ tv.ownBlock = some mb := fun e => (h.rF _ e).2.1 rfl
  have hb3 := k3.blk hb2 htm
  have hgb : g ≠ mb := by
    rcases hat with e | e
    · exact fun e2 => htm (by rw [← e2]; exact e)
    · have := blk_lt hb2; omega
  have hgmm : g ≠ mm := by
    rcases hat with e | e
    · exact (h.rF _ e).2.2
    · have := h.lt _ h.mF.1
      omega
  have hmu : mm < (u.alloc o).heap.size := Nat.lt_of_lt_of_le (h.lt _ h.mF.1) hsz
  have hlen : (L ++ [T]).length = L.length + 1 := by simp
  have kAll : Kept F w (w'.setCell ⟨mb, 0, none⟩ (.slice (some ⟨g, 0, none⟩) (L.length + 1) cap)) :=
    ((k2.mono fun k _ e => by have e' : mm = k := by injection e
                              rw [← e']; exact h.mF.1).step k3 (fun k _ e => (h.rF k e).1)).setCell fun _ => h.inF
  refine ⟨fun k => F k ∨ k = g, ⟨heap_setCell hb3, ?_, ?_, fun k e => ?_, ⟨Or.inl h.mF.1, h.mF.2⟩, Or.inl h.inF, fun k e => ?_, h.base⟩, ⟨kAll, fun k e => ?_⟩, fun k e => Or.inl e⟩
  · have := own_set (pb := mb) (o := 0) (x := .slice (some ⟨g, 0, none⟩) (L.length + 1) cap) ho (fun e => hgb (by injection e))
    unfold OwnStr
    rw [hlen]
    unfold strCells at this ⊢
    rw [List.map_append]
    exact this
  · have hum : (u.alloc o).heap[mm]? = u.heap[mm]? := (al' u o).block _ (hmap.lt)
    rw [hlen]
    refine own_map_kept hmap ?_
    rw [Below.heap_setCell w' ⟨mb, 0, none⟩ _ mm h.mF.2]
    exact (k3.block mm hmu (fun e => (h.rF _ e).2.2 rfl)).trans hum
  · have e' : g = k := by injection e
    subst e'
    exact ⟨Or.inr rfl, hgb, hgmm⟩
  · rcases e with e | rfl
    · exact Nat.lt_of_lt_of_le (h.lt k e) kAll.size
    · have := (ho.lt k rfl).2
      simpa using this
  · rcases e with e | rfl
    · exact Or.inl e
    · rcases hat with e | e
      · exact Or.inl (h.rF _ e).1
      · exact Or.inr (by omega)
set_option maxRecDepth 20000 in
set_option maxHeartbeats 4000000 in
theorem numberC (B mb mm : Nat) (F : Nat → Prop) (tv : Value) (L : List Txt) (T : Txt) (w : World) (h : MeO B mb F w tv mm L) (hL : L.Nodup) (hn : L.length ≤ 100000) (hT : T.length ≤ 2000) :
    Calls Tryz.prog 27 #[.pointer (some ⟨mb, 0, none⟩), .string (strT T)] w fun e w' => e = .returned (.int .i64 (L.idxOf T : Int)) ∧ ∃ F' tv', MeO B mb F' w' tv' mm (metT L T) ∧ Mvd F F' w w' ∧ (∀ k, F k → F' k) := by
  obtain ⟨c0, c1, f0, f1⟩ := cells2m h.blk
  by_cases hm : T ∈ L
  · have hlk := look_met h.map hL (by omega) hm
    have hres : Hid (∃ F' tv', MeO B mb F' w tv' mm (metT L T) ∧ Mvd F F' w w ∧ (∀ k, F k → F' k)) := hid ⟨F, tv, by unfold metT; rw [if_pos hm]; exact h, Mvd.of_below (Below.refl _ _), fun _ h => h⟩
    clear h
    go_enter Tryz.func27, Tryz.ntmps27
    go_wp2
    go_ret
    exact ⟨rfl, hres.out⟩
  · obtain ⟨c, hlk⟩ := look_unmet h.map (T := T) (by omega) hm
    have hidx : L.idxOf T = L.length := List.idxOf_eq_length hm
    rw [hidx]
    obtain ⟨ta, tc, rfl⟩ := own_shape h.row
    have hval : plainElem (H := Unit) Tryz.prog 3 (.int .i64 (L.length : Int)) = some (.lit (.int .i64 (L.length : Int)), []) := plainElem_int Tryz.underlying3 (WalkArith.wf_i64 (by omega))
    obtain ⟨u, hup, hmap, hg1⟩ := World.ownsMap.update h.map law9 Tryz.underlying73 (by unfold maxLen; omega) (keyT T (by omega)) hval
    rw [← dT_snoc] at hmap
    have k1 := Kept.of_grown hg1
    have hgm : ¬ some mm = some mb := fun e => h.mF.2 (by injection e)
    obtain ⟨d0, d1, e0, e1⟩ := cells2m (k1.blk h.blk hgm)
    have hbu := hid (k1.blk h.blk hgm)
    have hru := hid (own_below (own_kept h.row k1 (fun k e e' => (h.rF k e).2.2 (by injection e' with e'; exact e'.symm))) (al' u (.cells #[.string (strT T)] 9)))
    have hcb := hid (hs_keep (k1.blk h.blk hgm) (al' u (.cells #[.string (strT T)] 9)))
    obtain ⟨a0, a1, b0, b1⟩ := cells2m hcb.out
    have hsz := hid (show B ≤ (u.alloc (.cells #[.string (strT T)] 9)).heap.size from Nat.le_of_lt (Nat.lt_of_le_of_lt h.base (blk_lt hcb.out)))
    have hadd := hid (fun g cap w' ho hg hat => MeO.add (T := T) (o := .cells #[.string (strT T)] 9) (g := g) (cap := cap) (w' := w') h hg1 hmap ho hg hat)
    have htb : Hid (¬ (Value.slice ta L.length tc).ownBlock = some mb) := hid (fun e => (h.rF _ e).2.1 rfl)
    have hmet : Hid (metT L T = L ++ [T]) := hid (by unfold metT; rw [if_neg hm])
    obtain ⟨i0, hi, hz0, hz1, hz2⟩ := info_parts Tryz.infoStr
    clear h hmap hg1 k1 hgm hval hm hidx
    go_enter Tryz.func27, Tryz.ntmps27
    go_wp2_with (at_builtin; refine wpList_append_lies _ (by rfl) _ _ _ (by rfl) B 9 i0 (.string ⟨#[]⟩) 1 16 Tryz.underlying74 hi hz0 hz1 hz2 rfl (by decide) (.slice ta L.length tc) L.length (strCells L) (by rfl) hru.out ⟨u.heap.size, 0, none⟩ 1 1 [.string (strT T)] (by rfl) (by rfl) (World.news_of_block (heap_new u (.cells #[.string (strT T)] 9))) (by simp [Value.oneCell']) (by omega) (by (unfold maxLen); omega) (by omega) hsz.out (World.heap (u.alloc (.cells #[.string (strT T)] 9))).size rfl ?_; intro g cap w2 hown2 hgrow2 hat2 hlt2; have hfin := hid (hadd.out g cap w2 hown2 hgrow2 hat2); have hb2 := grown_blk hgrow2 hcb.out htb.out; obtain ⟨x0, x1, y0, y1⟩ := cells2m hb2; clear hb2 hown2 hgrow2 hat2)
    go_ret
    refine ⟨rfl, ?_⟩
    obtain ⟨F', h1, h2, h3⟩ := hfin.out
    exact ⟨F', _, by rw [hmet.out]; exact h1, h2, h3⟩

end Go.Proofs.YtonlcnmlklaicaaGreatDoor
namespace Go.Proofs.YtonlcnmlklaicaaGreatDoor
open Go.RowKit

theorem has_and (n r : Nat) (hn : n < 18446744073709551616) (hr : r < 64) : bits .and .u64 (n : Int) ((2 ^ r : Nat) : Int) = if n.testBit r then ((2 ^ r : Nat) : Int) else 0 := by
  have h2 : 2 ^ r < 18446744073709551616 := Nat.pow_lt_pow_right (a := 2) (by omega) hr
  have e : n &&& 2 ^ r = if n.testBit r then 2 ^ r else 0 := by
    apply Nat.eq_of_testBit_eq
    intro j
    rw [Nat.testBit_and, Nat.testBit_two_pow]
    by_cases hj : r = j
    · subst hj
      cases hb : n.testBit r <;> simp [Nat.testBit_two_pow_self]
    · cases hb : n.testBit r <;> simp [hj]
  rw [u64_and_nat n _ hn h2, e]
  cases n.testBit r <;> simp
theorem not_zero (r : Bool) (m : Nat) (hm : 0 < m) : (!((if r then (m : Int) else 0) == 0)) = r := by
  cases r
  · rfl
  · have : ((m : Int) == 0) = false := beq_eq_false_iff_ne.2 (by omega)
    simp [this]
set_option maxRecDepth 20000 in
set_option maxHeartbeats 2000000 in
theorem hasC' (a b c d x : Nat) (w : World) (hS : Fit4 ⟨a, b, c, d⟩) (hx : x < 256) :
    Calls Tryz.prog 43 #[valB ⟨a, b, c, d⟩, .int .u8 (x : Int)] w fun e w' => e = .returned (.bool (hasB ⟨a, b, c, d⟩ x)) ∧ Below w.heap.size w w' := by
  have hq : (x : Int) / 64 = ((x / 64 : Nat) : Int) := by omega
  have hql : x / 64 = 0 ∨ x / 64 = 1 ∨ x / 64 = 2 ∨ x / 64 = 3 := by omega
  have GB := hid (fun u => bitC x u hx)
  have hand := has_and _ (x % 64) (hS.w (x / 64)) (by omega)
  have hpos : 0 < 2 ^ (x % 64) := Nat.two_pow_pos _
  have hh : hasB ⟨a, b, c, d⟩ x = (W4.w ⟨a, b, c, d⟩ (x / 64)).testBit (x % 64) := rfl
  rw [hh]
  generalize (W4.w ⟨a, b, c, d⟩ (x / 64)).testBit (x % 64) = r at hand ⊢
  generalize 2 ^ (x % 64) = m at GB hand hpos ⊢
  generalize x / 64 = q at hq hql hand
  clear hS hh
  have hbd : Below w.heap.size w (w.alloc (.cells #[.int .u64 (a : Int), .int .u64 (b : Int), .int .u64 (c : Int), .int .u64 (d : Int)] 65)).drew := (al' w _).drew
  rcases hql with rfl | rfl | rfl | rfl
  · have hfin : Hid ((!(bits .and .u64 (a : Int) (m : Int) == 0)) = r) := hid (by rw [show bits .and .u64 (a : Int) (m : Int) = if r then (m : Int) else 0 from hand]; exact not_zero r m hpos)
    go_enter Tryz.func43, Tryz.ntmps43
    go_wp2_with fail
    go_region_with (first | (go_at_call 61; refine (GB.out _).mono ?_; rintro e u1 ⟨rfl, hu⟩; subst u1) | fail)
    all_goals
      go_wp2
      go_ret
      exact ⟨congrArg Ending.returned (congrArg Value.bool hfin.out), hbd⟩
  · have hfin : Hid ((!(bits .and .u64 (b : Int) (m : Int) == 0)) = r) := hid (by rw [show bits .and .u64 (b : Int) (m : Int) = if r then (m : Int) else 0 from hand]; exact not_zero r m hpos)
    go_enter Tryz.func43, Tryz.ntmps43
    go_wp2_with fail
    go_region_with (first | (go_at_call 61; refine (GB.out _).mono ?_; rintro e u1 ⟨rfl, hu⟩; subst u1) | fail)
    all_goals
      go_wp2
      go_ret
      exact ⟨congrArg Ending.returned (congrArg Value.bool hfin.out), hbd⟩
  · have hfin : Hid ((!(bits .and .u64 (c : Int) (m : Int) == 0)) = r) := hid (by rw [show bits .and .u64 (c : Int) (m : Int) = if r then (m : Int) else 0 from hand]; exact not_zero r m hpos)
    go_enter Tryz.func43, Tryz.ntmps43
    go_wp2_with fail
    go_region_with (first | (go_at_call 61; refine (GB.out _).mono ?_; rintro e u1 ⟨rfl, hu⟩; subst u1) | fail)
    all_goals
      go_wp2
      go_ret
      exact ⟨congrArg Ending.returned (congrArg Value.bool hfin.out), hbd⟩
  · have hfin : Hid ((!(bits .and .u64 (d : Int) (m : Int) == 0)) = r) := hid (by rw [show bits .and .u64 (d : Int) (m : Int) = if r then (m : Int) else 0 from hand]; exact not_zero r m hpos)
    go_enter Tryz.func43, Tryz.ntmps43
    go_wp2_with fail
    go_region_with (first | (go_at_call 61; refine (GB.out _).mono ?_; rintro e u1 ⟨rfl, hu⟩; subst u1) | fail)
    all_goals
      go_wp2
      go_ret
      exact ⟨congrArg Ending.returned (congrArg Value.bool hfin.out), hbd⟩


end Go.Proofs.YtonlcnmlklaicaaGreatDoor
