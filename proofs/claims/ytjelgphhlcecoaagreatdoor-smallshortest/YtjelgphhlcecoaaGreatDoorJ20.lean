/- A map from texts to their places in a list. (*dfa.meeting).number: states that were met, in a list and in a map. The reader: what it is; ahead, take, next. The reader: ahead, take, next, rowEnds; which signs are plain. -/
import Derived.Test.YtjelgphhlcecoaaGreatDoorJ19
import Derived.Test.YtjelgphhlcecoaaGreatDoorJ6
import Derived.Maps.OwnSet
import Derived.Deep.RegionLaw
import Derived.Deep.DrawnRows
import Derived.Maps.AppendAt
import Derived.WalkLawsBesides
import Derived.Laws.StandIn
import Derived.Lib.Bytealg
import Derived.Deep.RegionHeld3
namespace Go.Proofs.YtjelgphhlcecoaaGreatDoor
open Go.RowKit Go.Maps

/-- the map of the first n texts of a list -/
def dT {H : Type} (L : List Txt) : Nat → DataW H
  | 0 => .map []
  | n + 1 => (dT L n).put (.string (L.getD n [])) (.lit (.int .i64 (n : Int)))
theorem dT_map {H : Type} (L : List Txt) : ∀ n, IsMap (dT (H := H) L n)
  | 0 => isMap_empty
  | n + 1 => (dT_map L n).put _ _
theorem idx_nodup {L : List Txt} (hL : L.Nodup) {n : Nat} (h : n < L.length) : L.idxOf L[n] = n := by
  have hm : L.idxOf L[n] < L.length := List.idxOf_lt_length_of_mem (List.getElem_mem h)
  have e : L[L.idxOf L[n]] = L[n] := List.getElem_idxOf hm
  exact (List.getElem?_inj hm hL).1 (by rw [List.getElem?_eq_getElem hm, List.getElem?_eq_getElem h, e])
theorem take_mem_succ {L : List Txt} {n : Nat} (h : n < L.length) (T : Txt) : T ∈ L.take (n + 1) ↔ T ∈ L.take n ∨ T = L.getD n [] := by
  rw [List.take_succ_eq_append_getElem h, List.mem_append, List.mem_singleton, List.getD_eq_getElem?_getD, List.getElem?_eq_getElem h]
  rfl
theorem dT_no {H : Type} (L : List Txt) (T : Txt) : ∀ n, n ≤ L.length → ¬ T ∈ L.take n → Maps.has (dT (H := H) L n) (.string T) = false
  | 0, _, _ => rfl
  | n + 1, hn, h => by
    rw [take_mem_succ (by omega)] at h
    have h1 := dT_no (H := H) L T n (by omega) (fun e => h (Or.inl e))
    rw [dT, has_put_other (fun e => h (Or.inr (by injection e)))]
    exact h1
theorem dT_yes {H : Type} (L : List Txt) (T : Txt) (hL : L.Nodup) : ∀ n, n ≤ L.length → T ∈ L.take n → Maps.has (dT (H := H) L n) (.string T) = true ∧ ∀ z, (dT (H := H) L n).atKey (.string T) z = .lit (.int .i64 (L.idxOf T : Int))
  | 0, _, h => by simp at h
  | n + 1, hn, h => by
    rw [take_mem_succ (by omega)] at h
    have hat : L.getD n [] = L[n] := by rw [List.getD_eq_getElem?_getD, List.getElem?_eq_getElem (by omega)]; rfl
    by_cases e : L.getD n [] = T
    · have hk : WideAt.IsKeyLit (.string T) := trivial
      have hidx : L.idxOf T = n := by rw [← e, hat]; exact idx_nodup hL (by omega)
      rw [dT, e, hidx]
      exact ⟨has_put_same (dT_map L n) hk _, fun z => atKey_put_same (dT_map L n) hk _ z⟩
    · have hne : (Lit.string T) ≠ .string (L.getD n []) := fun e' => e (by injection e' with e'; exact e'.symm)
      have h' : T ∈ L.take n := h.resolve_right fun e2 => e e2.symm
      have ih := dT_yes (H := H) L T hL n (by omega) h'
      rw [dT, has_put_other hne]
      exact ⟨ih.1, fun z => by rw [atKey_put_other hne]; exact ih.2 z⟩
theorem dT_app {H : Type} (L M : List Txt) : ∀ n, n ≤ L.length → dT (H := H) (L ++ M) n = dT L n
  | 0, _ => rfl
  | n + 1, hn => by rw [dT, dT, dT_app L M n (by omega), getD_left (by omega)]
theorem dT_snoc {H : Type} (L : List Txt) (T : Txt) : dT (H := H) (L ++ [T]) (L.length + 1) = (dT L L.length).put (.string T) (.lit (.int .i64 (L.length : Int))) := by
  rw [dT, dT_app L [T] _ (Nat.le_refl _), getD_snoc_at rfl]

end Go.Proofs.YtjelgphhlcecoaaGreatDoor
namespace Go.Proofs.YtjelgphhlcecoaaGreatDoor
open Go.RowKit Go.Maps

/-- the blocks F may have changed, F' are theirs behind -/
structure Mvd (F F' : Nat → Prop) (w w' : World) : Prop where
  kept : Kept F w w'
  new : ∀ k, F' k → F k ∨ w.heap.size ≤ k
theorem Mvd.of_below {F : Nat → Prop} {w w' : World} (h : Below w.heap.size w w') : Mvd F F w w' := ⟨Kept.of_below h, fun _ hk => Or.inl hk⟩
set_option maxRecDepth 20000 in
theorem Mvd.trans {F F' F'' : Nat → Prop} {w u v : World} (h : Mvd F F' w u) (h2 : Mvd F' F'' u v) : Mvd F F'' w v :=
  ⟨h.kept.step h2.kept fun k hk hf => (h.new k hf).resolve_right (by omega), fun k hk => by
    rcases h2.new k hk with h3 | h3
    · exact h.new k h3
    · exact Or.inr (Nat.le_trans h.kept.size h3)⟩
def strCells (L : List Txt) : List Value := L.map fun T => .string (strT T)
abbrev OwnStr (w : World) (B : Nat) (v : Value) (L : List Txt) : Prop := w.ownsRow B 9 1 v L.length (strCells L)
structure MeO (B mb : Nat) (F : Nat → Prop) (w : World) (tv : Value) (mm : Nat) (L : List Txt) : Prop where
  blk : w.heap[mb]? = some (.cells #[tv, .map (some mm)] 81 (0, 0))
  row : OwnStr w B tv L
  map : w.ownsMap Tryz.prog 9 (plainElem (H := Unit) Tryz.prog 3) mm L.length (dT L L.length)
  rF : ∀ k, tv.ownBlock = some k → F k ∧ k ≠ mb ∧ k ≠ mm
  mF : F mm ∧ mm ≠ mb
  inF : F mb
  lt : ∀ k, F k → k < w.heap.size
  base : B ≤ mb
theorem own_map_kept {H : Type} {P : Program} {k : TypeId} {R : Value → Option (DataW H × List MemPlace)} {w w' : World} {b n : Nat} {D : DataW H} (h : w.ownsMap P k R b n D) (hb : w'.heap[b]? = w.heap[b]?) : w'.ownsMap P k R b n D := by
  obtain ⟨es, clock, h1, F, hs, hD⟩ := h
  exact ⟨es, clock, hb.trans h1, F, hs, hD⟩
theorem MeO.keep {B mb mm : Nat} {F : Nat → Prop} {w u : World} {tv : Value} {L : List Txt} (h : MeO B mb F w tv mm L) (hu : Below w.heap.size w u) : MeO B mb F u tv mm L :=
  ⟨hs_keep h.blk hu, own_below h.row hu, own_map_kept h.map (hu.block _ (h.lt _ h.mF.1)), h.rF, h.mF, h.inF, fun k hk => Nat.lt_of_lt_of_le (h.lt k hk) hu.size, h.base⟩
theorem MeO.kept {B mb mm : Nat} {F G : Nat → Prop} {w u : World} {tv : Value} {L : List Txt} (h : MeO B mb F w tv mm L) (hu : Kept G w u) (hG : ∀ k, F k → ¬ G k) : MeO B mb F u tv mm L :=
  ⟨hu.blk h.blk (hG _ h.inF), own_kept h.row hu (fun k e => hG k (h.rF k e).1), own_map_kept h.map (hu.block _ (h.lt _ h.mF.1) (hG _ h.mF.1)), h.rF, h.mF, h.inF, fun k hk => Nat.lt_of_lt_of_le (h.lt k hk) hu.size, h.base⟩
set_option maxRecDepth 20000 in
theorem law9 : Keyed Tryz.prog 9 := string_keyed Tryz.underlying9
set_option maxRecDepth 20000 in
theorem zero3 (w : World) : (zeroValue 3).run Tryz.prog w = .ok (.int .i64 0) w := by kernel_rfl
set_option maxRecDepth 20000 in
theorem keyT (T : Txt) (hT : T.length ≤ 100000) : keyOf Tryz.prog 9 (.string (strT T)) = some (.string T) := WideMaps.keyOf_string_mk Tryz.underlying9 (by show T.toArray.size ≤ maxLen; rw [List.size_toArray]; unfold maxLen; omega)
theorem cells2m {w : World} {b : Nat} {x0 x1 : Value} {T : TypeId} (h : w.heap[b]? = some (.cells #[x0, x1] T (0, 0))) : w.cell? ⟨b, 0, none⟩ = some x0 ∧ w.cell? ⟨b, 1, none⟩ = some x1 ∧ w.frozen? ⟨b, 0, none⟩ = false ∧ w.frozen? ⟨b, 1, none⟩ = false :=
  ⟨blk_cell h rfl, blk_cell h rfl, blk_frozen h 0, blk_frozen h 1⟩
set_option maxRecDepth 20000 in
theorem look_met {u : World} {m : Nat} {L : List Txt} {T : Txt} (h : u.ownsMap Tryz.prog 9 (plainElem (H := Unit) Tryz.prog 3) m L.length (dT L L.length)) (hL : L.Nodup) (hT : T.length ≤ 100000) (hs : T ∈ L) :
    (Instr.lookup 79 (.map (some m)) (.string (strT T)) true).run Tryz.prog u = .ok (.tuple #[.int .i64 (L.idxOf T : Int), .bool true]) u := by
  obtain ⟨v, ps, hrun, hR⟩ := h.look_ok law9 Tryz.underlying79 (zero3 u) (plainElem_int Tryz.underlying3 (WalkArith.wf_i64 (by omega))) (keyT T hT)
  obtain ⟨h1, h2⟩ := dT_yes (H := Unit) L T hL L.length (Nat.le_refl _) (by rw [List.take_length]; exact hs)
  rw [h2] at hR
  obtain ⟨c, rfl, hc, _⟩ := plainElem_int_inv Tryz.underlying3 hR
  simp only [Prod.mk.injEq] at hc
  have hc1 := hc.1
  injection hc1 with hc1
  injection hc1 with _ hc1
  rw [hrun, h1, hc1]
set_option maxRecDepth 20000 in
theorem look_unmet {u : World} {m : Nat} {L : List Txt} {T : Txt} (h : u.ownsMap Tryz.prog 9 (plainElem (H := Unit) Tryz.prog 3) m L.length (dT L L.length)) (hT : T.length ≤ 100000) (hs : ¬ T ∈ L) :
    ∃ c, (Instr.lookup 79 (.map (some m)) (.string (strT T)) true).run Tryz.prog u = .ok (.tuple #[.int .i64 c, .bool false]) u := by
  obtain ⟨v, ps, hrun, hR⟩ := h.look_ok law9 Tryz.underlying79 (zero3 u) (plainElem_int Tryz.underlying3 (WalkArith.wf_i64 (by omega))) (keyT T hT)
  obtain ⟨c, rfl, hc, _⟩ := plainElem_int_inv Tryz.underlying3 hR
  exact ⟨c, by rw [hrun, dT_no (H := Unit) L T L.length (Nat.le_refl _) (by rw [List.take_length]; exact hs)]⟩
def metT (L : List Txt) (T : Txt) : List Txt := if T ∈ L then L else L ++ [T]
set_option maxRecDepth 20000 in
theorem Tryz.infoStr : (Tryz.prog.info? 9).map (fun i => (i.zero, i.size, i.bytes)) = some (some (.string ⟨#[]⟩), 1, 16) := by kernel_rfl
set_option maxRecDepth 20000 in
/-- one state more -/
theorem MeO.add {B mb mm : Nat} {F : Nat → Prop} {w u w' : World} {tv : Value} {L : List Txt} {T : Txt} (h : MeO B mb F w tv mm L)
    (hg1 : w.grownBy u (some mm)) (hmap : u.ownsMap Tryz.prog 9 (plainElem (H := Unit) Tryz.prog 3) mm (L.length + 1) (dT (L ++ [T]) (L.length + 1)))
    {o : Obj} {g cap : Nat} (ho : w'.ownsRow B 9 1 (.slice (some ⟨g, 0, none⟩) (L.length + 1) cap) (L.length + 1) (strCells L ++ [.string (strT T)])) (hg : (u.alloc o).grownBy w' tv.ownBlock) (hat : tv.ownBlock = some g ∨ g = (u.alloc o).heap.size) :
    ∃ F', MeO B mb F' (w'.setCell ⟨mb, 0, none⟩ (.slice (some ⟨g, 0, none⟩) (L.length + 1) cap)) (.slice (some ⟨g, 0, none⟩) (L.length + 1) cap) mm (L ++ [T]) ∧ Mvd F F' w (w'.setCell ⟨mb, 0, none⟩ (.slice (some ⟨g, 0, none⟩) (L.length + 1) cap)) ∧ (∀ k, F k → F' k) := by
  have k1 := Kept.of_grown hg1
  have k2 : Kept (fun k => some mm = some k) w (u.alloc o) := k1.step (Kept.of_below (al' u o) (F := noBlk)) (fun _ _ h => h.elim)
  have k3 := Kept.of_grown hg
  have hsz : w.heap.size ≤ (u.alloc o).heap.size := k2.size
  have hgm : ¬ some mm = some mb := fun e => h.mF.2 (by injection e)
  have hb2 : (u.alloc o).heap[mb]? = _ := k2.blk h.blk hgm
  have htm : ¬ tv.ownBlock = some mb := fun e => (h.rF _ e).2.1 rfl
  have hb3 := k3.blk hb2 htm
  have hgb : g ≠ mb := by
    rcases hat with e | e
    · exact fun e2 => htm (by rw [← e2]; exact e)
    · have := blk_lt hb2; omega
  have hgmm : g ≠ mm := by
    rcases hat with e | e
    · exact (h.rF _ e).2.2
    · have := h.lt _ h.mF.1
      omega
  have hmu : mm < (u.alloc o).heap.size := Nat.lt_of_lt_of_le (h.lt _ h.mF.1) hsz
  have hlen : (L ++ [T]).length = L.length + 1 := by simp
  have kAll : Kept F w (w'.setCell ⟨mb, 0, none⟩ (.slice (some ⟨g, 0, none⟩) (L.length + 1) cap)) :=
    ((k2.mono fun k _ e => by have e' : mm = k := by injection e
                              rw [← e']; exact h.mF.1).step k3 (fun k _ e => (h.rF k e).1)).setCell fun _ => h.inF
  refine ⟨fun k => F k ∨ k = g, ⟨heap_setCell hb3, ?_, ?_, fun k e => ?_, ⟨Or.inl h.mF.1, h.mF.2⟩, Or.inl h.inF, fun k e => ?_, h.base⟩, ⟨kAll, fun k e => ?_⟩, fun k e => Or.inl e⟩
  · have := own_set (pb := mb) (o := 0) (x := .slice (some ⟨g, 0, none⟩) (L.length + 1) cap) ho (fun e => hgb (by injection e))
    unfold OwnStr
    rw [hlen]
    unfold strCells at this ⊢
    rw [List.map_append]
    exact this
  · have hum : (u.alloc o).heap[mm]? = u.heap[mm]? := (al' u o).block _ (hmap.lt)
    rw [hlen]
    refine own_map_kept hmap ?_
    rw [Below.heap_setCell w' ⟨mb, 0, none⟩ _ mm h.mF.2]
    exact (k3.block mm hmu (fun e => (h.rF _ e).2.2 rfl)).trans hum
  · have e' : g = k := by injection e
    subst e'
    exact ⟨Or.inr rfl, hgb, hgmm⟩
  · rcases e with e | rfl
    · exact Nat.lt_of_lt_of_le (h.lt k e) kAll.size
    · have := (ho.lt k rfl).2
      simpa using this
  · rcases e with e | rfl
    · exact Or.inl e
    · rcases hat with e | e
      · exact Or.inl (h.rF _ e).1
      · exact Or.inr (by omega)
set_option maxRecDepth 20000 in
set_option maxHeartbeats 4000000 in
theorem numberC (B mb mm : Nat) (F : Nat → Prop) (tv : Value) (L : List Txt) (T : Txt) (w : World) (h : MeO B mb F w tv mm L) (hL : L.Nodup) (hn : L.length ≤ 100000) (hT : T.length ≤ 2000) :
    Calls Tryz.prog 41 #[.pointer (some ⟨mb, 0, none⟩), .string (strT T)] w fun e w' => e = .returned (.int .i64 (L.idxOf T : Int)) ∧ ∃ F' tv', MeO B mb F' w' tv' mm (metT L T) ∧ Mvd F F' w w' ∧ (∀ k, F k → F' k) := by
  obtain ⟨c0, c1, f0, f1⟩ := cells2m h.blk
  by_cases hm : T ∈ L
  · have hlk := look_met h.map hL (by omega) hm
    have hres : Hid (∃ F' tv', MeO B mb F' w tv' mm (metT L T) ∧ Mvd F F' w w ∧ (∀ k, F k → F' k)) := hid ⟨F, tv, by unfold metT; rw [if_pos hm]; exact h, Mvd.of_below (Below.refl _ _), fun _ h => h⟩
    clear h
    go_enter Tryz.func41, Tryz.ntmps41
    go_wp2
    go_ret
    exact ⟨rfl, hres.out⟩
  · obtain ⟨c, hlk⟩ := look_unmet h.map (T := T) (by omega) hm
    have hidx : L.idxOf T = L.length := List.idxOf_eq_length hm
    rw [hidx]
    obtain ⟨ta, tc, rfl⟩ := own_shape h.row
    have hval : plainElem (H := Unit) Tryz.prog 3 (.int .i64 (L.length : Int)) = some (.lit (.int .i64 (L.length : Int)), []) := plainElem_int Tryz.underlying3 (WalkArith.wf_i64 (by omega))
    obtain ⟨u, hup, hmap, hg1⟩ := World.ownsMap.update h.map law9 Tryz.underlying79 (by unfold maxLen; omega) (keyT T (by omega)) hval
    rw [← dT_snoc] at hmap
    have k1 := Kept.of_grown hg1
    have hgm : ¬ some mm = some mb := fun e => h.mF.2 (by injection e)
    obtain ⟨d0, d1, e0, e1⟩ := cells2m (k1.blk h.blk hgm)
    have hbu := hid (k1.blk h.blk hgm)
    have hru := hid (own_below (own_kept h.row k1 (fun k e e' => (h.rF k e).2.2 (by injection e' with e'; exact e'.symm))) (al' u (.cells #[.string (strT T)] 9)))
    have hcb := hid (hs_keep (k1.blk h.blk hgm) (al' u (.cells #[.string (strT T)] 9)))
    obtain ⟨a0, a1, b0, b1⟩ := cells2m hcb.out
    have hsz := hid (show B ≤ (u.alloc (.cells #[.string (strT T)] 9)).heap.size from Nat.le_of_lt (Nat.lt_of_le_of_lt h.base (blk_lt hcb.out)))
    have hadd := hid (fun g cap w' ho hg hat => MeO.add (T := T) (o := .cells #[.string (strT T)] 9) (g := g) (cap := cap) (w' := w') h hg1 hmap ho hg hat)
    have htb : Hid (¬ (Value.slice ta L.length tc).ownBlock = some mb) := hid (fun e => (h.rF _ e).2.1 rfl)
    have hmet : Hid (metT L T = L ++ [T]) := hid (by unfold metT; rw [if_neg hm])
    obtain ⟨i0, hi, hz0, hz1, hz2⟩ := info_parts Tryz.infoStr
    clear h hmap hg1 k1 hgm hval hm hidx
    go_enter Tryz.func41, Tryz.ntmps41
    go_wp2_with (at_builtin; refine wpList_append_lies _ (by rfl) _ _ _ (by rfl) B 9 i0 (.string ⟨#[]⟩) 1 16 Tryz.underlying61 hi hz0 hz1 hz2 rfl (by decide) (.slice ta L.length tc) L.length (strCells L) (by rfl) hru.out ⟨u.heap.size, 0, none⟩ 1 1 [.string (strT T)] (by rfl) (by rfl) (World.news_of_block (heap_new u (.cells #[.string (strT T)] 9))) (by simp [Value.oneCell']) (by omega) (by (unfold maxLen); omega) (by omega) hsz.out (World.heap (u.alloc (.cells #[.string (strT T)] 9))).size rfl ?_; intro g cap w2 hown2 hgrow2 hat2 hlt2; have hfin := hid (hadd.out g cap w2 hown2 hgrow2 hat2); have hb2 := grown_blk hgrow2 hcb.out htb.out; obtain ⟨x0, x1, y0, y1⟩ := cells2m hb2; clear hb2 hown2 hgrow2 hat2)
    go_ret
    refine ⟨rfl, ?_⟩
    obtain ⟨F', h1, h2, h3⟩ := hfin.out
    exact ⟨F', _, by rw [hmet.out]; exact h1, h2, h3⟩

end Go.Proofs.YtjelgphhlcecoaaGreatDoor
namespace Go.Proofs.YtjelgphhlcecoaaGreatDoor
open Go.RowKit

/-- the reader: its text, what is still to be read, its cells -/
def At (w : World) (rb : Nat) (v : Value) (s q : Txt) : Prop := ∃ pre : Txt, s = pre ++ q ∧ w.heap[rb]? = some (.cells #[.string (strT s), .int .i64 (pre.length : Int), v] 89 (0, 0))
theorem At.keep {w w' : World} {rb : Nat} {v : Value} {s q : Txt} (h : At w rb v s q) (hb : Below w.heap.size w w') : At w' rb v s q := by
  obtain ⟨pre, h1, h2⟩ := h
  exact ⟨pre, h1, (hb.block rb (blk_lt h2)).trans h2⟩
theorem rd3 {w : World} {b : Nat} {x0 x1 x2 : Value} {T : TypeId} (h : w.heap[b]? = some (.cells #[x0, x1, x2] T (0, 0))) :
    w.cell? ⟨b, 0, none⟩ = some x0 ∧ w.cell? ⟨b, 1, none⟩ = some x1 ∧ w.cell? ⟨b, 2, none⟩ = some x2 ∧ w.frozen? ⟨b, 1, none⟩ = false ∧ w.frozen? ⟨b, 2, none⟩ = false := ⟨blk_cell h rfl, blk_cell h rfl, blk_cell h rfl, blk_frozen h 1, blk_frozen h 2⟩

set_option maxRecDepth 20000 in
set_option maxHeartbeats 1000000 in
theorem aheadNo (w : World) (rb k : Nat) (v : Value) (S : ByteArray) (z : Int) (_hs : S.size ≤ 1000) (hk : k = S.size) (h : w.heap[rb]? = some (.cells #[.string S, .int .i64 (k : Int), v] 89 (0, 0))) :
    Calls Tryz.prog 77 #[.pointer (some ⟨rb, 0, none⟩), .int .u8 z] w fun e w' => e = .returned (.bool false) ∧ Below w.heap.size w w' := by
  obtain ⟨c0, c1, c2, c3, c4⟩ := rd3 h
  have hlt : ¬ (k : Int) < (S.size : Int) := by omega
  have hd : decide ((k : Int) < (S.size : Int)) = false := decide_eq_false hlt
  clear h
  go_enter Tryz.func77, Tryz.ntmps77
  go_wp2_with fail
  go_quiet (fail)
  go_wp2
  go_ret
  exact ⟨rfl, ⟨rfl, rfl, rfl, Nat.le_refl _, fun _ _ => rfl⟩⟩

set_option maxRecDepth 20000 in
set_option maxHeartbeats 1000000 in
theorem aheadSome (w : World) (rb k : Nat) (v : Value) (S : ByteArray) (z : Int) (_hs : S.size ≤ 1000) (hk : k < S.size) (h : w.heap[rb]? = some (.cells #[.string S, .int .i64 (k : Int), v] 89 (0, 0))) :
    Calls Tryz.prog 77 #[.pointer (some ⟨rb, 0, none⟩), .int .u8 z] w fun e w' => e = .returned (.bool ((S[k].toNat : Int) == z)) ∧ Below w.heap.size w w' := by
  obtain ⟨c0, c1, c2, c3, c4⟩ := rd3 h
  have hlt : (k : Int) < (S.size : Int) := by omega
  clear h
  go_enter Tryz.func77, Tryz.ntmps77
  go_wp2_with fail
  go_quiet (fail)
  go_wp2
  go_ret
  exact ⟨rfl, ⟨rfl, rfl, rfl, Nat.le_refl _, fun _ _ => rfl⟩⟩

end Go.Proofs.YtjelgphhlcecoaaGreatDoor
namespace Go.Proofs.YtjelgphhlcecoaaGreatDoor
open Go.RowKit

theorem at_byte {pre r : Txt} {d : UInt8} (h : pre.length < (strT (pre ++ d :: r)).size) : (strT (pre ++ d :: r))[pre.length] = d := by
  exact (strT_at _ _ h (by simp)).trans (by simp)
theorem byte_eq (d c : UInt8) : (((d.toNat : Int)) == (c.toNat : Int)) = (d == c) := by
  rw [Bool.eq_iff_iff, beq_iff_eq, beq_iff_eq]
  constructor
  · intro h; exact UInt8.toNat_inj.1 (by omega)
  · intro h; rw [h]
set_option maxRecDepth 20000 in
theorem aheadC {w : World} {rb : Nat} {v : Value} {s q : Txt} (h : At w rb v s q) (hs : s.length ≤ 200) (c : UInt8) :
    Calls Tryz.prog 77 #[.pointer (some ⟨rb, 0, none⟩), .int .u8 (c.toNat : Int)] w fun e w' => e = .returned (.bool (q.head? == some c)) ∧ Below w.heap.size w w' := by
  obtain ⟨pre, hp, hb⟩ := h
  have hsz := strT_size s
  cases q with
  | nil => exact aheadNo w rb pre.length v (strT s) _ (by omega) (by rw [hsz, hp]; simp) hb
  | cons d r =>
    have hk : pre.length < (strT s).size := by rw [hsz, hp]; simp
    have := aheadSome w rb pre.length v (strT s) (c.toNat : Int) (by omega) hk hb
    have e : (strT s)[pre.length] = d := by subst hp; exact at_byte hk
    rw [e, byte_eq] at this
    exact this

/-- on by one -/
theorem At.next {w : World} {rb : Nat} {v : Value} {s r : Txt} {d : UInt8} (h : At w rb v s (d :: r)) : ∃ k : Nat, w.cell? ⟨rb, 1, none⟩ = some (.int .i64 (k : Int)) ∧ w.frozen? ⟨rb, 1, none⟩ = false ∧ k < s.length ∧ At (w.setCell ⟨rb, 1, none⟩ (.int .i64 ((k : Int) + 1))) rb v s r := by
  obtain ⟨pre, hp, hb⟩ := h
  obtain ⟨c0, c1, c2, c3, c4⟩ := rd3 hb
  refine ⟨pre.length, c1, c3, by rw [hp]; simp, pre ++ [d], by rw [hp]; simp, ?_⟩
  have := heap_setCell (o := 1) (v := .int .i64 ((pre.length : Int) + 1)) hb
  rw [this]
  simp
theorem set_kept {w : World} {rb o : Nat} {v : Value} : Kept (oneBlk rb) w (w.setCell ⟨rb, o, none⟩ v) := (Kept.refl _ w).setCell (a := ⟨rb, o, none⟩) fun _ => rfl

set_option maxRecDepth 20000 in
theorem takeNo {w : World} {rb : Nat} {v : Value} {s q : Txt} (h : At w rb v s q) (hs : s.length ≤ 200) (c : UInt8) (hc : (q.head? == some c) = false) :
    Calls Tryz.prog 59 #[.pointer (some ⟨rb, 0, none⟩), .int .u8 (c.toNat : Int)] w fun e w' => e = .returned (.bool false) ∧ Below w.heap.size w w' := by
  have GA := hid (aheadC h hs c)
  rw [hc] at GA
  generalize (c.toNat : Int) = z at GA ⊢
  clear h hc
  go_enter Tryz.func59, Tryz.ntmps59
  go_wp2_with (go_at_call 77; refine GA.out.mono ?_; rintro e w1 ⟨rfl, hb1⟩)
  go_ret
  exact ⟨rfl, hb1⟩
set_option maxRecDepth 20000 in
theorem takeYes {w : World} {rb : Nat} {v : Value} {s r : Txt} {c : UInt8} (h : At w rb v s (c :: r)) (hs : s.length ≤ 200) :
    Calls Tryz.prog 59 #[.pointer (some ⟨rb, 0, none⟩), .int .u8 (c.toNat : Int)] w fun e w' => e = .returned (.bool true) ∧ At w' rb v s r ∧ Kept (oneBlk rb) w w' := by
  have GA := hid (aheadC h hs c)
  rw [show ((c :: r).head? == some c) = true by simp] at GA
  generalize (c.toNat : Int) = z at GA ⊢
  have H := hid (fun u (hb : Below w.heap.size w u) => (h.keep hb).next)
  clear h
  go_enter Tryz.func59, Tryz.ntmps59
  go_wp2_with (go_at_call 77; refine GA.out.mono ?_; rintro e w1 ⟨rfl, hb1⟩; obtain ⟨k, c1, c3, hk, hat⟩ := H.out w1 hb1; have hat := hid hat)
  go_ret
  exact ⟨rfl, hat.out, (Kept.of_below hb1).trans set_kept⟩

set_option maxRecDepth 20000 in
theorem nextNo {w : World} {rb : Nat} {v : Value} {s : Txt} (h : At w rb v s []) (_hs : s.length ≤ 200) (p : Int) :
    Calls Tryz.prog 115 #[.pointer (some ⟨rb, 0, none⟩), .int .i64 p] w fun e w' => e = .panicked [{ v := .iface 87 (.int .i64 p), recovered := false }] ∧ Below w.heap.size w w' := by
  obtain ⟨pre, hp, hb⟩ := h
  obtain ⟨c0, c1, c2, c3, c4⟩ := rd3 hb
  have hsz := strT_size s
  have hk : (strT s).size = pre.length := by rw [hsz, hp]; simp
  have hkk : (((pre.length : Int)) == ((strT s).size : Int)) = true := by rw [hk]; simp
  generalize strT s = S at hk c0 hsz hkk
  generalize pre.length = k at hk c1 hkk
  clear hb hp
  go_enter Tryz.func115, Tryz.ntmps115
  go_wp2_with fail
  go_quiet (fail)
  go_wp2
  exact ⟨rfl, rfl, ⟨rfl, rfl, rfl, Nat.le_refl _, fun _ _ => rfl⟩⟩
set_option maxRecDepth 20000 in
theorem nextYes {w : World} {rb : Nat} {v : Value} {s r : Txt} {c : UInt8} (h : At w rb v s (c :: r)) (hs : s.length ≤ 200) (p : Int) :
    Calls Tryz.prog 115 #[.pointer (some ⟨rb, 0, none⟩), .int .i64 p] w fun e w' => e = .returned (.int .u8 (c.toNat : Int)) ∧ At w' rb v s r ∧ Kept (oneBlk rb) w w' := by
  obtain ⟨pre, hp, hb⟩ := h
  have H : Hid (∀ u, Below w.heap.size w u → At (u.setCell ⟨rb, 1, none⟩ (.int .i64 ((pre.length : Int) + 1))) rb v s r) := hid (fun u hu => by
    refine ⟨pre ++ [c], by rw [hp]; simp, ?_⟩
    rw [heap_setCell (o := 1) (v := .int .i64 ((pre.length : Int) + 1)) ((hu.block rb (blk_lt hb)).trans hb)]
    simp)
  obtain ⟨c0, c1, c2, c3, c4⟩ := rd3 hb
  have hsz := strT_size s
  have hk : pre.length < (strT s).size := by rw [hsz, hp]; simp
  have hch : (strT s)[pre.length].toNat = c.toNat := by subst hp; rw [at_byte hk]
  have hkk : (((pre.length : Int)) == ((strT s).size : Int)) = false := beq_eq_false_iff_ne.2 (by omega)
  generalize (c.toNat) = z at hch ⊢
  generalize strT s = S at hk c0 hsz hkk hch
  generalize pre.length = k at hk c1 hkk hch H
  clear hb hp
  go_enter Tryz.func115, Tryz.ntmps115
  go_wp2_with fail
  go_quiet (fail)
  go_wp2_with fail
  go_quiet (fail)
  go_wp2
  go_ret
  have hd : ∀ n, Below w.heap.size w (w.drewN n) := fun n => ⟨rfl, rfl, rfl, Nat.le_refl _, fun _ _ => rfl⟩
  exact ⟨rfl, H.out _ (hd _), (Kept.of_below (hd _)).trans set_kept⟩

set_option maxRecDepth 20000 in
theorem rowEndsNil {w : World} {rb : Nat} {v : Value} {s : Txt} (h : At w rb v s []) (hs : s.length ≤ 200) :
    Calls Tryz.prog 76 #[.pointer (some ⟨rb, 0, none⟩)] w fun e w' => e = .returned (.bool true) ∧ Below w.heap.size w w' := by
  obtain ⟨pre, hp, hb⟩ := h
  obtain ⟨c0, c1, c2, c3, c4⟩ := rd3 hb
  have hsz := strT_size s
  have hk : (strT s).size = pre.length := by rw [hsz, hp]; simp
  have hle : (strT s).size ≤ 200 := by omega
  generalize strT s = S at hk c0 hsz hle
  rw [← hk] at c1
  clear hb hp hsz hk
  go_enter Tryz.func76, Tryz.ntmps76
  go_wp2_with fail
  go_quiet (fail)
  go_wp2
  go_ret
  exact ⟨rfl, ⟨rfl, rfl, rfl, Nat.le_refl _, fun _ _ => rfl⟩⟩

set_option maxRecDepth 20000 in
set_option maxHeartbeats 1000000 in
theorem rowEndsSome {w : World} {rb : Nat} {v : Value} {s r : Txt} {c : UInt8} (h : At w rb v s (c :: r)) (hs : s.length ≤ 200) :
    Calls Tryz.prog 76 #[.pointer (some ⟨rb, 0, none⟩)] w fun e w' => e = .returned (.bool (rowEnd (c :: r))) ∧ Below w.heap.size w w' := by
  have G1 := hid (fun u (hb : Below w.heap.size w u) => aheadC (h.keep hb) hs 124)
  have G2 := hid (fun u (hb : Below w.heap.size w u) => aheadC (h.keep hb) hs 41)
  have hdr : Below w.heap.size w w.drew := (Below.refl _ w).drew
  rw [show rowEnd (c :: r) = (((c :: r).head? == some 124) || ((c :: r).head? == some 41)) from rfl]
  obtain ⟨pre, hp, hb⟩ := h
  obtain ⟨c0, c1, c2, c3, c4⟩ := rd3 hb
  have hsz := strT_size s
  have hlt : pre.length < (strT s).size := by rw [hsz, hp]; simp
  have hle : (strT s).size ≤ 200 := by omega
  have hkk : (((pre.length : Int)) == ((strT s).size : Int)) = false := beq_eq_false_iff_ne.2 (by omega)
  generalize strT s = S at c0 hsz hle hlt hkk
  generalize pre.length = k at c1 hlt hkk
  generalize ((c :: r).head? == some 124) = b1 at G1 ⊢
  generalize ((c :: r).head? == some 41) = b2 at G2 ⊢
  clear hb hp hsz
  cases b1
  · go_enter Tryz.func76, Tryz.ntmps76
    go_wp2_with fail
    go_region_held3 (fun w' => w'.cell? ⟨rb, 0, none⟩ = some (.string S) ∧ w'.cell? ⟨rb, 1, none⟩ = some (.int .i64 (k : Int))) (go_keep) ((first
      | (go_at_call_of 77 (Value.int .u8 124); refine (G1.out _ hdr).mono ?_; rintro e w1 ⟨rfl, hb1'⟩; have hb1 := bl_step hdr hb1'; have := keep_cell hb1 c0; have := keep_cell hb1 c1)
      | (go_at_call_of 77 (Value.int .u8 41); refine (G2.out _ hb1).mono ?_; rintro e w2 ⟨rfl, hb2'⟩; have hb2 := bl_step hb1 hb2'; have := keep_cell hb2 c0; have := keep_cell hb2 c1)))
    all_goals
      go_wp2
      go_ret
      exact ⟨by cases b2 <;> rfl, hb2⟩
  · go_enter Tryz.func76, Tryz.ntmps76
    go_wp2_with fail
    first | (go_region_with (first
      | (go_at_call 77; refine (G1.out _ hdr).mono ?_; rintro e w1 ⟨rfl, hb1'⟩; have hb1 := bl_step hdr hb1'; have := keep_cell hb1 c0; have := keep_cell hb1 c1)
      | fail)) | fail
    all_goals
      go_wp2
      go_ret
      exact ⟨rfl, hb1⟩

set_option maxRecDepth 20000 in
theorem rowEndsC {w : World} {rb : Nat} {v : Value} {s q : Txt} (h : At w rb v s q) (hs : s.length ≤ 200) :
    Calls Tryz.prog 76 #[.pointer (some ⟨rb, 0, none⟩)] w fun e w' => e = .returned (.bool (rowEnd q)) ∧ Below w.heap.size w w' := by
  cases q with
  | nil => exact rowEndsNil h hs
  | cons c r => exact rowEndsSome h hs

end Go.Proofs.YtjelgphhlcecoaaGreatDoor
