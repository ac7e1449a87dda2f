/- Lists that lie apart from what changes. The contract of sets.Of: the set of the numbers of a list, in memory of the call's own. -/
import Derived.Test.YtgbecehggdkkmaaJ24
import Derived.Test.YtgbecehggdkkmaaJ11
import Derived.Test.YtgbecehggdkkmaaJ17
import Derived.Test.YtgbecehggdkkmaaShelf
import Derived.Laws.OwnMore
import Derived.Deep.RegionLaw
import Derived.Deep.AppendLies
namespace Go.Proofs.Ytgbecehggdkkmaa
open Go.RowKit

theorem Kept.cell {F : Nat → Prop} {w w' : World} (h : Kept F w w') {b o : Nat} {v : Value} (hc : w.cell? ⟨b, o, .none⟩ = some v) (hb : b < w.heap.size) (hn : ¬ F b) : w'.cell? ⟨b, o, .none⟩ = some v := by
  simp only [World.cell?, h.block b hb hn] at hc ⊢
  exact hc
theorem Kept.of_grown {w w' : World} {r : Option Nat} (h : w.grownBy w' r) : Kept (fun k => r = some k) w w' := by
  obtain ⟨h1, h2, h3, h4, h5⟩ := h
  exact ⟨by assumption, by assumption, by assumption, by assumption, fun k hk hn => h5 k hk (fun e => hn (by first | exact e | exact e.symm))⟩
/-- lies in none of the blocks F -/
def Off (F : Nat → Prop) (v : Value) : Prop := ∀ ad n c, v = .slice (some ad) n c → 0 < n → ¬ F ad.block
theorem Off.nil (F : Nat → Prop) : Off F (.slice none 0 0) := fun _ _ _ h => by cases h
theorem Nums.kept {F : Nat → Prop} {w w' : World} {v : Value} {l : List Int} (h : Nums w v l) (hk : Kept F w w') (ho : Off F v) : Nums w' v l := by
  obtain ⟨a, cap, rfl, hc, hn, hat⟩ := h
  refine ⟨a, cap, rfl, hc, hn, fun j hj => ?_⟩
  obtain ⟨b, o, rfl, hlt, h1⟩ := hat j hj
  exact ⟨b, o, rfl, Nat.lt_of_lt_of_le hlt hk.size, hk.cell h1 hlt (ho _ _ _ rfl (by omega))⟩
theorem Off.more {F G : Nat → Prop} {w : World} {v : Value} {l : List Int} (ho : Off F v) (h : Nums w v l) (hG : ∀ k, G k → F k ∨ w.heap.size ≤ k) : Off G v := fun ad n c e hn hg => by
  obtain ⟨a, cap, rfl, hc, hz, hat⟩ := h
  injection e with e1 e2 e3
  subst e1 e2
  obtain ⟨b, o, e, hlt, h1⟩ := hat 0 hn
  rcases hG _ hg with h | h
  · exact ho _ _ _ rfl hn h
  · cases e
    exact absurd hlt (Nat.not_lt.2 h)
theorem Off.new {F : Nat → Prop} {w : World} {B : Nat} {v : Value} {l : List Int} (h : Own w B v l) (hF : ∀ k, F k → k < B) : Off F v := fun ad n c e hn hf => by
  have h' := h
  rcases h.2 with ⟨rfl, _⟩ | ⟨g, cap, cur, rfl, hb, _⟩
  · cases e
  · injection e with e1
    cases e1
    have : g < B := hF _ hf
    omega
abbrev nilV : Value := .slice none 0 0
/-- lists, each apart -/
def NumsF (F : Nat → Prop) (w : World) (vs : List Value) (ls : List (List Int)) : Prop := vs.length = ls.length ∧ ∀ j, Nums w (vs.getD j nilV) (ls.getD j []) ∧ Off F (vs.getD j nilV)
theorem NumsF.kept {F : Nat → Prop} {w w' : World} {vs : List Value} {ls : List (List Int)} (h : NumsF F w vs ls) (hk : Kept F w w') : NumsF F w' vs ls := ⟨h.1, fun j => ⟨(h.2 j).1.kept hk (h.2 j).2, (h.2 j).2⟩⟩
theorem NumsF.more {F G : Nat → Prop} {w : World} {vs : List Value} {ls : List (List Int)} (h : NumsF F w vs ls) (hG : ∀ k, G k → F k ∨ w.heap.size ≤ k) : NumsF G w vs ls := ⟨h.1, fun j => ⟨(h.2 j).1, (h.2 j).2.more (h.2 j).1 hG⟩⟩
theorem NumsF.nil (F : Nat → Prop) (w : World) : NumsF F w [] [] := ⟨rfl, fun _ => ⟨Nums.nil w, Off.nil F⟩⟩
theorem getD_snoc {α : Type} (l : List α) (x d : α) (j : Nat) : (l ++ [x]).getD j d = if j = l.length then x else l.getD j d := by
  simp only [List.getD_eq_getElem?_getD]
  by_cases h : j < l.length
  · rw [List.getElem?_append_left h, if_neg (by omega)]
  · rw [List.getElem?_append_right (by omega)]
    by_cases e : j = l.length
    · subst e; simp
    · rw [if_neg e, List.getElem?_eq_none (by simp; omega), List.getElem?_eq_none (by omega)]
theorem NumsF.snoc {F : Nat → Prop} {w : World} {vs : List Value} {ls : List (List Int)} (h : NumsF F w vs ls) {v : Value} {l : List Int} (hn : Nums w v l) (ho : Off F v) : NumsF F w (vs ++ [v]) (ls ++ [l]) :=
  ⟨by simp [h.1], fun j => by
    rw [getD_snoc, getD_snoc, h.1]
    split
    · exact ⟨hn, ho⟩
    · exact h.2 j⟩
theorem NumsF.set {F : Nat → Prop} {w : World} {vs : List Value} {ls : List (List Int)} (h : NumsF F w vs ls) {v : Value} {l : List Int} (hn : Nums w v l) (ho : Off F v) (i : Nat) : NumsF F w (vs.set i v) (ls.set i l) :=
  ⟨by simp [h.1], fun j => by
    rw [getD_set, getD_set, h.1]
    split
    · exact ⟨hn, ho⟩
    · exact h.2 j⟩
theorem numss_of {F : Nat → Prop} {w : World} {B : Nat} {v : Value} {vs : List Value} {ls : List (List Int)} (h : w.ownsRow B 24 1 v vs.length vs) (hn : NumsF F w vs ls) : Numss w v ls := by
  have h' := h
  have hl := hn.1
  rcases h.2 with ⟨rfl, h0⟩ | ⟨g, cap, cur, rfl, _, _, hc, _⟩
  · have e : ls.length = 0 := by omega
    exact ⟨none, 0, by rw [e], by omega, fun _ => rfl, fun j hj => by omega⟩
  · refine ⟨_, cap, by rw [hl], by omega, (fun h => by cases h), fun j hj => ⟨g, 0, vs.getD j nilV, rfl, (h'.lt g rfl).2, ?_, ?_⟩⟩
    · rw [Nat.zero_add, h'.cellAt j (by omega), List.getD_eq_getElem?_getD, List.getElem?_eq_getElem (by omega)]
      rfl
    · have := (hn.2 j).1
      rwa [List.getD_eq_getElem?_getD (l := ls), List.getElem?_eq_getElem hj] at this
/-- sets in a row of the call's own -/
def flatS (l : List W4) : List Value := l.flatMap fun S => [.int .u64 (S.a : Int), .int .u64 (S.b : Int), .int .u64 (S.c : Int), .int .u64 (S.d : Int)]
theorem flatS_app (l m : List W4) : flatS (l ++ m) = flatS l ++ flatS m := by unfold flatS; rw [List.flatMap_append]
theorem flatS_at : ∀ (l : List W4) (j : Nat) (hj : j < l.length), (flatS l)[j * 4]? = some (.int .u64 (l[j].a : Int)) ∧ (flatS l)[j * 4 + 1]? = some (.int .u64 (l[j].b : Int)) ∧ (flatS l)[j * 4 + 2]? = some (.int .u64 (l[j].c : Int)) ∧ (flatS l)[j * 4 + 3]? = some (.int .u64 (l[j].d : Int))
  | S :: t, 0, _ => by simp [flatS]
  | S :: t, j + 1, hj => by
    have ih := flatS_at t j (by simpa using hj)
    unfold flatS at ih ⊢
    rw [List.flatMap_cons, show (j + 1) * 4 = 4 + j * 4 by omega]
    simp only [Nat.add_assoc]
    rw [List.getElem?_append_right (by simp), List.getElem?_append_right (by simp), List.getElem?_append_right (by simp), List.getElem?_append_right (by simp)]
    simp only [List.length_cons, List.length_nil, Nat.zero_add, List.getElem_cons_succ]
    refine ⟨?_, ?_, ?_, ?_⟩
    · rw [← ih.1]; congr 1; omega
    · rw [← ih.2.1]; congr 1; omega
    · rw [← ih.2.2.1]; congr 1; omega
    · rw [← ih.2.2.2]; congr 1; omega
abbrev OwnS (w : World) (B : Nat) (v : Value) (l : List W4) : Prop := w.ownsRow B 40 4 v l.length (flatS l)
theorem Sets.of_own {w : World} {B : Nat} {v : Value} {l : List W4} (h : OwnS w B v l) (hf : ∀ S ∈ l, Fit4 S) : Sets w v l := by
  have h' := h
  rcases h.2 with ⟨rfl, h0⟩ | ⟨g, cap, cur, rfl, _, _, hc, _⟩
  · exact ⟨none, 0, by rw [h0], by omega, fun _ => rfl, hf, fun j hj => by omega⟩
  · refine ⟨_, cap, rfl, hc, (fun h => by cases h), hf, fun j hj => ⟨g, 0, rfl, (h'.lt g rfl).2, ?_⟩⟩
    obtain ⟨e0, e1, e2, e3⟩ := flatS_at l j hj
    rw [Nat.zero_add]
    exact ⟨(h'.cellAt _ (by omega)).trans e0, (h'.cellAt _ (by omega)).trans e1, (h'.cellAt _ (by omega)).trans e2, (h'.cellAt _ (by omega)).trans e3⟩

/-- a call at a step of a region that draws its order -/
theorem step_call {P : Program} {ops : Array Oper} {o : Oper} {a : Act} {w : World} {K : Act → World → Prop} {Q : Exit → Act → World → Prop} {E : Prop} (hgd : o.guard = none) (f : FuncId) (args : Array Value)
    (hrun : (execOp a.eval o).run P w = .ok (.enter f args) w) {R : Ending → World → Prop} (hc : Calls P f args w R) (h : ∀ e w', R e w' → ∃ v, e = .returned v ∧ K (a.put o.dst v) w') :
    if Region.wanted o (yielded ops a.tmps) = true then Oper.wp P o a w K Q else E := by
  have hw : Region.wanted o (yielded ops a.tmps) = true := by simp [Region.wanted, hgd]
  rw [if_pos hw]
  unfold Oper.wp
  rw [hrun, Oper.upon_enter]
  refine hc.mono fun e w' hr => ?_
  obtain ⟨v, rfl, hk⟩ := h e w' hr
  exact hk

end Go.Proofs.Ytgbecehggdkkmaa
namespace Go.Proofs.Ytgbecehggdkkmaa
open Go.RowKit Go.Sort

theorem own_grow {w : World} {B size n : Nat} {e : TypeId} {v : Value} {xs : List Value} (h : w.ownsRow B e size v n xs) (os : Array Obj) : (grow w os).ownsRow B e size v n xs :=
  own_keep h fun k hk => by
    have := (h.lt k hk).2
    unfold grow
    rw [Array.getElem?_append_left this]
theorem bl_grow {B : Nat} {w0 w : World} (h : Below B w0 w) (hB : B ≤ w.heap.size) (os : Array Obj) : Below B w0 (grow w os) :=
  ⟨h.os, h.tape, h.output, Nat.le_trans h.size (by unfold grow; rw [Array.size_append]; omega), fun k hk => by
    rw [← h.block k hk]; unfold grow; rw [Array.getElem?_append_left (by omega)]⟩
theorem own_holds {w : World} {B : Nat} {v : Value} {l : List Int} (h : Own w B v l) (hv : v ≠ .slice none 0 0) : ∃ g cap, v = .slice (some ⟨g, 0, none⟩) l.length cap ∧ B ≤ g ∧ g < w.heap.size ∧ l.length ≤ cap ∧ Holds (Value.int .i64) w g 0 l.toArray := by
  obtain ⟨g, cap, rfl, h1, h2, h3, _, _, h4⟩ := Lib.holds_of_ownsRow (enc := Value.int .i64) (zs := l) h hv
  exact ⟨g, cap, rfl, h1, h2, h3, h4⟩
theorem own_put {w : World} {B g cap q k : Nat} {l ys : List Int} (h : Own w B (.slice (some ⟨g, 0, none⟩) l.length cap) l) (hy : ys.length = l.length) (hk : k ≤ l.length) (zs : List Int) (hz : ys.take k = zs) :
    Own (putRow (Value.int .i64) (Sort.ahead w q) g 0 ys.toArray) B (.slice (some ⟨g, 0, none⟩) k cap) zs := by
  have := Lib.ownsRow_putRow (enc := Value.int .i64) (zs := l) (ys := ys) (q := q) h hy hk
  subst hz
  unfold Own
  rw [List.length_take, Nat.min_eq_left (by omega)]
  exact this
theorem own_ref {w : World} {B n size : Nat} {e : TypeId} {v : Value} {xs : List Value} (_ : w.ownsRow B e size v n xs) (hB : B ≤ w.heap.size) : Below B w w := (Below.refl _ w).mono hB

def msL (l : List Int) : List Int := l.mergeSort fun x y => decide (x ≤ y)
theorem msL_nil : msL [] = [] := by unfold msL; exact List.mergeSort_nil
theorem msL_len (l : List Int) : (msL l).length = l.length := (List.mergeSort_perm l _).length_eq

set_option maxRecDepth 20000 in
theorem sortOwn (v : Value) (l : List Int) (B : Nat) (w : World) (hB : B ≤ w.heap.size) (hl : l.length ≤ 1000000) (hO : Own w B v l) :
    Calls Try.prog 49 #[v] w fun e w' => e = .returned (.tuple #[]) ∧ Own w' B v (msL l) ∧ Below B w w' := by
  by_cases hv : v = .slice none 0 0
  · subst hv
    have h0 : l = [] := List.length_eq_zero_iff.1 (by rcases hO.2 with ⟨_, h⟩ | ⟨g, cap, cur, h, _⟩; exact h; cases h)
    subst h0
    exact (Try.slices_Sort_int_none none 0 w).mono fun e w' ⟨he, hw⟩ => by subst hw; rw [msL_nil]; exact ⟨he, hO, own_ref hO hB⟩
  · obtain ⟨g, cap, rfl, h1, h2, h3, h4⟩ := own_holds hO hv
    refine (Try.slices_Sort_int g 0 cap l w h4 h2 (by omega)).mono fun e w' ⟨he, n, os, hw⟩ => ?_
    subst hw
    refine ⟨he, own_grow (B := B) ?_ os, bl_grow (Lib.below_putRow (own_ref hO hB) h1) ?_ os⟩
    · have := own_put (q := n) hO (ys := msL l) (msL_len l) (Nat.le_refl _) (msL l) (List.take_of_length_le (by rw [msL_len]; exact Nat.le_refl _))
      rw [msL_len]
      rw [Own, msL_len] at this
      exact this
    · rw [size_putRow]; exact hB

theorem compact_len (l : List Int) : (Lib.compact (msL l)).length ≤ l.length := by
  have := ofL_sorted l
  unfold msL
  rw [this]
  exact ofL_len l

set_option maxRecDepth 20000 in
theorem compactOwn (v : Value) (l : List Int) (B : Nat) (w : World) (hB : B ≤ w.heap.size) (hl : l.length ≤ 1000000) (hO : Own w B v (msL l)) :
    Calls Try.prog 50 #[v] w fun e w' => ∃ v', e = .returned v' ∧ Own w' B v' (ofL l) ∧ Below B w w' := by
  by_cases hv : v = .slice none 0 0
  · subst hv
    have h0 : msL l = [] := List.length_eq_zero_iff.1 (by rcases hO.2 with ⟨_, h⟩ | ⟨g, cap, cur, h, _⟩; exact h; cases h)
    have h1 : l = [] := List.length_eq_zero_iff.1 (by rw [← msL_len, h0]; rfl)
    subst h1
    exact (Try.slices_Compact_int_empty none 0 w).mono fun e w' ⟨he, hw⟩ => by subst hw; rw [msL_nil] at hO; exact ⟨_, he, hO, own_ref hO hB⟩
  · obtain ⟨g, cap, rfl, h1, h2, h3, h4⟩ := own_holds hO hv
    have hml := msL_len l
    have hcl := compact_len l
    refine (Try.slices_Compact_int g 0 cap (msL l) w h4 (by omega) h3).mono fun e w' ⟨he, q, hw⟩ => ?_
    subst hw
    refine ⟨_, he, ?_, Lib.below_putRow (own_ref hO hB) h1⟩
    rw [← ofL_sorted]
    exact own_put hO (by rw [List.length_append, List.length_replicate]; omega) (by omega) _ (List.take_left' rfl)

set_option maxRecDepth 20000 in
set_option maxHeartbeats 1000000 in
theorem setsOf (v : Value) (l : List Int) (w : World) (hl : l.length ≤ 1000000) (hA : Nums w v l) :
    Calls Try.prog 33 #[v] w fun e w' => ∃ v', e = .returned v' ∧ Own w' w.heap.size v' (ofL l) ∧ Below w.heap.size w w' := by
  obtain ⟨i0, hi, hz0, hz1, hz2⟩ := info_parts Try.info3
  have hN : w.ownsRow w.heap.size 3 1 (.slice none 0 0) 0 [] := World.ownsRow_nil w _ _ _
  have G1 : Hid (∀ v u, w.heap.size ≤ u.heap.size → Own u w.heap.size v l → Calls Try.prog 49 #[v] u fun e w' => e = .returned (.tuple #[]) ∧ Own w' w.heap.size v (msL l) ∧ Below w.heap.size u w') := fun v u h1 h2 => sortOwn v l _ u h1 hl h2
  have G2 : Hid (∀ v u, w.heap.size ≤ u.heap.size → Own u w.heap.size v (msL l) → Calls Try.prog 50 #[v] u fun e w' => ∃ v', e = .returned v' ∧ Own w' w.heap.size v' (ofL l) ∧ Below w.heap.size u w') := fun v u h1 h2 => compactOwn v l _ u h1 hl h2
  by_cases h0 : l = []
  · subst h0
    rcases hA.empty with rfl | ⟨a, cap, rfl⟩
    · clear hA
      go_enter Try.func33, Try.ntmps33
      go_wp2_with (first
        | (go_at_call 49; refine (G1.out _ _ (Nat.le_refl _) hN).mono ?_; rintro e w1 ⟨rfl, hO1, hb1⟩)
        | (go_at_call 50; refine (G2.out _ _ hb1.size hO1).mono ?_; rintro e w2 ⟨v2, rfl, hO2, hb2⟩))
      go_ret
      exact ⟨_, rfl, hO2, hb1.trans hb2⟩
    · clear hA
      go_enter Try.func33, Try.ntmps33
      go_wp2_with (first
        | (at_builtin; refine wpList_append_own _ rfl _ _ 24 rfl w.heap.size 3 i0 (.int .i64 0) 1 8 Try.underlying24 hi hz0 hz1 hz2 rfl (by decide) _ _ _ rfl hN a 0 cap [] rfl rfl (by intro j u hj; simp at hj) (by simp) (by unfold maxLen; omega) (by omega) (Nat.le_refl _) ?_; intro v' w0 hO0 hgrow _)
        | (go_at_call 49; refine (G1.out _ _ hgrow.size hO0).mono ?_; rintro e w1 ⟨rfl, hO1, hb1⟩)
        | (go_at_call 50; refine (G2.out _ _ (Nat.le_trans hgrow.size hb1.size) hO1).mono ?_; rintro e w2 ⟨v2, rfl, hO2, hb2⟩))
      go_ret
      exact ⟨_, rfl, hO2, ((below_app0 hN (Below.refl _ w) (Nat.le_refl _) hgrow).trans hb1).trans hb2⟩
  · obtain ⟨b, o, cap, rfl, hcap, hb, hc⟩ := hA.at (List.length_pos_iff.2 h0)
    have hnews := Nums.news hc
    have hone := numCells_one l
    have hnl := numCells_len l
    generalize hcs : numCells l = cs at hnews hone hnl
    clear hA hc
    go_enter Try.func33, Try.ntmps33
    go_wp2_with (first
      | (at_builtin; refine wpList_append_own _ rfl _ _ 24 rfl w.heap.size 3 i0 (.int .i64 0) 1 8 Try.underlying24 hi hz0 hz1 hz2 rfl (by decide) _ _ _ rfl hN ⟨b, o, none⟩ l.length cap cs rfl (by omega) hnews hone (by unfold maxLen; omega) (by omega) (Nat.le_refl _) ?_; intro v' w0 hO0 hgrow _; rw [Nat.zero_add, List.nil_append, ← hcs] at hO0)
      | (go_at_call 49; refine (G1.out _ _ hgrow.size hO0).mono ?_; rintro e w1 ⟨rfl, hO1, hb1⟩)
      | (go_at_call 50; refine (G2.out _ _ (Nat.le_trans hgrow.size hb1.size) hO1).mono ?_; rintro e w2 ⟨v2, rfl, hO2, hb2⟩))
    go_ret
    exact ⟨_, rfl, hO2, ((below_app0 hN (Below.refl _ w) (Nat.le_refl _) hgrow).trans hb1).trans hb2⟩

end Go.Proofs.Ytgbecehggdkkmaa
