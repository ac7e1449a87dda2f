/- The contract of sets.Of: the set of the numbers of a list, in memory of the call's own. slices.Grow, slices.Concat of numbers, sets.Union. spots.Of's link: each of the spots ahead to all of those behind. spots.spot, inTurn. -/
import Derived.Test.YtonlcnmlklaicaaGreatDoorJ9
import Derived.Test.YtonlcnmlklaicaaGreatDoorShelf
import Derived.Test.YtonlcnmlklaicaaGreatDoorJ10
import Derived.Test.YtonlcnmlklaicaaGreatDoorJ12
namespace Go.Proofs.YtonlcnmlklaicaaGreatDoor
open Go.RowKit Go.Sort

theorem own_grow {w : World} {B size n : Nat} {e : TypeId} {v : Value} {xs : List Value} (h : w.ownsRow B e size v n xs) (os : Array Obj) : (grow w os).ownsRow B e size v n xs :=
  own_keep h fun k hk => by
    have := (h.lt k hk).2
    unfold grow
    rw [Array.getElem?_append_left this]
theorem bl_grow {B : Nat} {w0 w : World} (h : Below B w0 w) (hB : B ≤ w.heap.size) (os : Array Obj) : Below B w0 (grow w os) :=
  ⟨h.os, h.tape, h.output, Nat.le_trans h.size (by unfold grow; rw [Array.size_append]; omega), fun k hk => by
    rw [← h.block k hk]; unfold grow; rw [Array.getElem?_append_left (by omega)]⟩
theorem own_holds {w : World} {B : Nat} {v : Value} {l : List Int} (h : Own w B v l) (hv : v ≠ .slice none 0 0) : ∃ g cap, v = .slice (some ⟨g, 0, none⟩) l.length cap ∧ B ≤ g ∧ g < w.heap.size ∧ l.length ≤ cap ∧ Holds (Value.int .i64) w g 0 l.toArray := by
  obtain ⟨g, cap, rfl, h1, h2, h3, _, _, h4⟩ := Lib.holds_of_ownsRow (enc := Value.int .i64) (zs := l) h hv
  exact ⟨g, cap, rfl, h1, h2, h3, h4⟩
theorem own_put {w : World} {B g cap q k : Nat} {l ys : List Int} (h : Own w B (.slice (some ⟨g, 0, none⟩) l.length cap) l) (hy : ys.length = l.length) (hk : k ≤ l.length) (zs : List Int) (hz : ys.take k = zs) :
    Own (putRow (Value.int .i64) (Sort.ahead w q) g 0 ys.toArray) B (.slice (some ⟨g, 0, none⟩) k cap) zs := by
  have := Lib.ownsRow_putRow (enc := Value.int .i64) (zs := l) (ys := ys) (q := q) h hy hk
  subst hz
  unfold Own
  rw [List.length_take, Nat.min_eq_left (by omega)]
  exact this
theorem own_ref {w : World} {B n size : Nat} {e : TypeId} {v : Value} {xs : List Value} (_ : w.ownsRow B e size v n xs) (hB : B ≤ w.heap.size) : Below B w w := (Below.refl _ w).mono hB

def msL (l : List Int) : List Int := l.mergeSort fun x y => decide (x ≤ y)
theorem msL_nil : msL [] = [] := by unfold msL; exact List.mergeSort_nil
theorem msL_len (l : List Int) : (msL l).length = l.length := (List.mergeSort_perm l _).length_eq

set_option maxRecDepth 20000 in
theorem sortOwn (v : Value) (l : List Int) (B : Nat) (w : World) (hB : B ≤ w.heap.size) (hl : l.length ≤ 1000000) (hO : Own w B v l) :
    Calls Tryz.prog 85 #[v] w fun e w' => e = .returned (.tuple #[]) ∧ Own w' B v (msL l) ∧ Below B w w' := by
  by_cases hv : v = .slice none 0 0
  · subst hv
    have h0 : l = [] := List.length_eq_zero_iff.1 (by rcases hO.2 with ⟨_, h⟩ | ⟨g, cap, cur, h, _⟩; exact h; cases h)
    subst h0
    exact (Tryz.slices_Sort_int_none none 0 w).mono fun e w' ⟨he, hw⟩ => by subst hw; rw [msL_nil]; exact ⟨he, hO, own_ref hO hB⟩
  · obtain ⟨g, cap, rfl, h1, h2, h3, h4⟩ := own_holds hO hv
    refine (Tryz.slices_Sort_int g 0 cap l w h4 h2 (by omega)).mono fun e w' ⟨he, n, os, hw⟩ => ?_
    subst hw
    refine ⟨he, own_grow (B := B) ?_ os, bl_grow (Lib.below_putRow (own_ref hO hB) h1) ?_ os⟩
    · have := own_put (q := n) hO (ys := msL l) (msL_len l) (Nat.le_refl _) (msL l) (List.take_of_length_le (by rw [msL_len]; exact Nat.le_refl _))
      rw [msL_len]
      rw [Own, msL_len] at this
      exact this
    · rw [size_putRow]; exact hB

theorem compact_len (l : List Int) : (Lib.compact (msL l)).length ≤ l.length := by
  have := ofL_sorted l
  unfold msL
  rw [this]
  exact ofL_len l

set_option maxRecDepth 20000 in
theorem compactOwn (v : Value) (l : List Int) (B : Nat) (w : World) (hB : B ≤ w.heap.size) (hl : l.length ≤ 1000000) (hO : Own w B v (msL l)) :
    Calls Tryz.prog 86 #[v] w fun e w' => ∃ v', e = .returned v' ∧ Own w' B v' (ofL l) ∧ Below B w w' := by
  by_cases hv : v = .slice none 0 0
  · subst hv
    have h0 : msL l = [] := List.length_eq_zero_iff.1 (by rcases hO.2 with ⟨_, h⟩ | ⟨g, cap, cur, h, _⟩; exact h; cases h)
    have h1 : l = [] := List.length_eq_zero_iff.1 (by rw [← msL_len, h0]; rfl)
    subst h1
    exact (Tryz.slices_Compact_int_empty none 0 w).mono fun e w' ⟨he, hw⟩ => by subst hw; rw [msL_nil] at hO; exact ⟨_, he, hO, own_ref hO hB⟩
  · obtain ⟨g, cap, rfl, h1, h2, h3, h4⟩ := own_holds hO hv
    have hml := msL_len l
    have hcl := compact_len l
    refine (Tryz.slices_Compact_int g 0 cap (msL l) w h4 (by omega) h3).mono fun e w' ⟨he, q, hw⟩ => ?_
    subst hw
    refine ⟨_, he, ?_, Lib.below_putRow (own_ref hO hB) h1⟩
    rw [← ofL_sorted]
    exact own_put hO (by rw [List.length_append, List.length_replicate]; omega) (by omega) _ (List.take_left' rfl)

set_option maxRecDepth 20000 in
set_option maxHeartbeats 1000000 in
theorem setsOf (v : Value) (l : List Int) (w : World) (hl : l.length ≤ 1000000) (hA : Nums w v l) :
    Calls Tryz.prog 67 #[v] w fun e w' => ∃ v', e = .returned v' ∧ Own w' w.heap.size v' (ofL l) ∧ Below w.heap.size w w' := by
  obtain ⟨i0, hi, hz0, hz1, hz2⟩ := info_parts Tryz.info3
  have hN : w.ownsRow w.heap.size 3 1 (.slice none 0 0) 0 [] := World.ownsRow_nil w _ _ _
  have G1 : Hid (∀ v u, w.heap.size ≤ u.heap.size → Own u w.heap.size v l → Calls Tryz.prog 85 #[v] u fun e w' => e = .returned (.tuple #[]) ∧ Own w' w.heap.size v (msL l) ∧ Below w.heap.size u w') := fun v u h1 h2 => sortOwn v l _ u h1 hl h2
  have G2 : Hid (∀ v u, w.heap.size ≤ u.heap.size → Own u w.heap.size v (msL l) → Calls Tryz.prog 86 #[v] u fun e w' => ∃ v', e = .returned v' ∧ Own w' w.heap.size v' (ofL l) ∧ Below w.heap.size u w') := fun v u h1 h2 => compactOwn v l _ u h1 hl h2
  by_cases h0 : l = []
  · subst h0
    rcases hA.empty with rfl | ⟨a, cap, rfl⟩
    · clear hA
      go_enter Tryz.func67, Tryz.ntmps67
      go_wp2_with (first
        | (go_at_call 85; refine (G1.out _ _ (Nat.le_refl _) hN).mono ?_; rintro e w1 ⟨rfl, hO1, hb1⟩)
        | (go_at_call 86; refine (G2.out _ _ hb1.size hO1).mono ?_; rintro e w2 ⟨v2, rfl, hO2, hb2⟩))
      go_ret
      exact ⟨_, rfl, hO2, hb1.trans hb2⟩
    · clear hA
      go_enter Tryz.func67, Tryz.ntmps67
      go_wp2_with (first
        | (at_builtin; refine wpList_append_own _ rfl _ _ 23 rfl w.heap.size 3 i0 (.int .i64 0) 1 8 Tryz.underlying23 hi hz0 hz1 hz2 rfl (by decide) _ _ _ rfl hN a 0 cap [] rfl rfl (by intro j u hj; simp at hj) (by simp) (by unfold maxLen; omega) (by omega) (Nat.le_refl _) ?_; intro v' w0 hO0 hgrow _)
        | (go_at_call 85; refine (G1.out _ _ hgrow.size hO0).mono ?_; rintro e w1 ⟨rfl, hO1, hb1⟩)
        | (go_at_call 86; refine (G2.out _ _ (Nat.le_trans hgrow.size hb1.size) hO1).mono ?_; rintro e w2 ⟨v2, rfl, hO2, hb2⟩))
      go_ret
      exact ⟨_, rfl, hO2, ((below_app0 hN (Below.refl _ w) (Nat.le_refl _) hgrow).trans hb1).trans hb2⟩
  · obtain ⟨b, o, cap, rfl, hcap, hb, hc⟩ := hA.at (List.length_pos_iff.2 h0)
    have hnews := Nums.news hc
    have hone := numCells_one l
    have hnl := numCells_len l
    generalize hcs : numCells l = cs at hnews hone hnl
    clear hA hc
    go_enter Tryz.func67, Tryz.ntmps67
    go_wp2_with (first
      | (at_builtin; refine wpList_append_own _ rfl _ _ 23 rfl w.heap.size 3 i0 (.int .i64 0) 1 8 Tryz.underlying23 hi hz0 hz1 hz2 rfl (by decide) _ _ _ rfl hN ⟨b, o, none⟩ l.length cap cs rfl (by omega) hnews hone (by unfold maxLen; omega) (by omega) (Nat.le_refl _) ?_; intro v' w0 hO0 hgrow _; rw [Nat.zero_add, List.nil_append, ← hcs] at hO0)
      | (go_at_call 85; refine (G1.out _ _ hgrow.size hO0).mono ?_; rintro e w1 ⟨rfl, hO1, hb1⟩)
      | (go_at_call 86; refine (G2.out _ _ (Nat.le_trans hgrow.size hb1.size) hO1).mono ?_; rintro e w2 ⟨v2, rfl, hO2, hb2⟩))
    go_ret
    exact ⟨_, rfl, hO2, ((below_app0 hN (Below.refl _ w) (Nat.le_refl _) hgrow).trans hb1).trans hb2⟩

end Go.Proofs.YtonlcnmlklaicaaGreatDoor
namespace Go.Proofs.YtonlcnmlklaicaaGreatDoor
open Go.RowKit

set_option maxRecDepth 20000 in
theorem growOwn (n : Nat) (w : World) (hn : n ≤ 4000000) :
    Calls Tryz.prog 87 #[.slice none 0 0, .int .i64 n] w fun e w' => ∃ v, e = .returned v ∧ Own w' w.heap.size v [] ∧ Below w.heap.size w w' := by
  by_cases h0 : n = 0
  · subst h0
    exact (Any8.slices_Grow_room Tryz.grow none 0 0 0 w (Nat.le_refl _) (by omega) (by omega) (Nat.le_refl _)).mono fun e w' ⟨he, hw⟩ => by
      subst hw; exact ⟨_, he, World.ownsRow_nil _ _ _ _, Below.refl _ _⟩
  · obtain ⟨i0, hi, hz0, hz1, hz2⟩ := info_parts Tryz.info3
    refine (Any8.slices_Grow_grow Tryz.grow i0 (.int .i64 0) hi hz0 (by omega) none 0 0 n [] w (Nat.le_refl _) (by omega) (by rw [hz2]; omega) (by omega) (by simp) (fun _ => rfl) (fun a h => by cases h)).mono fun e w' ⟨he, hw⟩ => ?_
    subst hw
    have key : ∀ o, (w.drew.alloc o).heap[w.heap.size]? = some o := fun o => by
      show (w.heap.push o)[w.heap.size]? = some o
      simp
    refine ⟨_, he, ⟨rfl, Or.inr ⟨w.heap.size, _, _, rfl, Nat.le_refl _, key _, Nat.zero_le _, grownCap_le_maxLen w _ _ _ (by unfold maxLen; omega), ?_, rfl⟩⟩, (Below.refl _ w).drew.alloc (Nat.le_refl _) _⟩
    have hg := grownCap_ge w n 0 3
    change grownCap w n 0 3 ≥ n at hg
    rw [Array.size_append, Array.size_append, size_zeroCells, size_zeroCells]
    simp only [Value.cells, Nat.zero_add]
    show 0 + (n - 0) * 1 + (grownCap w n 0 3 - n) * 1 = grownCap w n 0 3 * 1
    omega

set_option maxRecDepth 20000 in
set_option maxHeartbeats 2000000 in
theorem concatC (va vb : Value) (la lb : List Int) (h : Nat) (w : World) (hla : la.length ≤ 1000000) (hlb : lb.length ≤ 1000000) (hh : h < w.heap.size) (c0 : w.cell? ⟨h, 0, none⟩ = some va) (c1 : w.cell? ⟨h, 1, none⟩ = some vb) (hA : Nums w va la) (hB : Nums w vb lb) :
    Calls Tryz.prog 68 #[.slice (some ⟨h, 0, none⟩) 2 2] w fun e w' => ∃ v', e = .returned v' ∧ Own w' w.heap.size v' (la ++ lb) ∧ Below w.heap.size w w' := by
  obtain ⟨aa, ca, rfl, hA1⟩ := id hA
  obtain ⟨ab, cb, rfl, hB1⟩ := id hB
  clear hA1 hB1
  have hA' := hid hA
  have hB' := hid hB
  clear hA hB
  have G : Hid (∀ u, Calls Tryz.prog 87 #[.slice none 0 0, .int .i64 ((la.length : Int) + lb.length)] u fun e w' => ∃ v, e = .returned v ∧ Own w' u.heap.size v [] ∧ Below u.heap.size u w') := fun u => by
    have := growOwn (la.length + lb.length) u (by omega)
    rwa [Int.natCast_add] at this
  go_enter Tryz.func68, Tryz.ntmps68
  go_wp2
  go_loop [3, 11] (fun s i => ∃ k : Nat, k ≤ 2 ∧ i = .int .i64 k ∧ s = .int .i64 (if k = 0 then 0 else if k = 1 then (la.length : Int) else (la.length : Int) + lb.length)) (fun _ i => 2 - (intOf i).toNat)
  case atStart => exact ⟨0, Nat.zero_le _, rfl, rfl⟩
  case round =>
    obtain ⟨k, hk, rfl, rfl⟩ := hrel
    have hk3 : k = 0 ∨ k = 1 ∨ k = 2 := by omega
    rcases hk3 with rfl | rfl | rfl
    · have hz : ¬ ((la.length : Int) < 0) := by omega
      go_wp2
      go_round
      case rel => exact ⟨1, by omega, by go_num, by simp⟩
      case measure => simp [intOf]
    · have hz : ¬ ((la.length : Int) + (lb.length : Int) < 0) := by omega
      have hw1 : IntKind.i64.wrap ((la.length : Int) + (lb.length : Int)) = (la.length : Int) + (lb.length : Int) := by rw [IntKind.wrap_i64]; omega
      go_wp2
      go_round
      case rel => exact ⟨2, by omega, by go_num, by simp⟩
      case measure => simp [intOf]
    · simp only [show ¬ (2 : Nat) = 0 by decide, show ¬ (2 : Nat) = 1 by decide, if_false]
      go_wp2_with (go_at_call 87; refine (G.out _).mono ?_; rintro e w1 ⟨v1, rfl, hO1, hb1⟩)
      go_loopw [6, 27] (fun v i wr => ∃ k : Nat, k ≤ 2 ∧ i = .int .i64 k ∧ Own wr w.heap.size v (if k = 0 then [] else if k = 1 then la else la ++ lb) ∧ Below w.heap.size w wr) (fun _ i _ => 2 - (intOf i).toNat)
      case atStart => exact ⟨0, Nat.zero_le _, rfl, hO1, hb1⟩
      case round =>
        obtain ⟨k, hk, rfl, hO, hbl⟩ := hrel
        have d0 := (hbl.cell hh).trans c0
        have d1 := (hbl.cell hh).trans c1
        have hA2 := hid (hA'.out.keep hbl)
        have hB2 := hid (hB'.out.keep hbl)
        have hsz := hbl.size
        have hk3 : k = 0 ∨ k = 1 ∨ k = 2 := by omega
        rcases hk3 with rfl | rfl | rfl
        · have hO' : Own wr w.heap.size u6 [] := hO
          clear hO
          go_wp2_with (at_builtin; refine wp_app _ rfl _ _ rfl w.heap.size [] la _ _ rfl rfl hO' hA2.out (by simp; omega) hsz ?_; intro v' w2 hO2 hb2)
          go_wp2
          go_roundw
          case rel => exact ⟨1, by omega, by go_num, hO2, hbl.trans hb2⟩
          case measure => simp [intOf]
        · have hO' : Own wr w.heap.size u6 la := hO
          clear hO
          go_wp2_with (at_builtin; refine wp_app _ rfl _ _ rfl w.heap.size la lb _ _ rfl rfl hO' hB2.out (by omega) hsz ?_; intro v' w2 hO2 hb2)
          go_wp2
          go_roundw
          case rel => exact ⟨2, by omega, by go_num, hO2, hbl.trans hb2⟩
          case measure => simp [intOf]
        · have hO' : Own wr w.heap.size u6 (la ++ lb) := hO
          clear hO
          go_wp2
          go_ret
          exact ⟨_, rfl, hO', hbl⟩

set_option maxRecDepth 20000 in
theorem setsUnion (va vb : Value) (la lb : List Int) (w : World) (hla : la.length ≤ 100000) (hlb : lb.length ≤ 100000) (hA : Nums w va la) (hB : Nums w vb lb) :
    Calls Tryz.prog 51 #[va, vb] w fun e w' => ∃ v', e = .returned v' ∧ Own w' w.heap.size v' (unionL la lb) ∧ Below w.heap.size w w' := by
  obtain ⟨aa, ca, rfl, hA1⟩ := id hA
  obtain ⟨ab, cb, rfl, hB1⟩ := id hB
  clear hA1 hB1
  have hb0 : Below w.heap.size w (w.alloc (.cells #[.slice aa la.length ca, .slice ab lb.length cb] 23)) := (Below.refl _ w).alloc (Nat.le_refl _) _
  have G1 := hid (concatC (.slice aa la.length ca) (.slice ab lb.length cb) la lb w.heap.size (w.alloc (.cells #[.slice aa la.length ca, .slice ab lb.length cb] 23)) (by omega) (by omega) (by simp) (by simp) (by simp) (hA.keep hb0) (hB.keep hb0))
  have G2 : Hid (∀ v u, Nums u v (la ++ lb) → Calls Tryz.prog 67 #[v] u fun e w' => ∃ v', e = .returned v' ∧ Own w' u.heap.size v' (unionL la lb) ∧ Below u.heap.size u w') := fun v u h => setsOf v (la ++ lb) u (by rw [List.length_append]; omega) h
  clear hA hB
  go_enter Tryz.func51, Tryz.ntmps51
  go_wp2_with (first
    | (go_at_call 68; refine (G1.out).mono ?_; rintro e w1 ⟨v1, rfl, hO1, hb1⟩)
    | (go_at_call 67; refine (G2.out _ _ (Nums.of_row hO1)).mono ?_; rintro e w2 ⟨v2, rfl, hO2, hb2⟩))
  go_ret
  exact ⟨_, rfl, own_base hO2 (bl_step hb0 hb1).size, bl_step (bl_step hb0 hb1) hb2⟩

end Go.Proofs.YtonlcnmlklaicaaGreatDoor
namespace Go.Proofs.YtonlcnmlklaicaaGreatDoor
open Go.RowKit

theorem linkL_good (to : List Int) (n : Nat) (ht : InN to n) : ∀ (from' : List Int) (fl : List (List Int)), (∀ j, Up (fl.getD j []) ∧ InN (fl.getD j []) n) → ∀ j, Up ((linkL fl to from').getD j []) ∧ InN ((linkL fl to from').getD j []) n
  | [], _, h, j => h j
  | x :: r, fl, h, j => by
    rw [linkL]
    refine linkL_good to n ht r _ (fun i => ?_) j
    rw [getD_set]
    split
    · refine ⟨ofL_up _, fun y hy => ?_⟩
      rcases (unionL_mem _ _ y).1 hy with hy | hy
      · exact (h _).2 y hy
      · exact ht y hy
    · exact h i
theorem own_form {w : World} {B n : Nat} {e : TypeId} {v : Value} {xs : List Value} (h : w.ownsRow B e 1 v n xs) (hn : 0 < n) : ∃ g cap, v = .slice (some ⟨g, 0, none⟩) n cap ∧ n ≤ cap := by
  rcases h.2 with ⟨rfl, h0⟩ | ⟨g, cap, cur, rfl, _, _, hc, _⟩
  · omega
  · exact ⟨g, cap, rfl, hc⟩

/-- what link works on: the lists of what stands behind each spot, in a row of their own -/
structure LkS (F : Nat → Prop) (B pb : Nat) (gv : Value) (n : Nat) (w : World) (gs : List Value) (fl : List (List Int)) : Prop where
  base : B ≤ w.heap.size
  lt : ∀ k, F k → k < w.heap.size
  row : ∀ k, gv.ownBlock = some k → F k ∧ k ≠ pb
  inF : F pb
  p : w.cell? ⟨pb, 4, none⟩ = some gv
  own : w.ownsRow B 23 1 gv gs.length gs
  nums : NumsF F w gs fl
  len : gs.length = n
  n60 : n ≤ 60
  good : ∀ j, Up (fl.getD j []) ∧ InN (fl.getD j []) n
theorem own_kept {F : Nat → Prop} {w w' : World} {base size n : Nat} {e : TypeId} {v : Value} {xs : List Value} (h : w.ownsRow base e size v n xs) (hk : Kept F w w') (ho : ∀ k, v.ownBlock = some k → ¬ F k) : w'.ownsRow base e size v n xs :=
  own_keep h fun k e => hk.block k (h.lt k e).2 (ho k e)
theorem LkS.keep {F : Nat → Prop} {B pb n : Nat} {gv : Value} {w w' : World} {gs : List Value} {fl : List (List Int)} (h : LkS F B pb gv n w gs fl) (hb : Below w.heap.size w w') : LkS F B pb gv n w' gs fl where
  base := Nat.le_trans h.base hb.size
  lt := fun k hk => Nat.lt_of_lt_of_le (h.lt k hk) hb.size
  row := h.row
  inF := h.inF
  p := keep_cell hb h.p
  own := own_below h.own hb
  nums := h.nums.kept (Kept.of_below hb)
  len := h.len
  n60 := h.n60
  good := h.good

set_option maxRecDepth 20000 in
set_option maxHeartbeats 4000000 in
theorem linkC (F : Nat → Prop) (B pb n : Nat) (va vb gv : Value) (la lb : List Int) (gs : List Value) (fl : List (List Int)) (w : World)
    (hS : LkS F B pb gv n w gs fl) (hA : Nums w va la) (hAo : Off F va) (hb : Nums w vb lb) (hbo : Off F vb) (hla : InN la n) (hlal : la.length ≤ 60) (hlb : InN lb n) (hlbl : lb.length ≤ 60) :
    Calls Tryz.prog 50 #[va, vb, .pointer (some ⟨pb, 0, none⟩)] w fun e w' => e = .returned (.tuple #[]) ∧ (∃ gs', LkS F B pb gv n w' gs' (linkL fl lb la)) ∧ Kept (fun k => gv.ownBlock = some k) w w' := by
  obtain ⟨hB, hF, hgF, hin, hp, hG, hN, hlen, hn, hg⟩ := hS
  have hpl := hF _ hin
  have hT := hid (fun k (h : k < la.length) => linkL_take h fl lb)
  have hE : Hid (linkL fl lb (la.take la.length) = linkL fl lb la) := hid (by rw [List.take_length])
  have hgd := hid (fun k j => linkL_good lb n hlb (la.take k) fl hg j)
  have hAk := hid (fun u (hu : Kept (fun k => gv.ownBlock = some k) w u) => hA.kept hu (fun ad n c e h0 hk => hAo ad n c e h0 (hgF _ hk).1))
  have hbk := hid (fun u (hu : Kept (fun k => gv.ownBlock = some k) w u) => hb.kept hu (fun ad n c e h0 hk => hbo ad n c e h0 (hgF _ hk).1))
  have hla' := hid (fun k (h : k < la.length) => hla la[k] (List.getElem_mem h))
  have hpk := hid (fun u (hu : Kept (fun k => gv.ownBlock = some k) w u) => hu.cell hp hpl (fun hk => (hgF _ hk).2 rfl))
  have hgF' := hid hgF
  have hF' := hid hF
  have hfin : Hid (∀ u gs', gs'.length = n → u.ownsRow B 23 1 gv gs'.length gs' → NumsF F u gs' (linkL fl lb la) → Kept (fun k => gv.ownBlock = some k) w u → LkS F B pb gv n u gs' (linkL fl lb la)) := hid (fun u gs' h1 h2 h3 h4 => ⟨Nat.le_trans hB h4.size, fun k hk => Nat.lt_of_lt_of_le (hF k hk) h4.size, hgF, hin, hpk.out u h4, h2, h3, h1, hn, linkL_good lb n hlb la fl hg⟩)
  have hG := hid hG
  have hN := hid hN
  have hlen := hid hlen
  have hnlt : ∀ k, gv.ownBlock = some k → k < w.heap.size := fun k h => hF k (hgF k h).1
  have hnlt := hid hnlt
  obtain ⟨aa, ca, rfl, _⟩ := id hA
  obtain ⟨ab, cb, rfl, _⟩ := id hb
  have GU := hid (fun v l u (hl : l.length ≤ 60) (h1 : Nums u v l) h2 => setsUnion v (.slice ab lb.length cb) l lb u (by omega) (by omega) h1 h2)
  clear hA hb hla hg hgF hF hp hin hB hAo hbo hlb
  go_enter Tryz.func50, Tryz.ntmps50
  go_wp2
  go_loopw [9] (fun i wr => ∃ (k : Nat) (gs' : List Value), k ≤ la.length ∧ i = .int .i64 k ∧ Hid (gs'.length = n) ∧ Hid (wr.ownsRow B 23 1 gv gs'.length gs') ∧ Hid (NumsF F wr gs' (linkL fl lb (la.take k))) ∧ Kept (fun k => gv.ownBlock = some k) w wr) (fun i _ => la.length - (intOf i).toNat)
  case atStart => exact ⟨0, gs, Nat.zero_le _, rfl, hlen, hG, hN, Kept.refl _ _⟩
  case round =>
    obtain ⟨k, gs', hk, rfl, hgl, hO, hNk, hbl⟩ := hrel
    by_cases hlt : k < la.length
    · have hltz : (k : Int) < (la.length : Int) := by omega
      obtain ⟨_, _, e0, _, _, hat⟩ := hAk.out wr hbl
      cases e0
      obtain ⟨b1, o1, rfl, hb1, c1⟩ := hat k hlt
      obtain ⟨h0, h1⟩ := hla'.out k hlt
      have hT1 := hid (hT.out k hlt)
      obtain ⟨m, hm⟩ : ∃ m : Nat, la[k] = (m : Int) := ⟨la[k].toNat, by omega⟩
      rw [hm] at c1 h1 hT1
      have hmn : m < gs'.length := by rw [hgl.out]; omega
      simp only [Int.toNat_natCast] at hT1
      obtain ⟨g, cap, rfl, hcap⟩ := own_form hO.out (by omega)
      have c2 := (hO.out.cellAt m (by omega)).trans (List.getElem?_eq_getElem hmn)
      have f2 := hO.out.frozenAt m
      have d4 := hpk.out wr hbl
      have hx := hNk.out.2 m
      have hglt := (hO.out.lt g rfl).2
      have hne : pb ≠ g := fun e => (hgF'.out g rfl).2 e.symm
      have hxe : gs'.getD m nilV = gs'[m] := by rw [List.getD_eq_getElem?_getD, List.getElem?_eq_getElem hmn]; rfl
      rw [hxe] at hx
      have hlen2 : ((linkL fl lb (la.take k)).getD m []).length ≤ 60 := Nat.le_trans (inN_len (hgd.out k m).1 (hgd.out k m).2) (by omega)
      have hdw := hid ((Below.refl wr.heap.size wr).drew)
      have GU0 := hid (GU.out gs'[m] _ wr.drew hlen2 (hx.1.keep hdw.out) ((hbk.out wr hbl).keep hdw.out))
      have hmz : (m : Int) < (gs'.length : Int) := by omega
      have hnxt : Hid (∀ v1 w1, Own w1 wr.heap.size v1 (unionL ((linkL fl lb (la.take k)).getD m []) lb) → Below wr.heap.size wr w1 → ∃ gs2, Hid (gs2.length = n) ∧ Hid ((w1.setCell ⟨g, m, none⟩ v1).ownsRow B 23 1 (.slice (some ⟨g, 0, none⟩) gs'.length cap) gs2.length gs2) ∧ Hid (NumsF F (w1.setCell ⟨g, m, none⟩ v1) gs2 (linkL fl lb (la.take (k + 1)))) ∧ Kept (fun k => (Value.slice (some ⟨g, 0, none⟩) gs'.length cap).ownBlock = some k) w (w1.setCell ⟨g, m, none⟩ v1)) := hid (fun v1 w1 ho hbe => by
        have hO1 := own_below hO.out hbe
        have hst := hO1.stored m v1
        have hl2 : (gs'.set m v1).length = gs'.length := by simp
        refine ⟨gs'.set m v1, hid (by rw [hl2]; exact hgl.out), hid ?_, hid ?_, ?_⟩
        · rw [hl2]; exact hst.1
        · rw [hT1.out]
          have hFw : ∀ k, F k → k < wr.heap.size := fun k hk => Nat.lt_of_lt_of_le (hF'.out k hk) hbl.size
          have k1 : NumsF F w1 (gs'.set m v1) ((linkL fl lb (la.take k)).set m (unionL ((linkL fl lb (la.take k)).getD m []) lb)) := (hNk.out.kept (Kept.of_below hbe)).set (Nums.of_row ho) (Off.new ho hFw) m
          exact k1.kept ((Kept.of_grown hst.2).mono fun k _ e => by
            injection e with e
            exact (hgF'.out k (by rw [← e]; rfl)).1)
        · refine (hbl.step (Kept.of_below hbe) (fun k hk h => h)).setCell (fun _ => rfl))
      generalize unionL ((linkL fl lb (la.take k)).getD m []) lb = U at hnxt GU0 hT1
      have hfk := hid (fun w1 (hbe : Below wr.heap.size wr w1) => (own_below hO.out hbe).frozenAt m)
      have hck := hid (fun w1 (hbe : Below wr.heap.size wr w1) => ((own_below hO.out hbe).cellAt m (by omega)).trans (List.getElem?_eq_getElem hmn))
      have hdk := hid (fun w1 (hbe : Below wr.heap.size wr w1) => keep_cell hbe d4)
      clear hxe
      generalize gs'[m] = X at c2 hx GU0 hck
      clear hat hx hT1 hO hNk hlen2 hm h0 hT hgd hla' hAk hbk hpk hE hG hN GU
      generalize gs'.length = Gn at *
      go_wp2
      go_region_law ((first
        | (refine step_call (by rfl) 51 #[X, .slice ab lb.length cb] (by (go_simp; done)) GU0.out ?_; rintro e w1 ⟨v1, rfl, hO1, hbe0⟩; obtain ⟨a1, cc1, rfl, hx1⟩ := id (Nums.of_row hO1); clear hx1; have hbe := bl_step hdw.out hbe0; have f3 := hfk.out w1 hbe; have c3 := hck.out w1 hbe; have d5 := hdk.out w1 hbe; refine ⟨_, rfl, ?_⟩)
        | fail))
      all_goals
        obtain ⟨gs2, h1, h2, h3, h4⟩ := hnxt.out _ w1 hO1 hbe
        go_wp2
        go_roundw
        case rel => exact ⟨k + 1, gs2, by omega, by go_num, h1, h2, h3, h4⟩
        case measure => simp [intOf]; omega
    · have hltz : ¬ (k : Int) < (la.length : Int) := by omega
      obtain rfl : k = la.length := by omega
      rw [hE.out] at hNk
      go_wp2
      first | go_end0 | refine bodyPost_ret (results_none rfl _ _ _) rfl ?_
      exact ⟨rfl, ⟨gs', hfin.out _ _ hgl.out hO.out hNk.out hbl⟩, hbl⟩

end Go.Proofs.YtonlcnmlklaicaaGreatDoor
namespace Go.Proofs.YtonlcnmlklaicaaGreatDoor
open Go.RowKit

theorem cells3p {w : World} {b : Nat} {x0 x1 x2 : Value} {T : TypeId} (h : w.heap[b]? = some (.cells #[x0, x1, x2] T (0, 0))) :
    w.cell? ⟨b, 0, none⟩ = some x0 ∧ w.cell? ⟨b, 1, none⟩ = some x1 ∧ w.cell? ⟨b, 2, none⟩ = some x2 ∧ w.frozen? ⟨b, 0, none⟩ = false ∧ w.frozen? ⟨b, 1, none⟩ = false ∧ w.frozen? ⟨b, 2, none⟩ = false :=
  ⟨blk_cell h rfl, blk_cell h rfl, blk_cell h rfl, blk_frozen h 0, blk_frozen h 1, blk_frozen h 2⟩
set_option maxRecDepth 20000 in
theorem spotP (x : Int) (w : World) : Calls Tryz.prog 52 #[.int .i64 x] w fun e w' => ∃ fv lv, e = .returned (.agg #[.bool false, fv, lv]) ∧ Own w' w.heap.size fv [x] ∧ Own w' w.heap.size lv [x] ∧ Below w.heap.size w w' := by
  go_enter Tryz.func52, Tryz.ntmps52
  go_wp2
  refine bodyPost_ret (v := .agg #[.bool false, .slice (some ⟨w.heap.size + 1, 0, none⟩) 1 1, .slice (some ⟨w.heap.size + 1 + 1, 0, none⟩) 1 1]) (by simp [results, Tryz.results52, go_sem]) rfl ⟨_, _, rfl, ?_, ?_, bl_step (bl_step (al' w _) (al' _ _)) (al' _ _)⟩
  · have h := (Own.lit1 (w.alloc (.cells #[.bool false, .slice (some ⟨w.heap.size + 1, 0, none⟩) 1 1, .slice (some ⟨w.heap.size + 1 + 1, 0, none⟩) 1 1] 109)) x).alloc (.cells #[.int .i64 x] 3)
    have e : (w.alloc (.cells #[.bool false, .slice (some ⟨w.heap.size + 1, 0, none⟩) 1 1, .slice (some ⟨w.heap.size + 1 + 1, 0, none⟩) 1 1] 109)).heap.size = w.heap.size + 1 := by simp
    rw [e] at h
    exact own_base h (by omega)
  · have h := Own.lit1 ((w.alloc (.cells #[.bool false, .slice (some ⟨w.heap.size + 1, 0, none⟩) 1 1, .slice (some ⟨w.heap.size + 1 + 1, 0, none⟩) 1 1] 109)).alloc (.cells #[.int .i64 x] 3)) x
    have e : ((w.alloc (.cells #[.bool false, .slice (some ⟨w.heap.size + 1, 0, none⟩) 1 1, .slice (some ⟨w.heap.size + 1 + 1, 0, none⟩) 1 1] 109)).alloc (.cells #[.int .i64 x] 3)).heap.size = w.heap.size + 1 + 1 := by simp
    rw [e] at h
    exact own_base h (by omega)

theorem unionL_comm (a b : List Int) : unionL a b = unionL b a := ofL_congr fun x => by simp [or_comm]
/-- what a part's fields hold -/
structure PtV (F : Nat → Prop) (w : World) (fv lv : Value) (f l : List Int) : Prop where
  first : Nums w fv f
  offF : Off F fv
  last : Nums w lv l
  offL : Off F lv
theorem PtV.keep {F : Nat → Prop} {w w' : World} {fv lv : Value} {f l : List Int} (h : PtV F w fv lv f l) (hb : Below w.heap.size w w') : PtV F w' fv lv f l := ⟨h.first.keep hb, h.offF, h.last.keep hb, h.offL⟩
theorem PtV.kept {F : Nat → Prop} {w w' : World} {fv lv : Value} {f l : List Int} (h : PtV F w fv lv f l) (hb : Kept F w w') : PtV F w' fv lv f l := ⟨h.first.kept hb h.offF, h.offF, h.last.kept hb h.offL, h.offL⟩

end Go.Proofs.YtonlcnmlklaicaaGreatDoor
