/- The contracts of sets.inSet, of slices.DeleteFunc over a slice of the call's own, of sets.Both and sets.Less. -/
import Derived.Test.YtklfcjgambdncaaOf
namespace Go.Proofs.Ytklfcjgambdncaa
open Go.RowKit Go.Sort

theorem inSetC (v : Value) (s : List Int) (n : Int) (w : World) (hs : s.length ≤ 1000000) (hu : Up s) (hN : Nums w v s) :
    Calls Try.prog 32 #[v, .int .i64 n] w fun e w' => e = .returned (.bool (s.contains n)) ∧ ∃ q, w' = w.drewN q := by
  have G : Hid (∃ c : Nat, Calls Try.prog 40 #[v, .int .i64 n] w fun e w' => e = .returned (.tuple #[.int .i64 c, .bool (s.contains n)]) ∧ ∃ q, w' = w.drewN q) := by
    by_cases h0 : s = []
    · subst h0
      obtain ⟨aa, ca, rfl, _⟩ := hN
      exact ⟨0, (Try.slices_BinarySearch_int_empty aa ca n w).mono fun e w' ⟨he, hw⟩ => ⟨he, 0, hw⟩⟩
    · obtain ⟨b, o, cap, rfl, hcap, hb, hc⟩ := hN.at (List.length_pos_iff.2 h0)
      have := Try.slices_BinarySearch_int b o s.length cap s n w (Nat.le_refl _) (by omega) (Nums.getD hc) (by rw [List.take_of_length_le (Nat.le_refl _)]; exact hu.imp (fun h => Int.le_of_lt h))
      rw [List.take_of_length_le (Nat.le_refl _)] at this
      exact ⟨_, this⟩
  generalize s.contains n = r at G ⊢
  obtain ⟨c, G⟩ := G.out
  have G := hid G
  clear hN
  go_enter Try.func32, Try.ntmps32
  go_wp2_with (go_at_call 40; refine (G.out).mono ?_; rintro e w1 ⟨rfl, q, hw1⟩; subst w1)
  go_ret
  exact ⟨rfl, q, rfl⟩

theorem closBoth (x : Int) (B0 : Nat) (v : Value) (s : List Int) (W : World) (hs : s.length ≤ 1000000) (hu : Up s) (hc : W.cell? ⟨B0, 0, none⟩ = some v) (hN : Nums W v s) :
    FnGives Try.prog 31 #[.pointer (some ⟨B0, 0, none⟩)] #[.int .i64 x] (.bool (!s.contains x)) W := by
  show Calls Try.prog 31 #[.int .i64 x, .pointer (some ⟨B0, 0, none⟩)] W _
  have G := hid (inSetC v s x W hs hu hN)
  obtain ⟨aa, ca, rfl, _⟩ := hN
  generalize s.contains x = r at G ⊢
  go_enter Try.func31, Try.ntmps31
  go_wp2_with (go_at_call 32; refine (G.out).mono ?_; rintro e w1 ⟨rfl, q, hw1⟩; subst w1)
  go_ret
  exact ⟨rfl, q, rfl⟩
theorem closLess (x : Int) (B0 : Nat) (v : Value) (s : List Int) (W : World) (hs : s.length ≤ 1000000) (hu : Up s) (hc : W.cell? ⟨B0, 0, none⟩ = some v) (hN : Nums W v s) :
    FnGives Try.prog 33 #[.pointer (some ⟨B0, 0, none⟩)] #[.int .i64 x] (.bool (s.contains x)) W := by
  show Calls Try.prog 33 #[.int .i64 x, .pointer (some ⟨B0, 0, none⟩)] W _
  have G := hid (inSetC v s x W hs hu hN)
  obtain ⟨aa, ca, rfl, _⟩ := hN
  generalize s.contains x = r at G ⊢
  go_enter Try.func33, Try.ntmps33
  go_wp2_with (go_at_call 32; refine (G.out).mono ?_; rintro e w1 ⟨rfl, q, hw1⟩; subst w1)
  go_ret
  exact ⟨rfl, q, rfl⟩

theorem deleteNil (fv : Value) (w : World) : Calls Try.prog 30 #[.slice none 0 0, fv] w fun e w' => e = .returned (.slice none 0 0) ∧ w' = w := by
  have G := hid (Try.slices_IndexFunc_empty (α := Int) none 0 fv w)
  go_enter Try.func30, Try.ntmps30
  go_wp2_with (go_at_call 39; refine (G.out).mono ?_; rintro e w1 ⟨rfl, hw1⟩; subst w1)
  go_ret
  exact ⟨rfl, rfl⟩

theorem deleteOwn (g : Nat) (lb : Array Value) (eg : ∀ args w, (callFunc g args).run Try.prog w = .ok (.enter g args) w) (p : Int → Bool) (v : Value) (l : List Int) (B : Nat) (w : World) (hB : B ≤ w.heap.size) (hl : l.length ≤ 1000000) (hO : Own w B v l)
    (hp : PredAt Try.prog g lb (Value.int .i64) p w) (hpo : ∀ blk, v.ownBlock = some blk → PredOver Try.prog g lb (Value.int .i64) p blk 0 l.length w) :
    Calls Try.prog 30 #[v, .func (.func g) #[] lb] w fun e w' => ∃ v', e = .returned v' ∧ Own w' B v' (l.filter fun x => !p x) ∧ Below B w w' := by
  by_cases hv : v = .slice none 0 0
  · subst hv
    have h0 : l = [] := List.length_eq_zero_iff.1 (by rcases hO.2 with ⟨_, h⟩ | ⟨g, cap, cur, h, _⟩; exact h; cases h)
    subst h0
    exact (deleteNil _ w).mono fun e w' ⟨he, hw⟩ => by subst hw; exact ⟨_, he, hO, own_ref hO hB⟩
  · obtain ⟨g', cap, rfl, h1, h2, h3, h4⟩ := own_holds hO hv
    have := Try.slices_DeleteFunc (Value.int .i64) (fun _ => rfl) p g lb eg 0 Try.zeroValue3 g' 0 cap l.toArray w hp (hpo g' rfl) h4 (by simp; omega) (by simpa using h3)
    refine this.mono fun e w' ⟨he, q, hw⟩ => ?_
    subst hw
    have hfl : (l.filter fun x => !p x).length ≤ l.length := List.length_filter_le _ _
    refine ⟨_, he, ?_, Lib.below_putRow (own_ref hO hB) h1⟩
    exact own_put hO (by rw [List.length_append, List.length_replicate]; simp; omega) (by simpa using hfl) _ (List.take_left' (by simp))

theorem sw_block {enc : Int → Value} {w : World} {blk n k : Nat} {dk : Array Int} {os : Array Obj} (hne : blk ≠ k) (hk : k < w.heap.size) : (sortWorld enc w blk 0 n dk os).heap[k]? = w.heap[k]? := by
  unfold sortWorld grow
  rw [Array.getElem?_append_left (by show k < (putRow _ _ _ _ _).heap.size; rw [size_putRow]; exact hk)]
  simp [putRow, mapBlock, Sort.ahead, Array.getElem?_modify, hne]
theorem sw_cell {enc : Int → Value} {w : World} {blk n k o : Nat} {dk : Array Int} {os : Array Obj} (hne : blk ≠ k) (hk : k < w.heap.size) : (sortWorld enc w blk 0 n dk os).cell? ⟨k, o, none⟩ = w.cell? ⟨k, o, none⟩ := by
  simp only [World.cell?, sw_block hne hk]


theorem entersBoth : ∀ args w, (callFunc 31 args).run Try.prog w = .ok (.enter 31 args) w := enters_of Try.func31 (by kernel_rfl) rfl
theorem delBoth (v1 v3 : Value) (sa sb : List Int) (B0 : Nat) (w : World) (hsa : sa.length ≤ 1000000) (hsb : sb.length ≤ 1000000) (hc : w.cell? ⟨B0, 0, none⟩ = some v1) (hB0 : B0 < w.heap.size) (h1 : Own w 0 v1 sb) (hu : Up sb) (h3 : Own w (B0 + 1) v3 sa) (hv1 : ∀ k, v1.ownBlock = some k → k < B0) :
    Calls Try.prog 30 #[v3, .func (.func 31) #[] #[.pointer (some ⟨B0, 0, none⟩)]] w fun e w' => ∃ v', e = .returned v' ∧ Own w' (B0 + 1) v' (sa.filter fun x => !!sb.contains x) ∧ Below (B0 + 1) w w' := by
  refine deleteOwn 31 _ entersBoth (fun x => !sb.contains x) v3 sa (B0 + 1) w hB0 hsa h3 (fun W x hb => ?_) (fun blk hblk n os dk x _ => ?_)
  · exact closBoth x B0 v1 sb W hsb hu ((hb.cell (p := ⟨B0, 0, none⟩) hB0).trans hc) ((Nums.of_row h1).keep hb)
  · have hb3 := (h3.lt blk hblk).1
    refine closBoth x B0 v1 sb _ hsb hu ((sw_cell (by omega) hB0).trans hc) (Nums.of_row (base := 0) (own_keep h1 fun k hk => sw_block ?_ (h1.lt k hk).2))
    have := hv1 k hk
    omega

set_option maxHeartbeats 1000000 in
theorem setsBoth (va vb : Value) (la lb : List Int) (w : World) (hla : la.length ≤ 100000) (hlb : lb.length ≤ 100000) (hA : Nums w va la) (hB : Nums w vb lb) :
    Calls Try.prog 20 #[va, vb] w fun e w' => ∃ v', e = .returned v' ∧ Own w' w.heap.size v' (bothL la lb) ∧ Below w.heap.size w w' := by
  have hol := ofL_len la
  have hol2 := ofL_len lb
  have G1 := hid (setsOf vb lb w (by omega) hB)
  have G2 : Hid (∀ u, Nums u va la → Calls Try.prog 11 #[va] u fun e w' => ∃ v', e = .returned v' ∧ Own w' u.heap.size v' (ofL la) ∧ Below u.heap.size u w') := fun u h => setsOf va la u (by omega) h
  have G3 : Hid (∀ v1 v3 B0 u, u.cell? ⟨B0, 0, none⟩ = some v1 → B0 < u.heap.size → Own u 0 v1 (ofL lb) → Own u (B0 + 1) v3 (ofL la) → (∀ k, v1.ownBlock = some k → k < B0) →
      Calls Try.prog 30 #[v3, .func (.func 31) #[] #[.pointer (some ⟨B0, 0, none⟩)]] u fun e w' => ∃ v', e = .returned v' ∧ Own w' (B0 + 1) v' (bothL la lb) ∧ Below (B0 + 1) u w') := fun v1 v3 B0 u hc hB0 h1 h3 hv1 => by
    have := delBoth v1 v3 (ofL la) (ofL lb) B0 u (by omega) (by omega) hc hB0 h1 (ofL_up lb) h3 hv1
    rwa [show ((ofL la).filter fun x => !!(ofL lb).contains x) = bothL la lb from (by unfold bothL; congr 1; funext x; rw [contains_ofL]; exact Bool.not_not _)] at this
  have hA' := hid hA
  clear hA hB
  have al : Hid (∀ (u : World) (o : Obj), Below u.heap.size u (u.alloc o)) := fun u o => (Below.refl _ u).alloc (Nat.le_refl _) _
  have hmf : ∀ (fn : Fn) (first cap : Array Value) (w : World), (Instr.makeFunc fn first cap).run Try.prog w = .ok (.func fn first cap) w := fun _ _ _ _ => rfl
  go_enter Try.func20, Try.ntmps20
  go_wp2_with (first
    | (go_at_call_of 11 vb; refine (G1.out).mono ?_; rintro e w1 ⟨v1, rfl, hO1, hb1⟩; obtain ⟨a1, c1, rfl, hx1⟩ := id (Nums.of_row hO1); clear hx1)
    | (go_at_call_of 11 va; refine (G2.out _ (hA'.out.keep (bl_step hb1 (al.out _ _)))).mono ?_; rintro e w3 ⟨v3, rfl, hO3, hb3⟩)
    | (go_at_call 30; refine (G3.out _ v3 w1.heap.size _ ((hb3.cell (p := ⟨w1.heap.size, 0, none⟩) (by simp)).trans (by simp)) (Nat.lt_of_lt_of_le (by simp) hb3.size) (own_below (own_base (hO1.alloc _) (Nat.zero_le _)) hb3) (own_base hO3 (by simp)) (fun k hk => (hO1.lt k hk).2)).mono ?_; rintro e w4 ⟨v4, rfl, hO4, hb4⟩))
  go_ret
  have hs1 := hb1.size
  exact ⟨_, rfl, own_base hO4 (by omega), (bl_step hb1 (al.out _ _)).trans ((hb3.mono (by simp; omega)).trans (hb4.mono (by omega)))⟩

theorem entersLess : ∀ args w, (callFunc 33 args).run Try.prog w = .ok (.enter 33 args) w := enters_of Try.func33 (by kernel_rfl) rfl
theorem delLess (v1 v3 : Value) (sa sb : List Int) (B0 : Nat) (w : World) (hsa : sa.length ≤ 1000000) (hsb : sb.length ≤ 1000000) (hc : w.cell? ⟨B0, 0, none⟩ = some v1) (hB0 : B0 < w.heap.size) (h1 : Own w 0 v1 sb) (hu : Up sb) (h3 : Own w (B0 + 1) v3 sa) (hv1 : ∀ k, v1.ownBlock = some k → k < B0) :
    Calls Try.prog 30 #[v3, .func (.func 33) #[] #[.pointer (some ⟨B0, 0, none⟩)]] w fun e w' => ∃ v', e = .returned v' ∧ Own w' (B0 + 1) v' (sa.filter fun x => !sb.contains x) ∧ Below (B0 + 1) w w' := by
  refine deleteOwn 33 _ entersLess (fun x => sb.contains x) v3 sa (B0 + 1) w hB0 hsa h3 (fun W x hb => ?_) (fun blk hblk n os dk x _ => ?_)
  · exact closLess x B0 v1 sb W hsb hu ((hb.cell (p := ⟨B0, 0, none⟩) hB0).trans hc) ((Nums.of_row h1).keep hb)
  · have hb3 := (h3.lt blk hblk).1
    refine closLess x B0 v1 sb _ hsb hu ((sw_cell (by omega) hB0).trans hc) (Nums.of_row (base := 0) (own_keep h1 fun k hk => sw_block ?_ (h1.lt k hk).2))
    have := hv1 k hk
    omega

set_option maxHeartbeats 1000000 in
theorem setsLess (va vb : Value) (la lb : List Int) (w : World) (hla : la.length ≤ 100000) (hlb : lb.length ≤ 100000) (hA : Nums w va la) (hB : Nums w vb lb) :
    Calls Try.prog 22 #[va, vb] w fun e w' => ∃ v', e = .returned v' ∧ Own w' w.heap.size v' (lessL la lb) ∧ Below w.heap.size w w' := by
  have hol := ofL_len la
  have hol2 := ofL_len lb
  have G1 := hid (setsOf vb lb w (by omega) hB)
  have G2 : Hid (∀ u, Nums u va la → Calls Try.prog 11 #[va] u fun e w' => ∃ v', e = .returned v' ∧ Own w' u.heap.size v' (ofL la) ∧ Below u.heap.size u w') := fun u h => setsOf va la u (by omega) h
  have G3 : Hid (∀ v1 v3 B0 u, u.cell? ⟨B0, 0, none⟩ = some v1 → B0 < u.heap.size → Own u 0 v1 (ofL lb) → Own u (B0 + 1) v3 (ofL la) → (∀ k, v1.ownBlock = some k → k < B0) →
      Calls Try.prog 30 #[v3, .func (.func 33) #[] #[.pointer (some ⟨B0, 0, none⟩)]] u fun e w' => ∃ v', e = .returned v' ∧ Own w' (B0 + 1) v' (lessL la lb) ∧ Below (B0 + 1) u w') := fun v1 v3 B0 u hc hB0 h1 h3 hv1 => by
    have := delLess v1 v3 (ofL la) (ofL lb) B0 u (by omega) (by omega) hc hB0 h1 (ofL_up lb) h3 hv1
    rwa [show ((ofL la).filter fun x => !(ofL lb).contains x) = lessL la lb from (by unfold lessL; congr 1; funext x; rw [contains_ofL])] at this
  have hA' := hid hA
  clear hA hB
  have al : Hid (∀ (u : World) (o : Obj), Below u.heap.size u (u.alloc o)) := fun u o => (Below.refl _ u).alloc (Nat.le_refl _) _
  have hmf : ∀ (fn : Fn) (first cap : Array Value) (w : World), (Instr.makeFunc fn first cap).run Try.prog w = .ok (.func fn first cap) w := fun _ _ _ _ => rfl
  go_enter Try.func22, Try.ntmps22
  go_wp2_with (first
    | (go_at_call_of 11 vb; refine (G1.out).mono ?_; rintro e w1 ⟨v1, rfl, hO1, hb1⟩; obtain ⟨a1, c1, rfl, hx1⟩ := id (Nums.of_row hO1); clear hx1)
    | (go_at_call_of 11 va; refine (G2.out _ (hA'.out.keep (bl_step hb1 (al.out _ _)))).mono ?_; rintro e w3 ⟨v3, rfl, hO3, hb3⟩)
    | (go_at_call 30; refine (G3.out _ v3 w1.heap.size _ ((hb3.cell (p := ⟨w1.heap.size, 0, none⟩) (by simp)).trans (by simp)) (Nat.lt_of_lt_of_le (by simp) hb3.size) (own_below (own_base (hO1.alloc _) (Nat.zero_le _)) hb3) (own_base hO3 (by simp)) (fun k hk => (hO1.lt k hk).2)).mono ?_; rintro e w4 ⟨v4, rfl, hO4, hb4⟩))
  go_ret
  have hs1 := hb1.size
  exact ⟨_, rfl, own_base hO4 (by omega), (bl_step hb1 (al.out _ _)).trans ((hb3.mono (by simp; omega)).trans (hb4.mono (by omega)))⟩

end Go.Proofs.Ytklfcjgambdncaa
