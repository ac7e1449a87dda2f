/- The contracts of sets.inSet, of slices.DeleteFunc over a slice of the call's own, of sets.Both and sets.Less. spots.Fits. -/
import Derived.Test.YtgbecehggdkkmaaJ25
import Derived.Test.YtgbecehggdkkmaaJ36
import Derived.Deep.RegionHeld3
namespace Go.Proofs.Ytgbecehggdkkmaa
open Go.RowKit Go.Sort

set_option maxRecDepth 20000 in
theorem inSetC (v : Value) (s : List Int) (n : Int) (w : World) (hs : s.length ≤ 1000000) (hu : Up s) (hN : Nums w v s) :
    Calls Try.prog 53 #[v, .int .i64 n] w fun e w' => e = .returned (.bool (s.contains n)) ∧ ∃ q, w' = w.drewN q := by
  have G : Hid (∃ c : Nat, Calls Try.prog 63 #[v, .int .i64 n] w fun e w' => e = .returned (.tuple #[.int .i64 c, .bool (s.contains n)]) ∧ ∃ q, w' = w.drewN q) := by
    by_cases h0 : s = []
    · subst h0
      obtain ⟨aa, ca, rfl, _⟩ := hN
      exact ⟨0, (Try.slices_BinarySearch_int_empty aa ca n w).mono fun e w' ⟨he, hw⟩ => ⟨he, 0, hw⟩⟩
    · obtain ⟨b, o, cap, rfl, hcap, hb, hc⟩ := hN.at (List.length_pos_iff.2 h0)
      have := Try.slices_BinarySearch_int b o s.length cap s n w (Nat.le_refl _) (by omega) (Nums.getD hc) (by rw [List.take_of_length_le (Nat.le_refl _)]; exact hu.imp (fun h => Int.le_of_lt h))
      rw [List.take_of_length_le (Nat.le_refl _)] at this
      exact ⟨_, this⟩
  generalize s.contains n = r at G ⊢
  obtain ⟨c, G⟩ := G.out
  have G := hid G
  clear hN
  go_enter Try.func53, Try.ntmps53
  go_wp2_with (go_at_call 63; refine (G.out).mono ?_; rintro e w1 ⟨rfl, q, hw1⟩; subst w1)
  go_ret
  exact ⟨rfl, q, rfl⟩

set_option maxRecDepth 20000 in
theorem closBoth (x : Int) (B0 : Nat) (v : Value) (s : List Int) (W : World) (hs : s.length ≤ 1000000) (hu : Up s) (hc : W.cell? ⟨B0, 0, none⟩ = some v) (hN : Nums W v s) :
    FnGives Try.prog 52 #[.pointer (some ⟨B0, 0, none⟩)] #[.int .i64 x] (.bool (!s.contains x)) W := by
  show Calls Try.prog 52 #[.int .i64 x, .pointer (some ⟨B0, 0, none⟩)] W _
  have G := hid (inSetC v s x W hs hu hN)
  obtain ⟨aa, ca, rfl, _⟩ := hN
  generalize s.contains x = r at G ⊢
  go_enter Try.func52, Try.ntmps52
  go_wp2_with (go_at_call 53; refine (G.out).mono ?_; rintro e w1 ⟨rfl, q, hw1⟩; subst w1)
  go_ret
  exact ⟨rfl, q, rfl⟩
set_option maxRecDepth 20000 in
theorem indexNil (fv : Value) (w : World) : Calls Try.prog 62 #[.slice none 0 0, fv] w fun e w' => e = .returned (.int .i64 (-1)) ∧ w' = w := by
  go_enter Try.func62, Try.ntmps62
  go_wp2
  go_loop [8] (fun i => i = .int .i64 0) (fun _ => 0)
  case atStart => rfl
  case round =>
    subst hrel
    go_wp2
    go_ret
    exact ⟨rfl, rfl⟩
set_option maxRecDepth 20000 in
theorem deleteNil (fv : Value) (w : World) : Calls Try.prog 51 #[.slice none 0 0, fv] w fun e w' => e = .returned (.slice none 0 0) ∧ w' = w := by
  have G := hid (indexNil fv w)
  go_enter Try.func51, Try.ntmps51
  go_wp2_with (go_at_call 62; refine (G.out).mono ?_; rintro e w1 ⟨rfl, hw1⟩; subst w1)
  go_ret
  exact ⟨rfl, rfl⟩

set_option maxRecDepth 20000 in
theorem deleteOwn (g : Nat) (lb : Array Value) (eg : ∀ args w, (callFunc g args).run Try.prog w = .ok (.enter g args) w) (p : Int → Bool) (v : Value) (l : List Int) (B : Nat) (w : World) (hB : B ≤ w.heap.size) (hl : l.length ≤ 1000000) (hO : Own w B v l)
    (hp : PredAt Try.prog g lb (Value.int .i64) p w) (hpo : ∀ blk, v.ownBlock = some blk → PredOver Try.prog g lb (Value.int .i64) p blk 0 l.length w) :
    Calls Try.prog 51 #[v, .func (.func g) #[] lb] w fun e w' => ∃ v', e = .returned v' ∧ Own w' B v' (l.filter fun x => !p x) ∧ Below B w w' := by
  by_cases hv : v = .slice none 0 0
  · subst hv
    have h0 : l = [] := List.length_eq_zero_iff.1 (by rcases hO.2 with ⟨_, h⟩ | ⟨g, cap, cur, h, _⟩; exact h; cases h)
    subst h0
    exact (deleteNil _ w).mono fun e w' ⟨he, hw⟩ => by subst hw; exact ⟨_, he, hO, own_ref hO hB⟩
  · obtain ⟨g', cap, rfl, h1, h2, h3, h4⟩ := own_holds hO hv
    have := Try.slices_DeleteFunc (Value.int .i64) (fun _ => rfl) p g lb eg 0 Try.zeroValue3 g' 0 cap l.toArray w hp (hpo g' rfl) h4 (by simp; omega) (by simpa using h3)
    refine this.mono fun e w' ⟨he, q, hw⟩ => ?_
    subst hw
    have hfl : (l.filter fun x => !p x).length ≤ l.length := List.length_filter_le _ _
    refine ⟨_, he, ?_, Lib.below_putRow (own_ref hO hB) h1⟩
    exact own_put hO (by rw [List.length_append, List.length_replicate]; simp; omega) (by simpa using hfl) _ (List.take_left' (by simp))

theorem sw_block {enc : Int → Value} {w : World} {blk n k : Nat} {dk : Array Int} {os : Array Obj} (hne : blk ≠ k) (hk : k < w.heap.size) : (sortWorld enc w blk 0 n dk os).heap[k]? = w.heap[k]? := by
  unfold sortWorld grow
  rw [Array.getElem?_append_left (by show k < (putRow _ _ _ _ _).heap.size; rw [size_putRow]; exact hk)]
  simp [putRow, mapBlock, Sort.ahead, Array.getElem?_modify, hne]
theorem sw_cell {enc : Int → Value} {w : World} {blk n k o : Nat} {dk : Array Int} {os : Array Obj} (hne : blk ≠ k) (hk : k < w.heap.size) : (sortWorld enc w blk 0 n dk os).cell? ⟨k, o, none⟩ = w.cell? ⟨k, o, none⟩ := by
  simp only [World.cell?, sw_block hne hk]


set_option maxRecDepth 20000 in
theorem entersBoth : ∀ args w, (callFunc 52 args).run Try.prog w = .ok (.enter 52 args) w := enters_of Try.func52 (by kernel_rfl) rfl
set_option maxRecDepth 20000 in
theorem delBoth (v1 v3 : Value) (sa sb : List Int) (B0 : Nat) (w : World) (hsa : sa.length ≤ 1000000) (hsb : sb.length ≤ 1000000) (hc : w.cell? ⟨B0, 0, none⟩ = some v1) (hB0 : B0 < w.heap.size) (h1 : Own w 0 v1 sb) (hu : Up sb) (h3 : Own w (B0 + 1) v3 sa) (hv1 : ∀ k, v1.ownBlock = some k → k < B0) :
    Calls Try.prog 51 #[v3, .func (.func 52) #[] #[.pointer (some ⟨B0, 0, none⟩)]] w fun e w' => ∃ v', e = .returned v' ∧ Own w' (B0 + 1) v' (sa.filter fun x => !!sb.contains x) ∧ Below (B0 + 1) w w' := by
  refine deleteOwn 52 _ entersBoth (fun x => !sb.contains x) v3 sa (B0 + 1) w hB0 hsa h3 (fun W x hb => ?_) (fun blk hblk n os dk x _ => ?_)
  · exact closBoth x B0 v1 sb W hsb hu ((hb.cell (p := ⟨B0, 0, none⟩) hB0).trans hc) ((Nums.of_row h1).keep hb)
  · have hb3 := (h3.lt blk hblk).1
    refine closBoth x B0 v1 sb _ hsb hu ((sw_cell (by omega) hB0).trans hc) (Nums.of_row (base := 0) (own_keep h1 fun k hk => sw_block ?_ (h1.lt k hk).2))
    have := hv1 k hk
    omega

set_option maxRecDepth 20000 in
set_option maxHeartbeats 1000000 in
theorem setsBoth (va vb : Value) (la lb : List Int) (w : World) (hla : la.length ≤ 100000) (hlb : lb.length ≤ 100000) (hA : Nums w va la) (hB : Nums w vb lb) :
    Calls Try.prog 35 #[va, vb] w fun e w' => ∃ v', e = .returned v' ∧ Own w' w.heap.size v' (bothL la lb) ∧ Below w.heap.size w w' := by
  have hol := ofL_len la
  have hol2 := ofL_len lb
  have G1 := hid (setsOf vb lb w (by omega) hB)
  have G2 : Hid (∀ u, Nums u va la → Calls Try.prog 33 #[va] u fun e w' => ∃ v', e = .returned v' ∧ Own w' u.heap.size v' (ofL la) ∧ Below u.heap.size u w') := fun u h => setsOf va la u (by omega) h
  have G3 : Hid (∀ v1 v3 B0 u, u.cell? ⟨B0, 0, none⟩ = some v1 → B0 < u.heap.size → Own u 0 v1 (ofL lb) → Own u (B0 + 1) v3 (ofL la) → (∀ k, v1.ownBlock = some k → k < B0) →
      Calls Try.prog 51 #[v3, .func (.func 52) #[] #[.pointer (some ⟨B0, 0, none⟩)]] u fun e w' => ∃ v', e = .returned v' ∧ Own w' (B0 + 1) v' (bothL la lb) ∧ Below (B0 + 1) u w') := fun v1 v3 B0 u hc hB0 h1 h3 hv1 => by
    have := delBoth v1 v3 (ofL la) (ofL lb) B0 u (by omega) (by omega) hc hB0 h1 (ofL_up lb) h3 hv1
    rwa [show ((ofL la).filter fun x => !!(ofL lb).contains x) = bothL la lb from (by unfold bothL; congr 1; funext x; rw [contains_ofL]; exact Bool.not_not _)] at this
  have hA' := hid hA
  clear hA hB
  have al : Hid (∀ (u : World) (o : Obj), Below u.heap.size u (u.alloc o)) := fun u o => (Below.refl _ u).alloc (Nat.le_refl _) _
  have hmf : ∀ (fn : Fn) (first cap : Array Value) (w : World), (Instr.makeFunc fn first cap).run Try.prog w = .ok (.func fn first cap) w := fun _ _ _ _ => rfl
  go_enter Try.func35, Try.ntmps35
  go_wp2_with (first
    | (go_at_call_of 33 vb; refine (G1.out).mono ?_; rintro e w1 ⟨v1, rfl, hO1, hb1⟩; obtain ⟨a1, c1, rfl, hx1⟩ := id (Nums.of_row hO1); clear hx1)
    | (go_at_call_of 33 va; refine (G2.out _ (hA'.out.keep (bl_step hb1 (al.out _ _)))).mono ?_; rintro e w3 ⟨v3, rfl, hO3, hb3⟩)
    | (go_at_call 51; refine (G3.out _ v3 w1.heap.size _ ((hb3.cell (p := ⟨w1.heap.size, 0, none⟩) (by simp)).trans (by simp)) (Nat.lt_of_lt_of_le (by simp) hb3.size) (own_below (own_base (hO1.alloc _) (Nat.zero_le _)) hb3) (own_base hO3 (by simp)) (fun k hk => (hO1.lt k hk).2)).mono ?_; rintro e w4 ⟨v4, rfl, hO4, hb4⟩))
  go_ret
  have hs1 := hb1.size
  exact ⟨_, rfl, own_base hO4 (by omega), (bl_step hb1 (al.out _ _)).trans ((hb3.mono (by simp; omega)).trans (hb4.mono (by omega)))⟩

end Go.Proofs.Ytgbecehggdkkmaa
namespace Go.Proofs.Ytgbecehggdkkmaa
open Go.RowKit

set_option maxRecDepth 20000 in
set_option maxHeartbeats 4000000 in
theorem sfitsC (sv fv lv gv : Value) (p : Sp) (s : Txt) (w : World) (h : SpV w sv fv lv gv p) (h1 : p.sets.length ≤ 60) (h2 : p.follow.length ≤ 60) (h3 : p.first.length ≤ 100) (h4 : p.last.length ≤ 100) (h5 : ∀ l ∈ p.follow, l.length ≤ 100) (hs : s.length ≤ 1000) :
    Calls Try.prog 12 #[.agg #[sv, .bool p.null, fv, lv, gv], .string (strT s)] w fun e w' => e = .returned (.bool (fitB p s)) ∧ Below w.heap.size w w' := by
  have hal := hid (al' w (.cells #[sv, .bool p.null, fv, lv, gv] 27))
  have hC0 := hid (heap_new w (.cells #[sv, .bool p.null, fv, lv, gv] 27))
  have hV := hid (fun u (hu : Below w.heap.size w u) => h.keep hu)
  have GW := hid (wholeC sv fv lv gv p _ (h.keep hal.out) h1 h2 h3 h4 h5)
  have hsz := strT_size s
  obtain ⟨sa, sc, rfl⟩ : ∃ a c, sv = .slice a p.sets.length c := by obtain ⟨a, c, e, _⟩ := h.sets; exact ⟨a, c, e⟩
  obtain ⟨ga, gc, rfl⟩ : ∃ a c, gv = .slice a p.follow.length c := by obtain ⟨a, c, e, _⟩ := h.follow; exact ⟨a, c, e⟩
  obtain ⟨fa, fc, rfl⟩ : ∃ a c, fv = .slice a p.first.length c := by obtain ⟨a, c, e, _⟩ := h.first; exact ⟨a, c, e⟩
  obtain ⟨la, lc, rfl⟩ : ∃ a c, lv = .slice a p.last.length c := by obtain ⟨a, c, e, _⟩ := h.last; exact ⟨a, c, e⟩
  clear h
  cases hgd : goodB p with
  | false =>
    have hf : fitB p s = false := by unfold fitB; rw [hgd]; rfl
    rw [hgd] at GW
    rw [hf]
    go_enter Try.func12, Try.ntmps12
    go_wp2_with (go_at_call 31; refine GW.out.mono ?_; rintro e w1 ⟨rfl, hb1⟩)
    go_ret
    exact ⟨rfl, bl_step hal.out hb1⟩
  | true =>
    rw [hgd] at GW
    by_cases h0 : s.length = 0
    · have hf : fitB p s = p.null := by unfold fitB; rw [hgd, if_pos h0]; rfl
      have hs0 : s = [] := List.length_eq_zero_iff.1 h0
      subst hs0
      rw [hf]
      have hse : strT [] = (⟨#[]⟩ : ByteArray) := rfl
      rw [hse]
      go_enter Try.func12, Try.ntmps12
      go_wp2_with (go_at_call 31; refine GW.out.mono ?_; rintro e w1 ⟨rfl, hb1⟩; obtain ⟨p0, p1, p2, p3, p4, -⟩ := cells5s (hs_keep hC0.out hb1))
      go_ret
      exact ⟨rfl, bl_step hal.out hb1⟩
    · have hG := GdS.of hgd
      have hpos : 0 < s.length := by omega
      have hfit := hid (fit_read hgd s hpos)
      have hlen := hid (rdK_len hG s h3 h1)
      have hin := hid (rdK_in hG s)
      have hb5 : Hid (∀ (i : Nat) (hi : i < s.length) (hi' : i < (strT s).size) (v : Value) (l : List Int) (u : World), Nums u v l → Below w.heap.size w u → InN l p.sets.length → l.length ≤ 1000 → Calls Try.prog 32 #[.agg #[.slice sa p.sets.length sc, .bool p.null, .slice fa p.first.length fc, .slice la p.last.length lc, .slice ga p.follow.length gc], v, .int .u8 (((strT s)[i]'hi').toNat : Int)] u fun e w' => ∃ v', e = .returned v' ∧ Own w' u.heap.size v' (havL p.sets (s.getD i 0).toNat l) ∧ Below u.heap.size u w') := hid (fun i hi hi' v l u hN hu hil hll => by
        have hbt : ((strT s)[i]'hi') = s.getD i 0 := (strT_at s i hi' hi).trans (by rw [List.getD_eq_getElem?_getD, List.getElem?_eq_getElem hi]; rfl)
        have key : (((strT s)[i]'hi').toNat : Int) = ((s.getD i 0).toNat : Int) := congrArg (fun c : UInt8 => (c.toNat : Int)) hbt
        rw [key]
        exact havingC _ _ _ _ _ v p.sets l (s.getD i 0).toNat u (hV.out u hu).sets hN hil h1 hll (by have := UInt8.toNat_lt (s.getD i 0); omega))
      have GO := hid (fun u (hu : Below w.heap.size w u) => setsOf (.slice fa p.first.length fc) p.first u (by omega) (hV.out u hu).first)
      have GB := hid (fun v (l : List Int) u (hl : l.length ≤ 100) (hi : InN l p.sets.length) (hN : Nums u v l) (hu : Below w.heap.size w u) => behindC _ (.slice fa p.first.length fc) (.slice la p.last.length lc) _ (.bool p.null) v p l u (hV.out u hu).sets (hV.out u hu).follow hN hi h1 hG.len hG.follow h5 (by omega))
      have GT := hid (fun v (l : List Int) u (hl : l.length ≤ 100) (hN : Nums u v l) (hu : Below w.heap.size w u) => setsBoth v (.slice la p.last.length lc) l p.last u (by omega) (by omega) hN (hV.out u hu).last)
      have hbi := hid (behL_in hG)
      have hbl60 := hid (behL_len hG)
      have ho1 := hid (show InN (ofL p.first) p.sets.length from fun x hx => hG.first x ((ofL_mem x _).1 hx))
      have ho2 : (ofL p.first).length ≤ 100 := Nat.le_trans (ofL_len _) h3
      have hr1 := hid (rdK_one p s)
      have hrs := hid (fun i hi => rdK_succ p s i hi)
      have hrn := hid (fun i hi hn d => @rdK_none p s i hi hn d)
      have hlt0 : 0 < (strT s).size := by rw [hsz]; exact hpos
      have hsize : ((strT s).size : Int) = (s.length : Int) := by rw [hsz]
      have hem : (strT s).toList.isEmpty = false := by
        rw [ByteArray.toList_eq]
        show s.toArray.toList.isEmpty = false
        cases s with
        | nil => simp at hpos
        | cons _ _ => rfl
      obtain ⟨RR, hRR⟩ : ∃ RR, Hid (RR = decide (0 < (bothL (rdK p s s.length) p.last).length)) := ⟨_, hid rfl⟩
      rw [hfit.out, ← hRR.out]
      go_enter Try.func12, Try.ntmps12
      go_wp2_with (go_at_call 31; refine GW.out.mono ?_; rintro e w1 ⟨rfl, hb1⟩; obtain ⟨p0, p1, p2, p3, p4, -⟩ := cells5s (hs_keep hC0.out hb1))
      have hbw1 := hid (bl_step hal.out hb1)
      have hC1 := hid (fun u (hu : Below w1.heap.size w1 u) => cells5s (hs_keep (hs_keep hC0.out hb1) hu))
      have hd1 : Hid (Below w1.heap.size w1 w1.drew) := hid ((Below.refl _ _).drew)
      have GO1 := hid (GO.out w1.drew (bl_step hbw1.out hd1.out))
      clear GW hal hC0 hb1
      go_region_held3 (fun w' => w'.cell? ⟨w.heap.size, 0, none⟩ = some (.slice sa p.sets.length sc) ∧ w'.cell? ⟨w.heap.size, 1, none⟩ = some (.bool p.null) ∧ w'.cell? ⟨w.heap.size, 2, none⟩ = some (.slice fa p.first.length fc) ∧ w'.cell? ⟨w.heap.size, 3, none⟩ = some (.slice la p.last.length lc) ∧ w'.cell? ⟨w.heap.size, 4, none⟩ = some (.slice ga p.follow.length gc))
        (go_keep)
        ((first
          | (go_at_call 33; refine GO1.out.mono ?_; rintro e w2 ⟨v2, rfl, hO2, hb2⟩; have hb12 := bl_step hd1.out hb2; obtain ⟨q0, q1, q2, q3, q4, -⟩ := hC1.out w2 hb12)
          | (go_at_call 32; refine (hb5.out 0 hpos hlt0 _ _ w2 (Nums.of_row hO2) (bl_step hbw1.out hb12) ho1.out (by omega)).mono ?_; rintro e w3 ⟨v3, rfl, hO3, hb3⟩; have hb13 := bl_step hb12 hb3; obtain ⟨r0, r1, r2, r3, r4, -⟩ := hC1.out w3 hb13)))
      all_goals
        have hR1 : Hid (Nums w3 v3 (rdK p s 1)) := hid (by rw [hr1.out]; exact Nums.of_row hO3)
        clear GO GO1 hO2 hO3 hr1 ho1 ho2
        go_wp2
        go_loopw [5, 6] (fun rv i wr => ∃ k : Nat, 1 ≤ k ∧ k ≤ s.length ∧ i = .int .i64 k ∧ Hid (Nums wr rv (rdK p s k)) ∧ Below w1.heap.size w1 wr) (fun _ i _ => s.length - (intOf i).toNat)
        case atStart => exact ⟨1, by omega, by omega, rfl, hR1, hb13⟩
        case round =>
          obtain ⟨k, hk1, hk, rfl, hR, hbl⟩ := hrel
          have hlk := hlen.out k
          have hrv : ∃ a c, u5 = .slice a (rdK p s k).length c := by obtain ⟨a, c, e, _⟩ := hR.out; exact ⟨a, c, e⟩
          obtain ⟨ra, rc, hrv⟩ := hrv
          subst hrv
          obtain ⟨x0, x1, x2, x3, x4, -⟩ := hC1.out wr hbl
          by_cases hlt : k < s.length
          · have hltz : (k : Int) < (s.length : Int) := by omega
            by_cases hp : 0 < (rdK p s k).length
            · have hpz : (0 : Int) < ((rdK p s k).length : Int) := by omega
              have hks : k < (strT s).size := by rw [hsz]; exact hlt
              have hdw : Hid (Below wr.heap.size wr wr.drew) := hid ((Below.refl _ _).drew)
              have GB1 := hid (GB.out (.slice ra (rdK p s k).length rc) (rdK p s k) wr.drew hlk (hin.out k) (hR.out.keep hdw.out) (bl_step hbw1.out (bl_step hbl hdw.out)))
              have hBi := hid (hbi.out (rdK p s k))
              have hBl := hbl60.out (rdK p s k)
              have hnx := hid (hrs.out k (by omega))
              have hb5k := hid (hb5.out k hlt hks)
              generalize behL p.follow (rdK p s k) = Q at GB1 hBi hBl hnx
              generalize (rdK p s k).length = rk at *
              go_wp2_with fail
              go_region_held3 (fun w' => w'.cell? ⟨w.heap.size, 0, none⟩ = some (.slice sa p.sets.length sc) ∧ w'.cell? ⟨w.heap.size, 1, none⟩ = some (.bool p.null) ∧ w'.cell? ⟨w.heap.size, 2, none⟩ = some (.slice fa p.first.length fc) ∧ w'.cell? ⟨w.heap.size, 3, none⟩ = some (.slice la p.last.length lc) ∧ w'.cell? ⟨w.heap.size, 4, none⟩ = some (.slice ga p.follow.length gc))
                (go_keep)
                ((first
                  | (go_at_call 34; refine GB1.out.mono ?_; rintro e w4 ⟨v4, rfl, hO4, hb4⟩; have hb14 := bl_step hbl (bl_step hdw.out hb4); obtain ⟨q0, q1, q2, q3, q4, -⟩ := hC1.out w4 hb14)
                  | (go_at_call 32; refine (hb5k.out _ _ w4 (Nums.of_row hO4) (bl_step hbw1.out hb14) hBi.out (by omega)).mono ?_; rintro e w5 ⟨v5, rfl, hO5, hb5'⟩; have hb15 := bl_step hb14 hb5'; obtain ⟨r0, r1, r2, r3, r4, -⟩ := hC1.out w5 hb15)))
              all_goals
                have hR2 : Hid (Nums w5 v5 (rdK p s (k + 1))) := hid (by rw [hnx.out]; exact Nums.of_row hO5)
                go_wp2
                go_roundw
                case rel => exact ⟨k + 1, by omega, by omega, by go_num, hR2, hb15⟩
                case measure => simp [intOf]; omega
            · have hnil : rdK p s k = [] := List.length_eq_zero_iff.1 (by omega)
              have hpz : ¬ (0 : Int) < ((rdK p s k).length : Int) := by omega
              have hsame : Hid (bothL (rdK p s s.length) p.last = bothL (rdK p s k) p.last) := hid (by
                have e := hrn.out k (by omega) hnil (s.length - k)
                rw [show k + (s.length - k) = s.length by omega] at e
                rw [e, hnil])
              clear hnil
              have hb := hid (GT.out (.slice ra (rdK p s k).length rc) (rdK p s k) wr hlk hR.out (bl_step hbw1.out hbl))
              rw [hsame.out] at hRR
              generalize bothL (rdK p s k) p.last = BL at hb hRR
              generalize (rdK p s k).length = rk at *
              go_wp2_with (go_at_call 35; refine hb.out.mono ?_; rintro e w4 ⟨v4, rfl, hO4, hb4⟩; obtain ⟨xa, xc, rfl, hx4⟩ := id (Nums.of_row hO4); clear hx4)
              go_ret
              exact ⟨by rw [hRR.out]; simp, bl_step (bl_step hbw1.out hbl) hb4⟩
          · have hltz : ¬ (k : Int) < (s.length : Int) := by omega
            have hsame : Hid (bothL (rdK p s s.length) p.last = bothL (rdK p s k) p.last) := hid (by rw [show s.length = k by omega])
            have hb := hid (GT.out (.slice ra (rdK p s k).length rc) (rdK p s k) wr hlk hR.out (bl_step hbw1.out hbl))
            rw [hsame.out] at hRR
            generalize bothL (rdK p s k) p.last = BL at hb hRR
            generalize (rdK p s k).length = rk at *
            go_wp2_with (go_at_call 35; refine hb.out.mono ?_; rintro e w4 ⟨v4, rfl, hO4, hb4⟩; obtain ⟨xa, xc, rfl, hx4⟩ := id (Nums.of_row hO4); clear hx4)
            go_ret
            exact ⟨by rw [hRR.out]; simp, bl_step (bl_step hbw1.out hbl) hb4⟩

end Go.Proofs.Ytgbecehggdkkmaa
