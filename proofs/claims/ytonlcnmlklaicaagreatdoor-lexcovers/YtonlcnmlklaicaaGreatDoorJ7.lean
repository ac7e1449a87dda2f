/- The reference: fitsAt of a set. Of RStar and RPlus: till nothing new comes. The reference: again. The reference: fitsAt of RSet, REmpty, RStar, RPlus. -/
import Derived.Test.YtonlcnmlklaicaaGreatDoorJ6
import Derived.Deep.RegionHeld3
import Derived.Deep.RegionLaw
import Derived.Deep.OwnRows
import Derived.BigRegion
namespace Go.Proofs.YtonlcnmlklaicaaGreatDoor
open Go.RowKit

theorem bls_at {w : World} {a : Option Addr} {l : List Bool} {cap : Nat} (h : Bls w (.slice a l.length cap) l) {j : Nat} (hj : j < l.length) : ∃ b o, a = some ⟨b, o, none⟩ ∧ b < w.heap.size ∧ w.cell? ⟨b, o + j, none⟩ = some (.bool l[j]) := by
  obtain ⟨a', c', e, _, _, h⟩ := h
  injection e with e1 e2 e3
  subst e1
  exact h j hj
theorem OwnT.at {w : World} {B g c n : Nat} {l : List Bool} (h : OwnT w B (.slice (some ⟨g, 0, none⟩) n c) l) {j : Nat} {x : Bool} (hj : l[j]? = some x) : w.cell? ⟨g, j, none⟩ = some (.bool x) := by
  have := h.cells rfl j (.bool x) (by rw [List.getElem?_map, hj]; rfl)
  rw [Go.WideShapes.add_plain] at this
  simpa using this
theorem OwnT.free {w : World} {B g c n : Nat} {l : List Bool} (h : OwnT w B (.slice (some ⟨g, 0, none⟩) n c) l) (hn : n = l.length) (o : Nat) : w.frozen? ⟨g, o, none⟩ = false := by
  subst hn
  exact h.frozenAt o

theorem OwnT.put_n {w : World} {B g c k n : Nat} {l : List Bool} (x : Bool) (h : OwnT w B (.slice (some ⟨g, 0, none⟩) n c) l) (hn : n = l.length) : OwnT (w.setCell ⟨g, k, none⟩ (.bool x)) B (.slice (some ⟨g, 0, none⟩) n c) (l.set k x) := by
  subst hn
  exact h.put x
theorem keep_free {u w1 : World} (hb : Below u.drew.heap.size u.drew w1) {b o : Nat} {v : Value} (h : u.cell? ⟨b, o, none⟩ = some v) (hf : u.frozen? ⟨b, o, none⟩ = false) : w1.frozen? ⟨b, o, none⟩ = false := by
  have := hb.block b (World.block_lt_of_cell? u _ h)
  unfold World.frozen? at hf ⊢
  rw [this]
  exact hf
theorem set_keep {w : World} {b o q : Nat} {u v : Value} (m : Nat) (h : w.cell? ⟨b, o, none⟩ = some u) (hn : b ≠ q) : (w.setCell ⟨q, m, none⟩ v).cell? ⟨b, o, none⟩ = some u :=
  (World.cell?_setCell_other _ _ _ _ (by intro e; injection e with e1; exact hn e1.symm)).trans h
theorem bls_n {w : World} {B g c n : Nat} {l : List Bool} (h : OwnT w B (.slice (some ⟨g, 0, none⟩) n c) l) (hn : n = l.length) : Bls w (.slice (some ⟨g, 0, none⟩) n c) l := by
  subst hn
  exact Bls.of_own h
theorem new_blk (w : World) (o n c : Nat) : ∀ k, (Value.slice (some ⟨w.heap.size, o, none⟩) n c).ownBlock = some k → w.heap.size ≤ k := by
  intro k hk
  have : some w.heap.size = some k := hk
  injection this with this
  omega
theorem Bls.blk {w w' : World} {v : Value} {l : List Bool} (h : Bls w v l) (hs : w.heap.size ≤ w'.heap.size) (hb : ∀ k, v.ownBlock = some k → w'.heap[k]? = w.heap[k]?) : Bls w' v l := by
  obtain ⟨a, cap, rfl, hc, hn, hat⟩ := h
  refine ⟨a, cap, rfl, hc, hn, fun j hj => ?_⟩
  obtain ⟨b, o, rfl, hlt, h1⟩ := hat j hj
  exact ⟨b, o, rfl, Nat.lt_of_lt_of_le hlt hs, (World.cell?_of_block (a := ⟨b, o + j, none⟩) (hb b rfl)).trans h1⟩
theorem Bls.set {w : World} {v x : Value} {l : List Bool} {g m : Nat} (h : Bls w v l) (hn : v.ownBlock ≠ some g) : Bls (w.setCell ⟨g, m, none⟩ x) v l :=
  h.blk (by simp) fun k hk => Below.heap_setCell w ⟨g, m, none⟩ x k (fun e => hn (hk.trans (congrArg some e)))
theorem Bls.lt {w : World} {v : Value} {l : List Bool} (h : Bls w v l) (hl : 0 < l.length) : ∀ k, v.ownBlock = some k → k < w.heap.size := by
  obtain ⟨a, cap, rfl, _, _, hat⟩ := h
  obtain ⟨b, o, rfl, hlt, _⟩ := hat 0 hl
  intro k hk
  have : some b = some k := hk
  injection this with this
  omega
theorem own_made (w : World) (N : Nat) (F : Nat → Bool) (hN : N ≤ 2000) (h0 : F 0 = false) : OwnT (w.alloc (.cells (madeCells #[.bool false] N) 4)) w.heap.size (.slice (some ⟨w.heap.size, 0, none⟩) N N) (tabK N 1 F) := by
  have e := made_false N
  rw [Nat.mul_one, show (Value.bool false).cells = #[.bool false] from rfl] at e
  have h := World.ownsRow_lit (e := 4) (base := w.heap.size) (size := 1) w (madeCells #[.bool false] N) N (Nat.le_refl _) (by unfold maxLen; omega) (by rw [← Array.length_toList, e]; simp)
  rw [e] at h
  unfold OwnT
  rw [tabK_one N F h0, List.length_replicate]
  exact h

set_option maxRecDepth 20000 in
set_option maxHeartbeats 4000000 in
theorem fitsSet (v fv : Value) (l : List Cel) (J : Nat) (a b c d : Nat) (s : Txt) (bs : List Bool) (w : World) (hA : Cels w v l) (_hl : l.length ≤ 60) (hc : l[J]? = some ⟨1, ⟨a, b, c, d⟩⟩) (hB : Bls w fv bs) (hn : bs.length = s.length + 1) (hs : s.length ≤ 1000) :
    Calls Tryz.prog 32 #[v, .int .i64 (J : Int), .string (strT s), fv] w fun e w' => ∃ v', e = .returned v' ∧ Bls w' v' (tabK (s.length + 1) (s.length + 1) (setF ⟨a, b, c, d⟩ s bs)) ∧ (∀ k, v'.ownBlock = some k → w.heap.size ≤ k) ∧ Below w.heap.size w w' := by
  obtain ⟨i0, hi, hz0, hz1, hz2⟩ := info_parts Tryz.info4
  obtain ⟨av, cv, rfl, _, _, hfc, hAt⟩ := hA
  obtain ⟨hjl, b', o', rfl, d0, d1, d2, d3, d4⟩ := cel_at hAt hc
  have hfit := (hfc _ (List.mem_of_getElem? hc)).s
  have hblt := World.block_lt_of_cell? w _ d0
  obtain ⟨fa, fc, rfl⟩ := hB.shape
  have hjz : (J : Int) < (l.length : Int) := by omega
  have hB0 := hid hB
  have hsz := strT_size s
  have hN : Hid (∀ k (h : k < s.length), bs[k]? = some (bs[k]'(by omega)) ∧ setF ⟨a, b, c, d⟩ s bs (k + 1) = (bs[k]'(by omega) && hasB ⟨a, b, c, d⟩ s[k].toNat)) := hid (fun k h => by
    have h' : k < bs.length := by omega
    refine ⟨List.getElem?_eq_getElem h', ?_⟩
    simp only [setF, List.getD_eq_getElem?_getD, List.getElem?_eq_getElem h', List.getElem?_eq_getElem h, Option.getD_some])
  have hf0 : Hid (setF ⟨a, b, c, d⟩ s bs 0 = false) := hid rfl
  have GH := hid (fun x u hx => refHas a b c d x u hfit hx)
  clear hAt hc hfc hB
  have hbn : bs.length ≤ 1001 := by omega
  rw [← hn]
  generalize setF ⟨a, b, c, d⟩ s bs = F at hN hf0 ⊢
  generalize hbN : bs.length = N at hbn ⊢
  have hmk := run_make_row' (P := Tryz.prog) 82 4 (.bool false) 1 Tryz.underlying82 Tryz.info4 rfl .i64 .i64 N (by omega) (by omega)
  have hal := hid (al' w (.cells (madeCells #[.bool false] N) 4))
  have e0 := keep_cell hal.out d0
  have hO0 : Hid (OwnT (w.alloc (.cells (madeCells #[.bool false] N) 4)) w.heap.size (.slice (some ⟨w.heap.size, 0, none⟩) N N) (tabK N 1 F)) := hid (own_made w N F (by omega) hf0.out)
  go_enter Tryz.func32, Tryz.ntmps32
  go_wp2
  clear hmk e0
  go_loopw [10] (fun i wr => ∃ k : Nat, k ≤ s.length ∧ i = .int .i64 k ∧ Hid (OwnT wr w.heap.size (.slice (some ⟨w.heap.size, 0, none⟩) N N) (tabK N (k + 1) F)) ∧ Below w.heap.size w wr) (fun i _ => s.length - (intOf i).toNat)
  case atStart => exact ⟨0, Nat.zero_le _, rfl, hO0, hal.out⟩
  case round =>
    obtain ⟨k, hk, rfl, hO, hbl⟩ := hrel
    by_cases hlt : k < s.length
    · have hltz : (k : Int) < ((strT s).size : Int) := by omega
      have hkN0 : (k : Int) < (N : Int) := by omega
      have hltn : k < (strT s).size := by omega
      obtain ⟨fb, fo, rfl, hfb, hfcell⟩ := bls_at hB0.out (show k < bs.length by omega)
      have f0 := (hbl.cell hfb).trans hfcell
      have c1 := (hbl.cell hblt).trans d1
      have c2 := (hbl.cell hblt).trans d2
      have c3 := (hbl.cell hblt).trans d3
      have c4 := (hbl.cell hblt).trans d4
      have hF1 := hid (hN.out k hlt).2
      obtain ⟨m, hm⟩ : ∃ m, Hid (m = k + 1) := ⟨_, hid rfl⟩
      have hmw : IntKind.i64.wrap ((k : Int) + 1) = (m : Int) := by rw [IntKind.wrap_i64, hm.out]; omega
      have hmN : (m : Int) < (N : Int) := by rw [hm.out]; omega
      rw [← hm.out] at hO hF1
      have o0 := OwnT.at hO.out (j := m) (x := (tabK N m F)[m]'(by rw [tabK_len]; omega)) (List.getElem?_eq_getElem _)
      have o1 := OwnT.free hO.out (by rw [tabK_len]) m
      generalize (tabK N m F)[m]'_ = ox at o0
      have hput := hid (fun x => OwnT.put_n (k := m) x hO.out (tabK_len _ _ _).symm)
      have hbput := hid (fun x => bl_set hbl w.heap.size m (.bool x) (Nat.le_refl _))
      clear hfcell
      have hbd : Below wr.heap.size wr wr.drew := (Below.refl _ _).drew
      have hnf : fb ≠ w.heap.size := by omega
      have hnb : b' ≠ w.heap.size := by omega
      cases hbk : bs[k] with
      | false =>
        rw [hbk] at f0
        rw [hbk, Bool.false_and] at hF1
        go_wp2_with fail
        go_region
        all_goals
          go_wp2
          go_roundw
          case rel => exact ⟨k + 1, by omega, by rw [hm.out], hid (by
            have h1 := OwnT.put_n (k := m) false (own_below hO.out hbd) (tabK_len N m F).symm
            rw [← hF1.out, tabK_step, hm.out] at h1
            rw [← hF1.out, hm.out]
            exact h1), bl_set (bl_step hbl hbd) _ _ _ (Nat.le_refl _)⟩
          case measure => have hm' := hm.out; simp [intOf]; omega
      | true =>
        rw [hbk] at f0
        have hx : (s[k]'hlt).toNat < 256 := by
          have := UInt8.toNat_lt (s[k]'hlt)
          omega
        have GH0 : Hid (∀ u, Calls Tryz.prog 45 #[.agg #[.int .u64 (a : Int), .int .u64 (b : Int), .int .u64 (c : Int), .int .u64 (d : Int)], .int .i64 (IntKind.i64.wrap (((strT s)[k]'hltn).toNat : Int))] u fun e w' => e = .returned (.bool (hasB ⟨a, b, c, d⟩ (s[k]'hlt).toNat)) ∧ Below u.heap.size u w') := hid (fun u => by
          have hwr : IntKind.i64.wrap ((s[k]'hlt).toNat : Int) = ((s[k]'hlt).toNat : Int) := by rw [IntKind.wrap_i64]; omega
          have key : IntKind.i64.wrap (((strT s)[k]'hltn).toNat : Int) = ((s[k]'hlt).toNat : Int) := (congrArg (fun c : UInt8 => IntKind.i64.wrap (c.toNat : Int)) (strT_at s k hltn hlt)).trans hwr
          rw [key]
          exact GH.out (s[k]'hlt).toNat u hx)
        rw [hbk, Bool.true_and] at hF1
        generalize hasB ⟨a, b, c, d⟩ (s[k]'hlt).toNat = r at GH0 hF1
        go_wp2_with fail
        go_region_held3 (fun w' => w'.cell? ⟨fb, fo + k, none⟩ = some (.bool true) ∧ w'.cell? ⟨b', o' + J * 5 + 1, none⟩ = some (.int .u64 (a : Int)) ∧ w'.cell? ⟨b', o' + J * 5 + 2, none⟩ = some (.int .u64 (b : Int)) ∧ w'.cell? ⟨b', o' + J * 5 + 3, none⟩ = some (.int .u64 (c : Int)) ∧ w'.cell? ⟨b', o' + J * 5 + 4, none⟩ = some (.int .u64 (d : Int)))
          (go_keep)
          ((go_at_call 45; refine (GH0.out _).mono ?_; rintro e w1 ⟨rfl, hb1⟩; have g0 := keep_cell hb1 (show World.cell? wr.drew _ = _ from f0); have g1 := keep_cell hb1 (show World.cell? wr.drew _ = _ from c1); have g2 := keep_cell hb1 (show World.cell? wr.drew _ = _ from c2); have g3 := keep_cell hb1 (show World.cell? wr.drew _ = _ from c3); have g4 := keep_cell hb1 (show World.cell? wr.drew _ = _ from c4); have o2 := keep_cell hb1 (show World.cell? wr.drew _ = _ from o0); have o3 := keep_free hb1 o0 o1; have p0 := set_keep (v := .bool r) m g0 hnf; have p1 := set_keep (v := .bool r) m g1 hnb; have p2 := set_keep (v := .bool r) m g2 hnb; have p3 := set_keep (v := .bool r) m g3 hnb; have p4 := set_keep (v := .bool r) m g4 hnb))
        all_goals
          go_wp2
          go_roundw
          case rel => exact ⟨k + 1, by omega, by rw [hm.out], hid (by
            have h1 := OwnT.put_n (k := m) r (own_below (own_below hO.out hbd) hb1) (tabK_len N m F).symm
            rw [← hF1.out, tabK_step, hm.out] at h1
            rw [← hF1.out, hm.out]
            exact h1), bl_set (bl_step (bl_step hbl hbd) hb1) _ _ _ (Nat.le_refl _)⟩
          case measure => have hm' := hm.out; simp [intOf]; omega
    · have hltz : ¬ (k : Int) < ((strT s).size : Int) := by omega
      have hkk : k + 1 = N := by omega
      rw [hkk] at hO
      have hend := hid (bls_n hO.out (tabK_len N N F).symm)
      go_wp2
      go_ret
      exact ⟨_, rfl, hend.out, new_blk w _ _ _, hbl⟩

end Go.Proofs.YtonlcnmlklaicaaGreatDoor
namespace Go.Proofs.YtonlcnmlklaicaaGreatDoor
open Go.RowKit

theorem itr_stop1 {a : Rx} {s : Txt} {F O : Nat → Prop} {k : Nat} (hO : ∀ i, i ≤ s.length → (O i ↔ ∃ m, 1 ≤ m ∧ m ≤ k ∧ Itr a s F m i)) (hstop : ∀ i, i ≤ s.length → Itr a s F (k + 1) i → O i) :
    ∀ m i, i ≤ s.length → Itr a s F (m + 1) i → O i := by
  intro m
  induction m with
  | zero =>
    intro i hi h
    by_cases e : k = 0
    · subst e; exact hstop i hi h
    · exact (hO i hi).2 ⟨1, Nat.le_refl _, by omega, h⟩
  | succ m ih =>
    rintro i hi ⟨j, hj, hf, hm⟩
    obtain ⟨q, h1, h2, h3⟩ := (hO j (by omega)).1 (ih j (by omega) hf)
    by_cases e : q = k
    · subst e; exact hstop i hi ⟨j, hj, h3, hm⟩
    · exact (hO i hi).2 ⟨q + 1, by omega, by omega, j, hj, h3, hm⟩
/-- the rule again: RStar, or RPlus -/
def again1 (st : Bool) (a : Rx) : Rx := if st then .star a else .plus a
/-- what is held behind k rounds -/
structure AgI (st : Bool) (a : Rx) (s : Txt) (bs : List Bool) (k : Nat) (fr o : List Bool) : Prop where
  lf : fr.length = s.length + 1
  lo : o.length = s.length + 1
  f : ∀ i, i ≤ s.length → (On fr i ↔ Itr a s (On bs) k i)
  o : ∀ i, i ≤ s.length → (On o i ↔ (st = true ∧ On bs i) ∨ ∃ m, 1 ≤ m ∧ m ≤ k ∧ Itr a s (On bs) m i)
/-- two lists, the second as far as i -/
def mixL (o nx : List Bool) (i : Nat) : List Bool := (List.range o.length).map fun j => o.getD j false || (decide (j < i) && nx.getD j false)
def newL (o nx : List Bool) (i : Nat) : Bool := (List.range i).any fun j => nx.getD j false && !o.getD j false
theorem mixL_len (o nx : List Bool) (i : Nat) : (mixL o nx i).length = o.length := by simp [mixL]
theorem mixL_get (o nx : List Bool) (i j : Nat) (h : j < o.length) : (mixL o nx i)[j]? = some (o.getD j false || (decide (j < i) && nx.getD j false)) := by
  unfold mixL
  rw [List.getElem?_map, List.getElem?_range h]
  rfl
theorem mixL_zero (o nx : List Bool) : mixL o nx 0 = o := by
  apply List.ext_getElem (by simp [mixL])
  intro i h1 h2
  simp [mixL, h2]
theorem mixL_at (o nx : List Bool) (i : Nat) (h : i < o.length) : (mixL o nx i)[i]? = some (o.getD i false) := by
  rw [mixL_get o nx i i h]; simp
theorem mixL_put (o nx : List Bool) (i : Nat) (h : i < o.length) (hn : nx.getD i false = true) : (mixL o nx i).set i true = mixL o nx (i + 1) := by
  apply List.ext_getElem? 
  intro j
  rw [List.getElem?_set]
  by_cases hj : j < o.length
  · rw [mixL_get o nx i j hj, mixL_get o nx (i + 1) j hj, mixL_len]
    by_cases e : i = j
    · subst e
      rw [if_pos rfl, if_pos h, hn]
      simp
    · rw [if_neg e]
      congr 3
      rw [decide_eq_decide]; omega
  · have e : ¬ i = j := by omega
    rw [if_neg e, List.getElem?_eq_none (by rw [mixL_len]; omega), List.getElem?_eq_none (by rw [mixL_len]; omega)]
theorem mixL_skip (o nx : List Bool) (i : Nat) (hn : (nx.getD i false && !o.getD i false) = false) : mixL o nx (i + 1) = mixL o nx i := by
  apply List.ext_getElem?
  intro j
  by_cases hj : j < o.length
  · rw [mixL_get o nx i j hj, mixL_get o nx (i + 1) j hj]
    by_cases e : i = j
    · subst e
      revert hn
      cases nx.getD i false <;> cases o.getD i false <;> simp
    · congr 3
      rw [decide_eq_decide]; omega
  · rw [List.getElem?_eq_none (by rw [mixL_len]; omega), List.getElem?_eq_none (by rw [mixL_len]; omega)]
theorem newL_succ (o nx : List Bool) (i : Nat) : newL o nx (i + 1) = (newL o nx i || (nx.getD i false && !o.getD i false)) := by
  unfold newL
  rw [List.range_succ, List.any_append]
  simp
theorem AgI.next {st : Bool} {a : Rx} {s : Txt} {bs fr o nx : List Bool} {k : Nat} (h : AgI st a s bs k fr o) (hn : IsStp a s fr nx) : AgI st a s bs (k + 1) nx (mixL o nx o.length) := by
  have hnx : ∀ i, i ≤ s.length → (On nx i ↔ Itr a s (On bs) (k + 1) i) := fun i hi => (hn.on i hi).trans (stp_congr h.f i hi)
  refine ⟨hn.len, by rw [mixL_len]; exact h.lo, hnx, fun i hi => ?_⟩
  have hl : i < o.length := by rw [h.lo]; omega
  have hl2 : i < nx.length := by rw [hn.len]; omega
  have e : On (mixL o nx o.length) i ↔ On o i ∨ On nx i := by
    unfold On
    rw [mixL_get _ _ _ _ hl, List.getD_eq_getElem?_getD, List.getD_eq_getElem?_getD, List.getElem?_eq_getElem hl, List.getElem?_eq_getElem hl2]
    simp [hl]
  rw [e, h.o i hi, hnx i hi]
  constructor
  · rintro ((h1 | ⟨m, h1, h2, h3⟩) | h1)
    · exact Or.inl h1
    · exact Or.inr ⟨m, h1, by omega, h3⟩
    · exact Or.inr ⟨k + 1, by omega, Nat.le_refl _, h1⟩
  · rintro (h1 | ⟨m, h1, h2, h3⟩)
    · exact Or.inl (Or.inl h1)
    · by_cases e : m = k + 1
      · subst e; exact Or.inr h3
      · exact Or.inl (Or.inr ⟨m, h1, by omega, h3⟩)
theorem newL_no {o nx : List Bool} {n : Nat} (h : newL o nx n = false) {i : Nat} (hi : i < n) : nx.getD i false = true → o.getD i false = true := by
  unfold newL at h
  rw [List.any_eq_false] at h
  have := h i (List.mem_range.2 hi)
  intro h1
  rw [h1] at this
  simpa using this
theorem mixL_same {o nx : List Bool} {n : Nat} (h : newL o nx n = false) : mixL o nx n = o := by
  induction n with
  | zero => exact mixL_zero o nx
  | succ n ih =>
    rw [newL_succ, Bool.or_eq_false_iff] at h
    rw [mixL_skip o nx n h.2]
    exact ih h.1
theorem AgI.stop {st : Bool} {a : Rx} {s : Txt} {bs fr o nx : List Bool} {k : Nat} (h : AgI st a s bs k fr o) (hn : IsStp a s fr nx) (hb : bs.length = s.length + 1) (hno : newL o nx o.length = false) : IsStp (again1 st a) s bs o := by
  have hnx : ∀ i, i ≤ s.length → (On nx i ↔ Itr a s (On bs) (k + 1) i) := fun i hi => (hn.on i hi).trans (stp_congr h.f i hi)
  have hin : ∀ i, i ≤ s.length → Itr a s (On bs) (k + 1) i → On o i := fun i hi hk => by
    have h1 := (hnx i hi).2 hk
    have hl : i < o.length := by rw [h.lo]; omega
    have h2 := newL_no hno hl (by unfold On at h1; rw [List.getD_eq_getElem?_getD, h1]; rfl)
    unfold On
    rw [List.getD_eq_getElem?_getD, List.getElem?_eq_getElem hl] at h2
    rw [List.getElem?_eq_getElem hl]
    simpa using h2
  refine ⟨h.lo, fun i hi => ?_⟩
  cases st with
  | true =>
    have hOF : ∀ i, i ≤ s.length → (On o i ↔ (∃ m, 1 ≤ m ∧ m ≤ k ∧ Itr a s (On bs) m i) ∨ On bs i) := fun i hi => by rw [h.o i hi]; simp [or_comm]
    show On o i ↔ Stp (.star a) s (On bs) i
    rw [stp_star a s _ i hi]
    constructor
    · intro h1
      rcases (hOF i hi).1 h1 with ⟨m, _, _, h3⟩ | h1
      · exact ⟨m, h3⟩
      · exact ⟨0, h1⟩
    · rintro ⟨m, hm⟩
      exact (hOF i hi).2 (itr_stop (O := fun i => ∃ m, 1 ≤ m ∧ m ≤ k ∧ Itr a s (On bs) m i) (fun _ => Iff.rfl) (fun i hi hk => (hOF i hi).1 (hin i hi hk)) (fun i hf => by have := on_lt hf; omega) m i hi hm)
  | false =>
    have hO1 : ∀ i, i ≤ s.length → (On o i ↔ ∃ m, 1 ≤ m ∧ m ≤ k ∧ Itr a s (On bs) m i) := fun i hi => by rw [h.o i hi]; simp
    show On o i ↔ Stp (.plus a) s (On bs) i
    rw [stp_plus a s _ i hi]
    constructor
    · intro h1
      obtain ⟨m, h1, _, h3⟩ := (hO1 i hi).1 h1
      exact ⟨m - 1, by rw [show m - 1 + 1 = m by omega]; exact h3⟩
    · rintro ⟨m, hm⟩
      exact itr_stop1 hO1 hin m i hi hm
/-- how many are off -/
def offV : Option Value → Nat
  | some (.bool false) => 1
  | _ => 0
def offs (w : World) (g n : Nat) : Nat := ((List.range n).map fun i => offV (w.cell? ⟨g, i, none⟩)).sum
def offL (l : List Bool) : Nat := ((List.range l.length).map fun i => if l.getD i false then 0 else 1).sum
theorem OwnT.offs {w : World} {B g c n : Nat} {l : List Bool} (h : OwnT w B (.slice (some ⟨g, 0, none⟩) n c) l) (hn : n = l.length) : offs w g n = offL l := by
  unfold Go.Proofs.YtonlcnmlklaicaaGreatDoor.offs offL
  rw [hn]
  congr 1
  apply List.map_congr_left
  intro i hi
  have hi' := List.mem_range.1 hi
  rw [h.at (List.getElem?_eq_getElem hi'), List.getD_eq_getElem?_getD, List.getElem?_eq_getElem hi']
  simp only [Option.getD_some]
  cases l[i] <;> rfl
theorem sum_le {f g : Nat → Nat} : ∀ n, (∀ i, i < n → f i ≤ g i) → ((List.range n).map f).sum ≤ ((List.range n).map g).sum
  | 0, _ => by simp
  | n + 1, h => by
    have := sum_le n (fun i hi => h i (by omega))
    have := h n (by omega)
    simp only [List.range_succ, List.map_append, List.sum_append, List.map_cons, List.map_nil, List.sum_cons, List.sum_nil]
    omega
theorem sum_lt {f g : Nat → Nat} : ∀ n, (∀ i, i < n → f i ≤ g i) → (∃ i, i < n ∧ f i < g i) → ((List.range n).map f).sum < ((List.range n).map g).sum
  | 0, _, ⟨i, hi, _⟩ => by omega
  | n + 1, h, ⟨i, hi, hlt⟩ => by
    have h1 := h n (by omega)
    simp only [List.range_succ, List.map_append, List.sum_append, List.map_cons, List.map_nil, List.sum_cons, List.sum_nil]
    by_cases e : i = n
    · subst e
      have := sum_le i (fun j hj => h j (by omega))
      omega
    · have := sum_lt n (fun j hj => h j (by omega)) ⟨i, by omega, hlt⟩
      omega
theorem offL_lt {o nx : List Bool} (h : newL o nx o.length = true) : offL (mixL o nx o.length) < offL o := by
  unfold offL
  rw [mixL_len]
  have hg : ∀ i, i < o.length → (mixL o nx o.length).getD i false = (o.getD i false || nx.getD i false) := fun i hi => by
    rw [List.getD_eq_getElem?_getD, mixL_get _ _ _ _ hi]
    simp [hi]
  refine sum_lt _ (fun i hi => ?_) ?_
  · rw [hg i hi]
    cases o.getD i false <;> simp
    split <;> omega
  · unfold newL at h
    rw [List.any_eq_true] at h
    obtain ⟨i, hi, h1⟩ := h
    have hi' := List.mem_range.1 hi
    refine ⟨i, hi', ?_⟩
    rw [hg i hi']
    revert h1
    cases nx.getD i false <;> cases o.getD i false <;> simp

end Go.Proofs.YtonlcnmlklaicaaGreatDoor
namespace Go.Proofs.YtonlcnmlklaicaaGreatDoor
open Go.RowKit

/-- what fitsAt answers of a rule -/
def FitsC (f : FuncId) (a t : Rx) : Prop := ∀ (v fv : Value) (l pre suf : List Cel) (E : Int) (s : Txt) (bs : List Bool) (w : World), Cels w v l → l.length ≤ 60 → l = pre ++ (post a ++ suf) → E + 1 = ((pre.length + (post a).length : Nat) : Int) → Bls w fv bs → bs.length = s.length + 1 → s.length ≤ 1000 →
    Calls Tryz.prog f #[v, .int .i64 E, .string (strT s), fv] w fun e w' => ∃ v' bs', e = .returned v' ∧ IsStp t s bs bs' ∧ Bls w' v' bs' ∧ (v' = fv ∨ ∀ k, v'.ownBlock = some k → w.heap.size ≤ k) ∧ Below w.heap.size w w'
theorem bls_atn {w : World} {a : Option Addr} {l : List Bool} {n cap : Nat} (h : Bls w (.slice a n cap) l) {j : Nat} (hj : j < l.length) : ∃ b o, a = some ⟨b, o, none⟩ ∧ b < w.heap.size ∧ w.cell? ⟨b, o + j, none⟩ = some (.bool l[j]) := by
  obtain ⟨a', c', e, _, _, h⟩ := h
  injection e with e1 e2 e3
  subst e1
  exact h j hj
theorem nx_get (l : List Bool) (j : Nat) (h : j < l.length) : l[j] = l.getD j false := by
  rw [List.getD_eq_getElem?_getD, List.getElem?_eq_getElem h]
  rfl
def agF (st : Bool) (bs : List Bool) (i : Nat) : Bool := st && bs.getD i false
theorem AgI.zero (st : Bool) (a : Rx) (s : Txt) (bs : List Bool) (hb : bs.length = s.length + 1) : AgI st a s bs 0 bs (tabK bs.length bs.length (agF st bs)) := by
  refine ⟨hb, by rw [tabK_len]; exact hb, fun i _ => Iff.rfl, fun i hi => ?_⟩
  rw [On, tabK_at (Nat.le_refl _) (by omega)]
  unfold agF On
  rw [List.getD_eq_getElem?_getD, List.getElem?_eq_getElem (by omega : i < bs.length)]
  constructor
  · intro h
    simp at h
    exact Or.inl ⟨h.1, by rw [h.2]⟩
  · rintro (⟨h1, h2⟩ | ⟨m, h1, h2, _⟩)
    · simp at h2
      simp [h1, h2]
    · omega
theorem own_made0 (w : World) (N : Nat) (F : Nat → Bool) (hN : N ≤ 2000) : OwnT (w.alloc (.cells (madeCells #[.bool false] N) 4)) w.heap.size (.slice (some ⟨w.heap.size, 0, none⟩) N N) (tabK N 0 F) := by
  have h := own_made w N (fun _ => false) hN rfl
  rw [tabK_one _ _ rfl, ← tabK_zero N F] at h
  exact h

set_option maxRecDepth 20000 in
set_option maxHeartbeats 8000000 in
theorem againC (st : Bool) (a : Rx) (H : FitsC 32 a a) : FitsC 47 (again1 st a) (again1 st a) := by
  intro v fv l pre suf E s bs w hA hl h hE hB hn hs
  obtain ⟨i0, hi, hz0, hz1, hz2⟩ := info_parts Tryz.info4
  obtain ⟨J, hJ, hc⟩ := root_at h
  have hle := len_le h
  have hpa := post_pos a
  have hpl : (post (again1 st a)).length = (post a).length + 1 := by cases st <;> simp [again1, post]
  have hsp : ∃ c, l = pre ++ (post a ++ (c :: suf)) := by cases st <;> exact ⟨_, by rw [h]; simp [again1, post]; rfl⟩
  obtain ⟨c, hsp⟩ := hsp
  have G := hid (fun fv fr u hA hB hn => H v fv l pre (c :: suf) (E - 1) s fr u hA hl hsp (by rw [hpl] at hE; omega) hB hn hs)
  have hA0 := hid hA
  obtain ⟨av, cv, rfl, _, _, _, hAt⟩ := hA
  obtain ⟨hjl, b', o', rfl, d0, -, -, -, -⟩ := cel_at hAt hc
  obtain rfl : E = (J : Int) := by omega
  have hjz : (J : Int) < (l.length : Int) := by omega
  have hop : (rootC (again1 st a)).op = if st then 5 else 6 := by cases st <;> rfl
  rw [hop] at d0
  have hblt := World.block_lt_of_cell? w _ d0
  obtain ⟨fa, fc, rfl⟩ := hB.shape
  have hfb := hid (hB.lt (by omega))
  have hB0 := hid hB
  have hJ1 : 1 ≤ J := by omega
  have hZ := hid (AgI.zero st a s bs hn)
  have hN : Hid (∀ k (h : k < bs.length), agF st bs k = (st && bs[k])) := hid (fun k h => by
    simp only [agF, List.getD_eq_getElem?_getD, List.getElem?_eq_getElem h, Option.getD_some])
  have hfin := hid (fun k fr o nx (h : AgI st a s bs k fr o) (hx : IsStp a s fr nx) => AgI.stop h hx hn)
  clear hAt hc h hE hJ hsp hpl hop hB
  have hbn : bs.length ≤ 1001 := by omega
  generalize hbN : bs.length = N at hbn hZ ⊢
  have hmk := run_make_row' (P := Tryz.prog) 82 4 (.bool false) 1 Tryz.underlying82 Tryz.info4 rfl .i64 .i64 N (by omega) (by omega)
  have hal := hid (al' w (.cells (madeCells #[.bool false] N) 4))
  generalize agF st bs = F at hN hZ
  have hO0 := hid (own_made0 w N F (by omega))
  go_enter Tryz.func47, Tryz.ntmps47
  go_wp2
  clear hmk
  go_loopw [10] (fun i wr => ∃ k : Nat, k ≤ N ∧ i = .int .i64 k ∧ Hid (OwnT wr w.heap.size (.slice (some ⟨w.heap.size, 0, none⟩) N N) (tabK N k F)) ∧ Below w.heap.size w wr) (fun i _ => N - (intOf i).toNat)
  case atStart => exact ⟨0, Nat.zero_le _, rfl, hO0, hal.out⟩
  case round =>
    obtain ⟨k, hk, rfl, hO, hbl⟩ := hrel
    by_cases hlt : k < N
    · have hltz : (k : Int) < (N : Int) := by omega
      obtain ⟨fb, fo, rfl, hfbl, hfcell⟩ := bls_at hB0.out (show k < bs.length by omega)
      have f0 := (hbl.cell hfbl).trans hfcell
      have c0 := (hbl.cell hblt).trans d0
      have hF1 := hid (hN.out k (by omega))
      have o0 := OwnT.at hO.out (j := k) (x := (tabK N k F)[k]'(by rw [tabK_len]; omega)) (List.getElem?_eq_getElem _)
      have o1 := OwnT.free hO.out (by rw [tabK_len]) k
      generalize (tabK N k F)[k]'_ = ox at o0
      clear hfcell
      have hnf : fb ≠ w.heap.size := by omega
      have hnb : b' ≠ w.heap.size := by omega
      have hput : Hid (∀ x, F k = x → OwnT (wr.setCell ⟨w.heap.size, k, none⟩ (.bool x)) w.heap.size (.slice (some ⟨w.heap.size, 0, none⟩) N N) (tabK N (k + 1) F)) := hid (fun x hx => by
        have h1 := OwnT.put_n (k := k) x hO.out (tabK_len N k F).symm
        rw [← hx, tabK_step] at h1
        rw [← hx]
        exact h1)
      cases hst : st with
      | false =>
        rw [hst] at c0
        simp only [Bool.false_eq_true, if_false] at c0
        rw [hst, Bool.false_and] at hF1
        go_wp2
        go_roundw
        case rel => exact ⟨k + 1, by omega, by go_num, hid (hput.out _ hF1.out), bl_set hbl _ _ _ (Nat.le_refl _)⟩
        case measure => simp [intOf]; omega
      | true =>
        rw [hst] at c0
        simp only [if_true] at c0
        rw [hst, Bool.true_and] at hF1
        generalize bs[k]'_ = x at f0 hF1
        go_wp2
        go_roundw
        case rel => exact ⟨k + 1, by omega, by go_num, hid (hput.out _ hF1.out), bl_set hbl _ _ _ (Nat.le_refl _)⟩
        case measure => simp [intOf]; omega
    · have hltz : ¬ (k : Int) < (N : Int) := by omega
      obtain rfl : N = k := by omega
      have hend := hid hO.out
      have hbl0 := hid hbl
      clear hO hbl hN
      go_wp2
      go_loopw [3] (fun fr wr => ∃ (q : Nat) (frl o : List Bool) (fa : Option Addr) (fc : Nat), fr = .slice fa N fc ∧ Hid (AgI st a s bs q frl o) ∧ Hid (Bls wr fr frl) ∧ Hid (fr.ownBlock ≠ some w.heap.size) ∧ Hid (OwnT wr w.heap.size (.slice (some ⟨w.heap.size, 0, none⟩) N N) o) ∧ Below w.heap.size w wr) (fun _ wr => offs wr w.heap.size N)
      case atStart => exact ⟨0, bs, _, _, _, rfl, hZ, hid (by have h1 := hB0.out; rw [hbN] at h1; exact h1.keep hbl0.out), hid (fun e => by have h1 := hfb.out _ (by rw [hbN]; exact e); omega), hend, hbl0.out⟩
      case round =>
        obtain ⟨q, frl, o, fa', fc', rfl, hI, hBf, hnb, hO, hbl⟩ := hrel
        have hlo : o.length = N := by rw [hI.out.lo]; omega
        have hgl : w.heap.size < wr.heap.size := (hO.out.lt w.heap.size rfl).2
        have GG := hid (G.out _ frl wr (hA0.out.keep hbl) hBf.out hI.out.lf)
        go_wp2_with (go_at_call 32; refine GG.out.mono ?_; rintro e w1 ⟨nv, nx, rfl, h1, h2, h3, hb1⟩; have hst := hid h1; have hnl : nx.length = N := (by have := h1.len; omega); obtain ⟨na, nc, hnv⟩ := h2.shape; rw [hnl] at hnv; subst hnv; have hBn := hid h2; have hor := hid h3; clear h1 h2 h3)
        have hO1 := hid (own_below hO.out hb1)
        have hne := hid (show (Value.slice na N nc).ownBlock ≠ some w.heap.size from fun e => by
          rcases hor.out with h1 | h1
          · rw [h1] at e; exact hnb.out e
          · have := h1 _ e; omega)
        have hbl1 := hid (bl_step hbl hb1)
        have hoff := hid (hO.out.offs hlo.symm)
        clear hor
        go_loopw [12, 13] (fun mo i wr => ∃ j : Nat, j ≤ N ∧ i = .int .i64 j ∧ mo = .bool (newL o nx j) ∧ Hid (OwnT wr w.heap.size (.slice (some ⟨w.heap.size, 0, none⟩) N N) (mixL o nx j)) ∧ Hid (Bls wr (.slice na N nc) nx) ∧ Below w.heap.size w wr) (fun _ i _ => N - (intOf i).toNat)
        case atStart => exact ⟨0, Nat.zero_le _, rfl, rfl, hid (by rw [mixL_zero]; exact hO1.out), hBn, hbl1.out⟩
        case round =>
          obtain ⟨j, hj, rfl, rfl, hO2, hB2, hbl2⟩ := hrel
          by_cases hjN : j < N
          · have hjz2 : (j : Int) < (N : Int) := by omega
            obtain ⟨nb, no, rfl, hnbl, n0⟩ := bls_atn hB2.out (j := j) (by omega)
            have o0 := OwnT.at hO2.out (mixL_at o nx j (by omega))
            have o1 := OwnT.free hO2.out (by rw [mixL_len]; omega) j
            have hx := nx_get nx j (by omega)
            have hsucc := hid (newL_succ o nx j)
            have hskip := hid (mixL_skip o nx j)
            have hputL := hid (mixL_put o nx j (by omega))
            have hnb2 : nb ≠ w.heap.size := fun e => hne.out (congrArg some e)
            rw [hx] at n0
            generalize hyy : o.getD j false = y at o0 hsucc hskip
            generalize hxx : nx.getD j false = x at n0 hsucc hskip hputL
            generalize newL o nx j = mo at hsucc ⊢
            cases x <;> cases y
            · go_wp2
              go_roundw
              case rel => exact ⟨j + 1, by omega, by go_num, by rw [hsucc.out]; simp, hid (by rw [hskip.out rfl]; exact hO2.out), hB2, hbl2⟩
              case measure => simp [intOf]; omega
            · go_wp2
              go_roundw
              case rel => exact ⟨j + 1, by omega, by go_num, by rw [hsucc.out]; simp, hid (by rw [hskip.out rfl]; exact hO2.out), hB2, hbl2⟩
              case measure => simp [intOf]; omega
            · go_wp2
              go_roundw
              case rel => exact ⟨j + 1, by omega, by go_num, by rw [hsucc.out]; simp, hid (by
                have h1 := OwnT.put_n (k := j) true hO2.out (by rw [mixL_len]; omega)
                rw [hputL.out rfl] at h1
                exact h1), hid (hB2.out.set hne.out), bl_set hbl2 _ _ _ (Nat.le_refl _)⟩
              case measure => simp [intOf]; omega
            · go_wp2
              go_roundw
              case rel => exact ⟨j + 1, by omega, by go_num, by rw [hsucc.out]; simp, hid (by rw [hskip.out rfl]; exact hO2.out), hB2, hbl2⟩
              case measure => simp [intOf]; omega
          · have hjz2 : ¬ (j : Int) < (N : Int) := by omega
            obtain rfl : N = j := by omega
            cases hmo : newL o nx N with
            | false =>
              have hres := hid (hfin.out q frl o nx hI.out hst.out (by rw [hlo]; exact hmo))
              have hbb := hid (bls_n (by have h1 := hO2.out; rw [mixL_same hmo] at h1; exact h1) hlo.symm)
              go_wp2
              go_ret
              exact ⟨_, rfl, o, hres.out, hbb.out, Or.inr (new_blk w _ _ _), hbl2⟩
            | true =>
              have hlt := hid (offL_lt (o := o) (nx := nx) (by rw [hlo]; exact hmo))
              have hoff2 := hid (hO2.out.offs (by rw [mixL_len]; exact hlo.symm))
              have hnxt := hid (AgI.next hI.out hst.out)
              rw [hlo] at hlt hnxt
              go_wp2
              go_roundw
              case rel => exact ⟨q + 1, nx, _, _, _, rfl, hnxt, hB2, hne, hO2, hbl2⟩
              case measure => rw [hoff2.out, hoff.out]; exact hlt.out

end Go.Proofs.YtonlcnmlklaicaaGreatDoor
namespace Go.Proofs.YtonlcnmlklaicaaGreatDoor
open Go.RowKit

theorem ne_out {w u : World} {v fv : Value} (hf : ∀ k, fv.ownBlock = some k → k < w.heap.size) (hu : w.heap.size < u.heap.size) (h : v = fv ∨ ∀ k, v.ownBlock = some k → u.heap.size ≤ k) : v.ownBlock ≠ some w.heap.size := by
  intro e
  rcases h with rfl | h
  · exact Nat.lt_irrefl _ (hf _ e)
  · have := h _ e; omega
theorem new_or {w u : World} {v fv : Value} (hu : w.heap.size ≤ u.heap.size) (h : v = fv ∨ ∀ k, v.ownBlock = some k → u.heap.size ≤ k) : v = fv ∨ ∀ k, v.ownBlock = some k → w.heap.size ≤ k :=
  h.imp id fun h k hk => Nat.le_trans hu (h k hk)
theorem new_or2 {w u : World} {v v1 fv : Value} (hu : w.heap.size ≤ u.heap.size) (h : v = v1 ∨ ∀ k, v.ownBlock = some k → u.heap.size ≤ k) (h1 : v1 = fv ∨ ∀ k, v1.ownBlock = some k → w.heap.size ≤ k) : v = fv ∨ ∀ k, v.ownBlock = some k → w.heap.size ≤ k := by
  rcases h with rfl | h
  · exact h1
  · exact Or.inr fun k hk => Nat.le_trans hu (h k hk)

set_option maxRecDepth 20000 in
set_option maxHeartbeats 8000000 in
theorem fitsOfSet (a b c d : Nat) : FitsC 32 (.set ⟨a, b, c, d⟩) (.set ⟨a, b, c, d⟩) := by
  intro v fv l pre suf E s bs w hA hl h hE hB hn hs
  obtain ⟨J, hJ, hc⟩ := root_at h
  obtain rfl : E = (J : Int) := by omega
  refine (fitsSet v fv l J a b c d s bs w hA hl hc hB hn hs).mono ?_
  rintro e w' ⟨v', rfl, h1, h2, h3⟩
  exact ⟨v', _, rfl, isStp_set _ s bs hn, h1, Or.inr h2, h3⟩
set_option maxRecDepth 20000 in
set_option maxHeartbeats 8000000 in
theorem fitsOfEps : FitsC 32 .eps .eps := by
  intro v fv l pre suf E s bs w hA hl h hE hB hn hs
  obtain ⟨J, hJ, hc⟩ := root_at h
  obtain ⟨av, cv, rfl, _, _, _, hAt⟩ := hA
  obtain ⟨hjl, b', o', rfl, d0, -, -, -, -⟩ := cel_at hAt hc
  obtain rfl : E = (J : Int) := by omega
  have hjz : (J : Int) < (l.length : Int) := by omega
  simp only [rootC] at d0
  obtain ⟨fa, fc, rfl⟩ := hB.shape
  have hB0 := hid hB
  have hres := hid (isStp_eps s bs hn)
  clear hAt hc h hE hJ hB
  have hbn : bs.length ≤ 1001 := by omega
  generalize hbN : bs.length = N at hbn hB0 ⊢
  have hmk := run_make_row' (P := Tryz.prog) 82 4 (.bool false) 1 Tryz.underlying82 Tryz.info4 rfl .i64 .i64 N (by omega) (by omega)
  have hal := hid (al' w (.cells (madeCells #[.bool false] N) 4))
  have e0 := keep_cell hal.out d0
  go_enter Tryz.func32, Tryz.ntmps32
  go_wp2
  go_ret
  exact ⟨_, bs, rfl, hres.out, hB0.out.keep hal.out, Or.inl rfl, hal.out⟩
set_option maxRecDepth 20000 in
set_option maxHeartbeats 8000000 in
theorem fitsOfStar (a : Rx) (Ha : FitsC 32 a a) : FitsC 32 (.star a) (.star a) := by
  intro v fv l pre suf E s bs w hA hl h hE hB hn hs
  have G := hid (fun u hA hB => againC true a Ha v fv l pre suf E s bs u hA hl h hE hB hn hs)
  have hA0 := hid hA
  have hB0 := hid hB
  obtain ⟨J, hJ, hc⟩ := root_at h
  obtain ⟨av, cv, rfl, _, _, _, hAt⟩ := hA
  obtain ⟨hjl, b', o', rfl, d0, -, -, -, -⟩ := cel_at hAt hc
  obtain rfl : E = (J : Int) := by omega
  have hjz : (J : Int) < (l.length : Int) := by omega
  simp only [rootC] at d0
  obtain ⟨fa, fc, rfl⟩ := hB.shape
  clear hAt hc h hE hJ hB
  have hbn : bs.length ≤ 1001 := by omega
  generalize hbN : bs.length = N at hbn hB0 G ⊢
  have hmk := run_make_row' (P := Tryz.prog) 82 4 (.bool false) 1 Tryz.underlying82 Tryz.info4 rfl .i64 .i64 N (by omega) (by omega)
  have hal := hid (al' w (.cells (madeCells #[.bool false] N) 4))
  have e0 := keep_cell hal.out d0
  have GG := hid (G.out _ (hA0.out.keep hal.out) (hB0.out.keep hal.out))
  go_enter Tryz.func32, Tryz.ntmps32
  go_wp2_with (go_at_call 47; refine GG.out.mono ?_; rintro e w1 ⟨nv, nx, rfl, h1, h2, h3, hb1⟩; have h1 := hid h1; have h2 := hid h2; have h3 := hid h3)
  go_ret
  exact ⟨_, nx, rfl, h1.out, h2.out, new_or (by simp) h3.out, bl_step hal.out hb1⟩
set_option maxRecDepth 20000 in
set_option maxHeartbeats 8000000 in
theorem fitsOfPlus (a : Rx) (Ha : FitsC 32 a a) : FitsC 32 (.plus a) (.plus a) := by
  intro v fv l pre suf E s bs w hA hl h hE hB hn hs
  have G := hid (fun u hA hB => againC false a Ha v fv l pre suf E s bs u hA hl h hE hB hn hs)
  have hA0 := hid hA
  have hB0 := hid hB
  obtain ⟨J, hJ, hc⟩ := root_at h
  obtain ⟨av, cv, rfl, _, _, _, hAt⟩ := hA
  obtain ⟨hjl, b', o', rfl, d0, -, -, -, -⟩ := cel_at hAt hc
  obtain rfl : E = (J : Int) := by omega
  have hjz : (J : Int) < (l.length : Int) := by omega
  simp only [rootC] at d0
  obtain ⟨fa, fc, rfl⟩ := hB.shape
  clear hAt hc h hE hJ hB
  have hbn : bs.length ≤ 1001 := by omega
  generalize hbN : bs.length = N at hbn hB0 G ⊢
  have hmk := run_make_row' (P := Tryz.prog) 82 4 (.bool false) 1 Tryz.underlying82 Tryz.info4 rfl .i64 .i64 N (by omega) (by omega)
  have hal := hid (al' w (.cells (madeCells #[.bool false] N) 4))
  have e0 := keep_cell hal.out d0
  have GG := hid (G.out _ (hA0.out.keep hal.out) (hB0.out.keep hal.out))
  go_enter Tryz.func32, Tryz.ntmps32
  go_wp2_with (go_at_call 47; refine GG.out.mono ?_; rintro e w1 ⟨nv, nx, rfl, h1, h2, h3, hb1⟩; have h1 := hid h1; have h2 := hid h2; have h3 := hid h3)
  go_ret
  exact ⟨_, nx, rfl, h1.out, h2.out, new_or (by simp) h3.out, bl_step hal.out hb1⟩

end Go.Proofs.YtonlcnmlklaicaaGreatDoor
