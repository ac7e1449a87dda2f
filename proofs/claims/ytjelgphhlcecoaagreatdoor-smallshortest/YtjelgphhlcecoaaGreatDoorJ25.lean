/- What spots.Of answers is one; lists of spots that agree. sets.Has; append in a region that draws its order; (*dfa.places).add. (*dfa.places).add. Layer 8's law: rules in memory; right, heavy. -/
import Derived.Test.YtjelgphhlcecoaaGreatDoorJ24
import Derived.Test.YtjelgphhlcecoaaGreatDoorJ23
import Derived.Test.YtjelgphhlcecoaaGreatDoorJ22
import Derived.Test.YtjelgphhlcecoaaGreatDoorShelf
import Derived.Test.YtjelgphhlcecoaaGreatDoorJ13
import Derived.Deep.AppendLies
import Derived.Deep.RegionLaw
namespace Go.Proofs.YtjelgphhlcecoaaGreatDoor
open Go.RowKit

theorem Cels.shape {w : World} {v : Value} {l : List Cel} (h : Cels w v l) : ∃ a c, v = .slice a l.length c := by
  obtain ⟨a, c, e, _⟩ := h
  exact ⟨a, c, e⟩
theorem folOK_uniq {R : Nat → Nat → Prop} {n : Nat} {a b : List (List Int)} (ha : FolOK R n a) (hb : FolOK R n b) : a = b := by
  have l1 := ha.len
  have l2 := hb.len
  refine List.ext_getElem (by omega) fun j h1 h2 => ?_
  have := up_uniq (ha.up j (by omega)) (hb.up j (by omega)) fun x => (ha.mem j x (by omega)).trans (hb.mem j x (by omega)).symm
  simp only [List.getD_eq_getElem?_getD, List.getElem?_eq_getElem h1, List.getElem?_eq_getElem h2] at this
  exact this
/-- a rule's spots, with these lists behind each -/
def spOf (t : Rx) (fl : List (List Int)) : Sp := ⟨setsS [t], t.null, firstL t 0, lastL t 0, fl⟩
theorem spOf_is {t : Rx} {fl : List (List Int)} (h : FolOK (FolS [t]) (nS [t]) fl) : IsSp t (spOf t fl) := isSp_of h (firstL_mem t 0) (lastL_mem t 0)
theorem nS_one (t : Rx) : nS [t] = nSets t := by simp [nS]
theorem spOf_bounds {t : Rx} {fl : List (List Int)} (h : FolOK (FolS [t]) (nS [t]) fl) (h60 : (post t).length ≤ 60) : (spOf t fl).sets.length ≤ 60 ∧ (spOf t fl).follow.length = (spOf t fl).sets.length ∧ (spOf t fl).first.length ≤ 60 ∧ (spOf t fl).last.length ≤ 60 ∧ ∀ l ∈ (spOf t fl).follow, l.length ≤ 60 := by
  have hn : nSets t ≤ 60 := Nat.le_trans (nSets_le t) h60
  have hs : (setsS [t]).length = nSets t := by rw [setsS_len, nS_one]
  refine ⟨by show (setsS [t]).length ≤ 60; omega, ?_, Nat.le_trans (firstL_len t 0) hn, Nat.le_trans (lastL_len t 0) hn, fun l hl => ?_⟩
  · show fl.length = (setsS [t]).length
    rw [h.len, nS_one, hs]
  · have hl' : l ∈ fl := hl
    obtain ⟨j, hj, rfl⟩ := List.getElem_of_mem hl'
    have hj' : j < nS [t] := by rw [← h.len]; exact hj
    have e : fl.getD j [] = fl[j] := by rw [List.getD_eq_getElem?_getD, List.getElem?_eq_getElem hj]; rfl
    have hu := h.up j hj'
    have hi := h.inN (fun j k hjk => (folS_in [t] j k hjk).2) j hj'
    rw [e] at hu hi
    exact Nat.le_trans (inN_len hu hi) (by rw [nS_one]; exact hn)


/-- these are the rule's spots -/
def SpAt (t : Rx) (p : Sp) : Prop := ∃ fl, p = spOf t fl ∧ FolOK (FolS [t]) (nS [t]) fl
theorem SpAt.uniq {t : Rx} {p q : Sp} (h : SpAt t p) (h' : SpAt t q) : p = q := by
  obtain ⟨fl, rfl, h1⟩ := h
  obtain ⟨fl', rfl, h2⟩ := h'
  rw [folOK_uniq h1 h2]
theorem SpAt.sml {t : Rx} {p : Sp} (h : SpAt t p) (h60 : (post t).length ≤ 60) : SmlS p := by
  obtain ⟨fl, rfl, h1⟩ := h
  have hn : nSets t ≤ 60 := Nat.le_trans (nSets_le t) h60
  obtain ⟨b1, b2, b3, b4, b5⟩ := spOf_bounds h1 h60
  have H := spOf_is h1
  refine ⟨b1, b3, fun x hx => ?_, b4, b2, fun l hl => ⟨b5 l hl, fun x hx => ?_⟩⟩
  · obtain ⟨k, rfl, hk⟩ := (H.first x).1 hx
    have := fst_in t 0 k hk
    omega
  · obtain ⟨j, hj, rfl⟩ := List.getElem_of_mem hl
    have hj' : j < nSets t := by rw [← H.len]; exact hj
    have e : (spOf t fl).follow.getD j [] = (spOf t fl).follow[j] := by rw [List.getD_eq_getElem?_getD, List.getElem?_eq_getElem hj]; rfl
    obtain ⟨k, rfl, hk⟩ := (H.follow j x hj').1 (by rw [e]; exact hx)
    have := fol_in t 0 j k hk
    omega
/-- all of them -/
structure SpAll (ts : List Rx) (all : List Sp) : Prop where
  len : all.length = ts.length
  is : ∀ r (h : r < ts.length), SpAt ts[r] (all.getD r noSp)
theorem getD_all {all : List Sp} {r : Nat} (h : r < all.length) : all.getD r noSp = all[r] := getD_at h
theorem SpAll.uniq {ts : List Rx} {a b : List Sp} (ha : SpAll ts a) (hb : SpAll ts b) : a = b := by
  refine List.ext_getElem (by rw [ha.len, hb.len]) fun i h1 h2 => ?_
  have hi : i < ts.length := by rw [← ha.len]; exact h1
  have := (ha.is i hi).uniq (hb.is i hi)
  rw [getD_all h1, getD_all h2] at this
  exact this
theorem SpAll.ru {ts : List Rx} {all : List Sp} (h : SpAll ts all) (h60 : ∀ t ∈ ts, (post t).length ≤ 60) : RuS ts all where
  len := h.len
  is := fun r hr => by
    obtain ⟨fl, e, h1⟩ := h.is r hr
    rw [e]
    exact spOf_is h1
  few := fun r hr => Nat.le_trans (nSets_le _) (h60 _ (List.getElem_mem hr))
  up := fun r hr => by
    obtain ⟨fl, e, h1⟩ := h.is r hr
    rw [e]
    exact firstL_up _ _
theorem SpAll.sml {ts : List Rx} {all : List Sp} (h : SpAll ts all) (h60 : ∀ t ∈ ts, (post t).length ≤ 60) : ∀ p ∈ all, SmlS p := by
  intro p hp
  obtain ⟨i, hi, rfl⟩ := List.getElem_of_mem hp
  have hi' : i < ts.length := by rw [← h.len]; exact hi
  have := (h.is i hi').sml (h60 _ (List.getElem_mem hi'))
  rwa [getD_all hi] at this
/-- lists that agree in their first m -/
def agr (a b : List Sp) (m : Nat) : Prop := a.length = b.length ∧ ∀ i, i < m → a.getD i noSp = b.getD i noSp
theorem offP_congr {a b : List Sp} {m : Nat} (h : agr a b m) : ∀ k, k ≤ m → offP a k = offP b k
  | 0, _ => h.1
  | k + 1, hk => by rw [offP, offP, offP_congr h k (by omega), h.2 k (by omega)]
theorem setsP_congr {a b : List Sp} {m : Nat} (h : agr a b m) : ∀ k, k ≤ m → setsP a k = setsP b k
  | 0, _ => by rw [setsP, setsP, h.1]
  | k + 1, hk => by rw [setsP, setsP, setsP_congr h k (by omega), h.2 k (by omega)]
theorem behP_congr {a b : List Sp} {m : Nat} (h : agr a b m) : ∀ k, k ≤ m → behP a k = behP b k
  | 0, _ => by rw [behP, behP, h.1]
  | k + 1, hk => by
    rw [behP, behP, behP_congr h k (by omega), h.2 k (by omega)]
    congr 1
    refine List.map_congr_left fun j _ => ?_
    unfold behOne
    rw [h.2 k (by omega), offP_congr h k (by omega)]
theorem firP_congr {a b : List Sp} {m : Nat} (h : agr a b m) : ∀ k, k ≤ m → firP a k = firP b k
  | 0, _ => rfl
  | k + 1, hk => by rw [firP, firP, firP_congr h k (by omega), h.2 k (by omega), offP_congr h k (by omega)]
theorem agr_set {a : List Sp} {k : Nat} (p : Sp) : agr a (a.set k p) k := by
  refine ⟨by simp, fun i hi => ?_⟩
  rw [List.getD_eq_getElem?_getD, List.getD_eq_getElem?_getD, List.getElem?_set, if_neg (by omega)]
theorem set_at {a : List Sp} {k : Nat} (h : k < a.length) (p : Sp) : (a.set k p).getD k noSp = p := by
  rw [List.getD_eq_getElem?_getD, List.getElem?_set, if_pos rfl, if_pos h]
  rfl

end Go.Proofs.YtjelgphhlcecoaaGreatDoor
namespace Go.Proofs.YtjelgphhlcecoaaGreatDoor
open Go.RowKit

set_option maxRecDepth 20000 in
theorem setsHas (v : Value) (l : List Int) (n : Int) (w : World) (hl : l.length ≤ 1000000) (hA : Nums w v l) :
    Calls Tryz.prog 68 #[v, .int .i64 n] w fun e w' => e = .returned (.bool (l.contains n)) ∧ w' = w := by
  have G : Hid (Calls Tryz.prog 83 #[v, .int .i64 n] w fun e w' => e = .returned (.bool (l.contains n)) ∧ w' = w) := by
    by_cases h0 : l = []
    · subst h0
      obtain ⟨aa, ca, rfl, _, _, hA⟩ := hA
      exact hid ((Tryz.slices_Contains_int_empty aa ca n w).mono fun e w' ⟨he, hw⟩ => ⟨he, hw⟩)
    · obtain ⟨b, o, cap, rfl, hcap, hb, hc⟩ := hA.at (List.length_pos_iff.2 h0)
      have := Tryz.slices_Contains_int b o l.length cap l n w (Nat.le_refl _) (by omega) (Nums.getD hc)
      rw [List.take_of_length_le (Nat.le_refl _)] at this
      exact hid this
  generalize l.contains n = r at G ⊢
  clear hA
  go_enter Tryz.func68, Tryz.ntmps68
  go_wp2_with (go_at_call 83; refine (G.out).mono ?_; rintro e w1 ⟨rfl, hw1⟩; subst w1)
  go_ret
  exact ⟨rfl, rfl⟩
theorem grown_refl (w : World) (r : Option Nat) : w.grownBy w r := ⟨rfl, rfl, rfl, Nat.le_refl _, fun _ _ _ => rfl⟩
theorem step_append_none {P : Program} {w : World} {ops : Array Oper} {o : Oper} {a : Act} {K : Act → World → Prop} {Q : Exit → Act → World → Prop} {E : Prop} (hgd : o.guard = none) (s x : Operand) (t : TypeId)
    (ho : o.op = .call { callee := .builtin .append, args := #[s, x], argTypes := #[t, t] })
    (base : Nat) (e : TypeId) (i : TypeInfo) (size : Nat) (ht : P.underlying t = some (.slice e)) (hi : P.info? e = some i)
    (v : Value) (n : Nat) (xs : List Value) (hs : a.eval s = v) (hown : w.ownsRow base e size v n xs) (hx : a.eval x = .slice none 0 0)
    (h : K (a.put o.dst v) w) : if Region.wanted o (yielded ops a.tmps) = true then Oper.wp P o a w K Q else E := by
  have hw : Region.wanted o (yielded ops a.tmps) = true := by simp [Region.wanted, hgd]
  rw [if_pos hw]
  have hrun := run_append_owned_none (P := P) (w := w) base t o.type e i size ht hi v n xs hown
  unfold Oper.wp
  simp [execOp, ho, resolve, invoke, builtin, hs, hx, hrun, Result.andThen]
  exact h
set_option maxRecDepth 20000 in
/-- append of numbers onto a list of one's own, in a region that draws its order -/
theorem step_appN {w : World} {ops : Array Oper} {o : Oper} {a : Act} {K : Act → World → Prop} {Q : Exit → Act → World → Prop} {E : Prop} (hgd : o.guard = none) (s x : Operand)
    (ho : o.op = .call { callee := .builtin .append, args := #[s, x], argTypes := #[23, 23] })
    (B : Nat) (l1 l2 : List Int) (v vx : Value) (hs : a.eval s = v) (hx : a.eval x = vx) (hown : Own w B v l1) (hN : Nums w vx l2) (hN0 : l2 = [] → vx = .slice none 0 0) (hl : l1.length + l2.length ≤ 4000000) (hB : B ≤ w.heap.size)
    (h : ∀ av c w', Own w' B (.slice av (l1.length + l2.length) c) (l1 ++ l2) → w.grownBy w' v.ownBlock → (∀ k, (Value.slice av (l1.length + l2.length) c).ownBlock = some k → v.ownBlock = some k ∨ w.heap.size ≤ k) → K (a.put o.dst (.slice av (l1.length + l2.length) c)) w') :
    if Region.wanted o (yielded ops a.tmps) = true then Oper.wp Tryz.prog o a w K Q else E := by
  obtain ⟨i0, hi, hz0, hz1, hz2⟩ := info_parts Tryz.info3
  by_cases h0 : l2 = []
  · subst h0
    have hv := hN0 rfl
    subst hv
    obtain ⟨av, c, rfl⟩ := own_shape hown
    refine step_append_none hgd s x 23 ho B 3 i0 1 Tryz.underlying23 hi _ _ _ hs hown hx ?_
    have := h av c w (by rw [List.append_nil]; exact hown) (grown_refl _ _) (fun k hk => Or.inl hk)
    exact this
  · have hpos := List.length_pos_iff.2 h0
    obtain ⟨b, o', cap, rfl, hcap, hb, hc⟩ := hN.at hpos
    refine step_append_lies w hgd s x 23 ho B 3 i0 (.int .i64 0) 1 8 Tryz.underlying23 hi hz0 hz1 hz2 rfl (by decide) v _ _ hs hown ⟨b, o', none⟩ l2.length cap (numCells l2) hx (by rw [numCells_len]; omega) (Nums.news hc) (numCells_one l2) hpos (by unfold maxLen; omega) (by omega) hB w.heap.size rfl ?_
    intro g cap' w' hO hg hat _
    refine h _ _ w' ?_ hg ?_
    · unfold Own
      rw [numCells_app, List.length_append]
      exact hO
    · intro k hk
      have e1 : g = k := by injection hk
      subst e1
      rcases hat with h1 | h1
      · exact Or.inl h1
      · exact Or.inr (by omega)

end Go.Proofs.YtjelgphhlcecoaaGreatDoor
namespace Go.Proofs.YtjelgphhlcecoaaGreatDoor
open Go.RowKit

/-- places in memory, wherever their rows lie -/
def PlX (B pb e : Nat) (w : World) (S : List W4) (G : List (List Int)) (f : List Int) : Prop := ∃ F sv bv fv gs, PlO B pb e F w sv bv fv S gs G f
/-- what a rule adds to what is behind its spots: the first k of them -/
def begB (from' end' : Nat) (p : Sp) : Nat → List (List Int)
  | 0 => []
  | k + 1 => begB from' end' p k ++ [movL from' (p.follow.getD k []) ++ (if p.last.contains (k : Int) then [(end' : Int)] else [])]
theorem begB_is (from' end' : Nat) (p : Sp) : ∀ k, begB from' end' p k = (List.range k).map fun j => movL from' (p.follow.getD j []) ++ (if p.last.contains (j : Int) then [(end' : Int)] else [])
  | 0 => rfl
  | k + 1 => by rw [begB, begB_is from' end' p k, List.range_succ, List.map_append]; rfl
theorem kept_lowP {s : Nat} {F : Nat → Prop} {W w u : World} {r : Option Nat} (h : Kept (fun k => k < s) W w) (hg : w.grownBy u r) (hr : ∀ k, r = some k → F k) (hF : ∀ k, F k → k < s ∨ W.heap.size ≤ k) : Kept (fun k => k < s) W u :=
  h.step (Kept.of_grown hg) fun k hk e => by
    rcases hF k (hr k e) with h1 | h1
    · exact h1
    · omega
/-- what is left to be shown, whatever the order in which a region was gone through -/
structure RestOf (R : Prop) : Prop where
  out : R
theorem collapse {R G : Prop} (h : RestOf R → G) (pf : R) : G := h ⟨pf⟩
theorem off_more {F : Nat → Prop} {u : World} {B' : Nat} {v v5 : Value} {l : List Int} (hO : Own u B' v l) (hF : ∀ k, F k → k < B') (hat : ∀ k, v5.ownBlock = some k → F k ∨ u.heap.size ≤ k) : Off (fun k => F k ∨ v5.ownBlock = some k) v := fun ad n c e h0 hf => by
  have hl := hO.lt
  rcases hO.2 with ⟨rfl, _⟩ | ⟨g, cap, cur, rfl, hb, _⟩
  · cases e
  · injection e with e1
    cases e1
    have h1 : B' ≤ g := hb
    have h2 : g < u.heap.size := (hl g rfl).2
    have key : ¬ F g := fun h => by have := hF g h; omega
    rcases hf with h | h
    · exact key h
    · rcases hat g h with h3 | h3
      · exact key h3
      · omega
theorem ownS_snoc {w : World} {B g n cap : Nat} {S : List W4} {a b c d : Nat} (h : w.ownsRow B 97 4 (.slice (some ⟨g, 0, none⟩) (S.length + 1) cap) (S.length + 1) (flatS S ++ [.int .u64 (a : Int), .int .u64 (b : Int), .int .u64 (c : Int), .int .u64 (d : Int)])) (_hn : n = S.length) : OwnS w B (.slice (some ⟨g, 0, none⟩) (S.length + 1) cap) (S ++ [⟨a, b, c, d⟩]) := by
  unfold OwnS
  rw [flatS_app, List.length_append]
  exact h
set_option maxRecDepth 20000 in
theorem Tryz.infoNs : (Tryz.prog.info? 23).map (fun i => (i.zero, i.size, i.bytes)) = some (some (.slice none 0 0), 1, 24) := by kernel_rfl
set_option maxRecDepth 20000 in
set_option maxHeartbeats 8000000 in
theorem addC (B pb e s en : Nat) (F : Nat → Prop) (sv bv fv : Value) (S : List W4) (gs : List Value) (G : List (List Int)) (f : List Int) (p : Sp) (rs rf rl rg : Value) (w : World)
    (h : PlO B pb e F w sv bv fv S gs G f) (hs : s ≤ w.heap.size) (hF : ∀ k, F k → k < s) (hr : SpVF (fun k => k < s) w rs rf rl rg p) (hsm : SmlS p) (hS : S.length ≤ 2000) (hgl : gs.length ≤ 2000) (hfl : f.length ≤ 4000) (_hen : en ≤ 100) :
    Calls Tryz.prog 49 #[.pointer (some ⟨pb, 0, none⟩), .agg #[rs, .bool p.null, rf, rl, rg], .int .i64 (en : Int)] w fun z w' => z = .returned (.tuple #[]) ∧ PlX B pb e w' (S ++ p.sets) (G ++ begB S.length en p p.sets.length) (f ++ (movL S.length p.first ++ (if p.null then [(en : Int)] else []))) ∧ Below B w w' := by
  obtain ⟨rsa, rsc, rfl⟩ : ∃ a c, rs = .slice a p.sets.length c := by obtain ⟨a, c, e, _⟩ := hr.spv.sets; exact ⟨a, c, e⟩
  obtain ⟨rfa, rfc, rfl⟩ : ∃ a c, rf = .slice a p.first.length c := by obtain ⟨a, c, e, _⟩ := hr.spv.first; exact ⟨a, c, e⟩
  obtain ⟨rla, rlc, rfl⟩ : ∃ a c, rl = .slice a p.last.length c := by obtain ⟨a, c, e, _⟩ := hr.spv.last; exact ⟨a, c, e⟩
  obtain ⟨rga, rgc, rfl⟩ : ∃ a c, rg = .slice a p.sets.length c := by obtain ⟨a, c, e, _⟩ := hr.spv.follow; rw [hsm.flen] at e; exact ⟨a, c, e⟩
  obtain ⟨FF, hFF⟩ : ∃ FF : List Int, Hid (FF = f ++ (movL S.length p.first ++ (if p.null then [(en : Int)] else []))) := ⟨_, hid rfl⟩
  rw [← hFF.out]
  obtain ⟨sa, sc, rfl⟩ := own_shape h.sets
  obtain ⟨ba, bc, rfl⟩ := own_shape h.beh
  obtain ⟨fa, fc, rfl⟩ := own_shape h.fir
  obtain ⟨W0, hW0⟩ : ∃ W0, W0 = w.alloc (.cells #[.slice rsa p.sets.length rsc, .bool p.null, .slice rfa p.first.length rfc, .slice rla p.last.length rlc, .slice rga p.sets.length rgc] 91) := ⟨_, rfl⟩
  have hb0 : Hid (Below w.heap.size w W0) := by rw [hW0]; exact hid (al' w _)
  have hq0 : Hid (W0.heap[w.heap.size]? = some (.cells #[.slice rsa p.sets.length rsc, .bool p.null, .slice rfa p.first.length rfc, .slice rla p.last.length rlc, .slice rga p.sets.length rgc] 91)) := by rw [hW0]; exact hid (heap_new w _)
  have hs0 : Hid (W0.heap.size = w.heap.size + 1) := by rw [hW0]; exact hid (by simp)
  have h0 := hid (h.keep hb0.out)
  have hr0 := hid (hr.keep hb0.out)
  have hBw := h.size
  obtain ⟨c0, c1, c2, c3, f0, f1, f2, f3⟩ := cells4p h.blk
  have hpw := blk_lt h.blk
  have hpn : pb ≠ w.heap.size := by omega
  have hrb : Hid (∀ u, Kept (fun k => k < s) W0 u → u.heap[w.heap.size]? = some (.cells #[.slice rsa p.sets.length rsc, .bool p.null, .slice rfa p.first.length rfc, .slice rla p.last.length rlc, .slice rga p.sets.length rgc] 91)) := hid (fun u hu => hu.blk hq0.out (fun hh => absurd hs (Nat.not_le.2 hh)))
  have GM := hid (fun v l u (h1 : l.length ≤ 100000) (h2 : ∀ x ∈ l, 0 ≤ x ∧ x < 1000000) (h3 : Nums u v l) => movedC S.length v l u (by omega) h1 h2 h3)
  have hsm' := hid hsm
  have hF0 := hid hF
  have hfi := hsm.first
  have hse := hsm.sets
  have hsmF : Hid (∀ x ∈ p.first, 0 ≤ x ∧ x < 1000000) := hid (fun x hx => by have := hsm.firstIn x hx; omega)
  have hfol := hid hsm.flen
  clear h hr hsm hF
  go_enter Tryz.func49, Tryz.ntmps49
  go_wp2_with fail
  rw [← hW0]
  clear hW0 c0 c1 c2 c3 f0 f1 f2 f3
  have hW0d : Below W0.heap.size W0 W0.drew := (Below.refl _ _).drew
  obtain ⟨c0, c1, c2, c3, f0, f1, f2, f3⟩ := cells4p (h0.out.keep hW0d).blk
  obtain ⟨r0, r1, r2, r3, r4, -⟩ := cells5s (hs_keep hq0.out hW0d)
  have hW0d := hid hW0d
  have GM1 := hid (GM.out _ p.first W0.drew (by omega) hsmF.out (hr0.out.spv.first.keep hW0d.out))
  have hml : (movL S.length p.first).length ≤ 60 := by rw [movL_len]; exact hfi
  apply collapse
  case h =>
    intro rest
    go_region_law ((first
      | (refine step_appN (by rfl) (.tmp 19) (.tmp 23) (by rfl) B f (movL S.length p.first) _ _ (by rfl) (by rfl) M1.out.fir (Nums.of_row hO1.out) (fun hh => (hz1.out hh)) (by omega) M1.out.size ?_; intro av c w2 hO2 hg2 hat2; have M2 := hid (M1.out.addFirst hO2 hg2 hat2); obtain ⟨x0, x1, x2, x3, y0, y1, y2, y3⟩ := cells4p (grown_blk hg2 M1.out.blk (fun e0 => (M1.out.fF _ e0).2 rfl)); have hk2 := hid (kept_lowP hk1.out hg2 (fun k e0 => (M1.out.fF k e0).1) hF1.out); have hB2 := hid (bgrow hB1.out hg2 M1.out.size (fun k e0 => (M1.out.fir.lt k e0).1)); have hF2 : Hid (∀ k, (F k ∨ (Value.slice av (f.length + (movL S.length p.first).length) c).ownBlock = some k) → k < s ∨ W0.heap.size ≤ k) := hid (fun k hk => hk.elim (hF1.out k) (fun h1 => (hat2 k h1).elim (fun h2 => hF1.out k (M1.out.fF k h2).1) (fun h2 => Or.inr (Nat.le_trans hb1'.out.size h2)))))
      | (refine step_call (by rfl) 67 #[.slice rfa p.first.length rfc, .int .i64 (S.length : Int)] (by go_simp) GM1.out ?_; rintro z w1 ⟨v1, rfl, hO1, hb1, hz1⟩; refine ⟨_, rfl, ?_⟩; have hO1 := hid hO1; have hz1 := hid (fun (hh : movL S.length p.first = []) => (hz1 (by simpa [movL] using hh)).1); have hb1' := hid (bl_step hW0d.out hb1); have M1 := hid (h0.out.keep hb1'.out); have hk1 : Hid (Kept (fun k => k < s) W0 w1) := hid (Kept.of_below hb1'.out); have hF1 : Hid (∀ k, F k → k < s ∨ W0.heap.size ≤ k) := hid (fun k hk => Or.inl (hF0.out k hk)); have hB1 := hid ((hb0.out.mono hBw).trans (hb1'.out.mono (by have := hs0.out; omega))); obtain ⟨d0, d1, d2, d3, -⟩ := cells4p M1.out.blk; obtain ⟨q0, q1, q2, q3, q4, -⟩ := cells5s (hs_keep hq0.out hb1'.out))))
    all_goals
      have hk3 : Hid (Kept (fun k => k < s) W0 (w2.setCell ⟨pb, 3, none⟩ (.slice av (f.length + (movL S.length p.first).length) c))) := hid (hk2.out.setCell (fun _ => hF0.out _ h0.out.inF))
      have hB3 := hid (bl_set hB2.out pb 3 (.slice av (f.length + (movL S.length p.first).length) c) h0.out.base)
      have M3 := hid M2.out
      have hfl3 : (f ++ movL S.length p.first).length ≤ 4100 := by rw [List.length_append]; omega
      have hlen3 : Hid (f.length + (movL S.length p.first).length = (f ++ movL S.length p.first).length) := hid (by rw [List.length_append])
      obtain ⟨fv3, hfv3⟩ : ∃ v, v = Value.slice av (f.length + (movL S.length p.first).length) c := ⟨_, rfl⟩
      rw [← hfv3] at hk3 hB3 M3 hF2 ⊢
      clear hfv3 M2 hk2 hB2 hO2 hg2 hat2 hO1 hz1 hb1 M1 hk1 hF1 hB1 x0 x1 x2 x3 y0 y1 y2 y3 d0 d1 d2 d3 q0 q1 q2 q3 q4 hb1'
      generalize w2.setCell ⟨pb, 3, none⟩ fv3 = W3 at hk3 hB3 M3 ⊢
      obtain ⟨F3, hF3⟩ : ∃ F3, F3 = (fun k => F k ∨ fv3.ownBlock = some k) := ⟨_, rfl⟩
      rw [← hF3] at M3
      have hF4 : Hid (∀ k, F3 k → k < s ∨ W0.heap.size ≤ k) := hid (fun k hk => hF2.out k (by rw [hF3] at hk; exact hk))
      clear hF3 hF2
      generalize v1 = vv
      revert M3 hk3 hB3 hF4
      revert F3 W3 fv3 vv
      exact rest.out
  case pf =>
    intro fv3 W3 F3 v1 hk3 hB3 M3 hF2
    clear c0 c1 c2 c3 f0 f1 f2 f3 r0 r1 r2 r3 r4
    have hfl3 : (f ++ movL S.length p.first).length ≤ 4100 := by rw [List.length_append]; omega
    generalize hmlq : movL S.length p.first = ml at *
    clear hmlq
    obtain ⟨R0, R1, R2, R3, R4, -⟩ := cells5s (hrb.out W3 hk3.out)
    obtain ⟨iS, hiS, zS0, zS1, zS2⟩ := info_parts Tryz.infoS4
    obtain ⟨iN, hiN, zN0, zN1, zN2⟩ := info_parts Tryz.infoNs
    obtain ⟨i0, hi0, z00, z01, z02⟩ := info_parts Tryz.info3
    cases hnu : p.null with
    | false =>
      rw [hnu] at R1
      have hkX := hk3
      have hBX := hB3
      have hFX := hF2
      have MX : Hid (PlO B pb e _ W3 _ _ fv3 S gs G FF) := hid (by rw [hFF.out, hnu, if_neg Bool.false_ne_true, List.append_nil]; exact M3.out)
      clear R0 R2 R3 R4

      obtain ⟨R0, R1, R2, R3, R4, -⟩ := cells5s (hrb.out W3 hkX.out)
      have hglG := hid MX.out.nums.1
      go_wp2_with fail
      go_loopw [42] (fun i wr => ∃ (k : Nat) (F' : Nat → Prop) (sv' bv' : Value) (gs' : List Value), k ≤ p.sets.length ∧ i = .int .i64 k ∧ Hid (PlO B pb e F' wr sv' bv' fv3 (S ++ p.sets.take k) gs' (G ++ begB S.length en p k) FF) ∧ Hid (∀ k, F' k → k < s ∨ W0.heap.size ≤ k) ∧ Hid (Kept (fun k => k < s) W0 wr) ∧ Below B w wr) (fun i _ => p.sets.length - (intOf i).toNat)
      case atStart => exact ⟨0, _, _, _, _, Nat.zero_le _, rfl, hid (by rw [List.take_zero, List.append_nil, begB, List.append_nil]; exact MX.out), hFX, hkX, hBX.out⟩
      case round =>
        obtain ⟨k, F', sv', bv', gs', hk, rfl, hM, hFr, hkr, hbl⟩ := hrel
        by_cases hlt : k < p.sets.length
        · have hltz : (k : Int) < (p.sets.length : Int) := by omega
          have hsp := hr0.out.kept hkr.out
          have hbox := hid (hrb.out wr hkr.out)
          have hws : w.heap.size < wr.heap.size := by have := hs0.out; have := hkr.out.size; omega
          have hwn : w.heap.size ≠ wr.heap.size := by omega
          obtain ⟨Q0, Q1, Q2, Q3, Q4, -⟩ := cells5s hbox.out
          obtain ⟨sa1, sc1, es, hsat⟩ := sets_at hsp.sets
          injection es with es1 es2 es3
          obtain ⟨b1, o1, hsa1, hb1, hfit, h4⟩ := hsat k hlt
          rw [hsa1] at es1
          obtain ⟨ga1, gc1, eg, hgat⟩ := numss_at hsp.follow
          injection eg with eg1 eg2 eg3
          obtain ⟨b2, o2, x, hga1, hb2, hx, hNx⟩ := hgat k (by rw [hfol.out]; exact hlt)
          rw [hga1] at eg1
          have hNl := hsp.last
          have hfk := (hsm'.out).fol k
          have hll := hsm'.out.last
          have htk : Hid (p.sets.take (k + 1) = p.sets.take k ++ [p.sets.getD k noneB]) := hid (by rw [List.take_succ_eq_append_getElem hlt, List.getD_eq_getElem?_getD, List.getElem?_eq_getElem hlt]; rfl)
          have hbg : Hid (begB S.length en p (k + 1) = begB S.length en p k ++ [movL S.length (p.follow.getD k []) ++ (if p.last.contains (k : Int) then [(en : Int)] else [])]) := hid rfl
          generalize p.sets.getD k noneB = Z at h4 hfit htk
          obtain ⟨za, zb, zc, zd⟩ := Z
          obtain ⟨u0, u1, u2, u3⟩ := h4
          simp only at u0 u1 u2 u3
          have hal := hid (al' wr (.cells #[.int .u64 (za : Int), .int .u64 (zb : Int), .int .u64 (zc : Int), .int .u64 (zd : Int)] 97))
          have hzb := hid (heap_new wr (.cells #[.int .u64 (za : Int), .int .u64 (zb : Int), .int .u64 (zc : Int), .int .u64 (zd : Int)] 97))
          have GMk := hid (GM.out x _ (wr.alloc (.cells #[.int .u64 (za : Int), .int .u64 (zb : Int), .int .u64 (zc : Int), .int .u64 (zd : Int)] 97)) (by have := hfk.1; omega) (fun y hy => by have := hfk.2 y hy; omega) (hNx.keep hal.out))
          have GHk := hid (fun u (hu : Below wr.heap.size wr u) => setsHas _ p.last (k : Int) u (by omega) (hNl.keep hu))
          have hmk60 : (movL S.length (p.follow.getD k [])).length ≤ 60 := by rw [movL_len]; exact hfk.1
          generalize p.last.contains (k : Int) = lt at GHk hbg
          generalize movL S.length (p.follow.getD k []) = mk at GMk hbg hmk60
          have hgl2 : Hid (gs'.length = G.length + k) := hid (by rw [hM.out.nums.1, List.length_append, begB_is, List.length_map, List.length_range])
          have hGl : G.length ≤ 2000 := by have := hglG.out; omega
          have hFb : Hid (∀ k, F' k → k < (wr.alloc (.cells #[.int .u64 (za : Int), .int .u64 (zb : Int), .int .u64 (zc : Int), .int .u64 (zd : Int)] 97)).heap.size) := hid (fun k hk => by have := hM.out.lt k hk; simp; omega)
          obtain ⟨sa', sc', rfl⟩ := own_shape hM.out.sets
          obtain ⟨ba', bc', rfl⟩ := own_shape hM.out.beh
          subst es1 eg1
          clear hsat hgat hNx hNl hsp hfit hsa1 hga1 es2 es3 eg2 eg3 hfk
          cases lt with
          | false =>
            go_wp2_with (first
              | (go_at_call 67; refine GMk.out.mono ?_; rintro z w7 ⟨v7, rfl, hO2, hUz, -⟩; have hUb := hUz; obtain ⟨T0, T1, T2, T3, T4, -⟩ := cells5s (hs_keep hbox.out (bl_step hal.out hUz)))
              | (go_at_call 68; refine (GHk.out w7 (bl_step hal.out hUz)).mono ?_; rintro z u7 ⟨rfl, hu7⟩; subst u7))
            have hbg' : Hid (begB S.length en p (k + 1) = begB S.length en p k ++ [mk]) := hid (by rw [hbg.out, if_neg Bool.false_ne_true, List.append_nil])
            obtain ⟨va, vc, rfl⟩ := own_shape hO2
            -- one set more, one list more
            have hO2 := hid hO2
            have hUb := hid (bl_step hal.out hUz)
            have Mu := hid (hM.out.keep hUb.out)
            have hub : Hid (w7.heap[wr.heap.size]? = some (.cells #[.int .u64 (za : Int), .int .u64 (zb : Int), .int .u64 (zc : Int), .int .u64 (zd : Int)] 97)) := hid (hs_keep hzb.out hUz)
            have hUd : Hid (Below w7.heap.size w7 w7.drew) := hid (Below.refl _ _).drew
            have Md := hid (Mu.out.keep hUd.out)
            obtain ⟨c0, c1, c2, c3, f0, f1, f2, f3⟩ := cells4p Md.out.blk
            obtain ⟨z0, z1, z2, z3, -⟩ := cells4p (hs_keep hub.out hUd.out)
            have hUl : Hid (Below w7.heap.size w7 (w7.alloc (.cells #[.int .u64 (za : Int), .int .u64 (zb : Int), .int .u64 (zc : Int), .int .u64 (zd : Int)] 97)).drew) := hid (bl_step (al' w7 (.cells #[.int .u64 (za : Int), .int .u64 (zb : Int), .int .u64 (zc : Int), .int .u64 (zd : Int)] 97)) (Below.refl _ _).drew)
            have Ml := hid (Mu.out.keep hUl.out)
            obtain ⟨l0, l1, l2, l3, m0, m1, m2, m3⟩ := cells4p Ml.out.blk
            have hsl : (S ++ p.sets.take k).length ≤ 2100 := by rw [List.length_append, List.length_take]; omega
            have hgsl : gs'.length ≤ 2100 := by
              have := hgl2.out
              omega
            have hkU : Hid (Kept (fun k => k < s) W0 ((w7.alloc (.cells #[.int .u64 (za : Int), .int .u64 (zb : Int), .int .u64 (zc : Int), .int .u64 (zd : Int)] 97)).drew)) := hid (hkr.out.step (Kept.of_below (bl_step hUb.out hUl.out) (F := noBlk)) (fun _ _ h => h.elim))
            have hBU : Hid (Below B w ((w7.alloc (.cells #[.int .u64 (za : Int), .int .u64 (zb : Int), .int .u64 (zc : Int), .int .u64 (zd : Int)] 97)).drew)) := hid (bstep hbl (bl_step hUb.out hUl.out) hM.out.size)
            have hsizeU : ((w7.alloc (.cells #[.int .u64 (za : Int), .int .u64 (zb : Int), .int .u64 (zc : Int), .int .u64 (zd : Int)] 97)).drew).heap.size = w7.heap.size + 1 := by simp
            generalize hS1 : S ++ p.sets.take k = S1 at *
            go_wp2_with fail
            apply collapse
            case h =>
              intro rest
              go_region_law ((first
                | (refine step_append_lies _ (by rfl) (.tmp 66) (.tmp 68) 74 (by rfl) B 97 iS (.agg #[.int .u64 0, .int .u64 0, .int .u64 0, .int .u64 0]) 4 32 Tryz.underlying74 hiS zS0 zS1 zS2 rfl (by decide) (.slice sa' S1.length sc') S1.length (flatS S1) (by rfl) Ml.out.sets ⟨w7.heap.size, 0, none⟩ 1 1 [.int .u64 (za : Int), .int .u64 (zb : Int), .int .u64 (zc : Int), .int .u64 (zd : Int)] (by rfl) (by rfl) (World.news_of_block (w := (w7.alloc (.cells #[.int .u64 (za : Int), .int .u64 (zb : Int), .int .u64 (zc : Int), .int .u64 (zd : Int)] 97)).drew) (heap_new w7 (.cells #[.int .u64 (za : Int), .int .u64 (zb : Int), .int .u64 (zc : Int), .int .u64 (zd : Int)] 97))) (by simp [Value.oneCell']) (by omega) (by (unfold maxLen); omega) (by omega) Ml.out.size (w7.heap.size + 1) hsizeU ?_; intro g5 c5 w5 hown5 hgrow5 hat5 hlt5; have hat5' : ∀ k, (Value.slice (some ⟨g5, 0, none⟩) (S1.length + 1) c5).ownBlock = some k → (Value.slice sa' S1.length sc').ownBlock = some k ∨ ((w7.alloc (.cells #[.int .u64 (za : Int), .int .u64 (zb : Int), .int .u64 (zc : Int), .int .u64 (zd : Int)] 97)).drew).heap.size ≤ k := (fun k e0 => hat5.elim (fun e1 => Or.inl (e1.trans e0)) (fun e1 => Or.inr (by (have e2 : g5 = k := (by injection e0)); omega))); have M5 := hid (Ml.out.addSet (ownS_snoc hown5 rfl) hgrow5 hat5'); obtain ⟨x0, x1, x2, x3, y0, y1, y2, y3⟩ := cells4p (grown_blk hgrow5 Ml.out.blk (fun e0 => (Ml.out.sF _ e0).2.1 rfl)); have hk5 := hid (kept_lowP hkU.out hgrow5 (fun k e0 => (Ml.out.sF k e0).1) hFr.out); have hB5 := hid (bgrow hBU.out hgrow5 Ml.out.size (fun k e0 => (Ml.out.sets.lt k e0).1)); have hF5 : Hid (∀ k, (F' k ∨ (Value.slice (some ⟨g5, 0, none⟩) (S1.length + 1) c5).ownBlock = some k) → k < s ∨ W0.heap.size ≤ k) := hid (fun k hk => hk.elim (hFr.out k) (fun h1 => (hat5' k h1).elim (fun h2 => hFr.out k (Ml.out.sF k h2).1) (fun h2 => Or.inr (Nat.le_trans hkU.out.size h2)))); have hO5 := hid (own_set (pb := pb) (o := 1) (x := .slice (some ⟨g5, 0, none⟩) (S1.length + 1) c5) (own_kept (own_below hO2.out hUl.out) (Kept.of_grown hgrow5) (fun j e0 e1 => Nat.lt_irrefl _ (Nat.lt_of_lt_of_le (hFb.out j (Ml.out.sF j e1).1) (hO2.out.lt j e0).1))) (fun e0 => Nat.lt_irrefl _ (Nat.lt_of_lt_of_le (hFb.out pb Ml.out.inF) (hO2.out.lt pb e0).1))); have hof5 := hid (off_more (v5 := .slice (some ⟨g5, 0, none⟩) (S1.length + 1) c5) hO2.out hFb.out (fun k h1 => (hat5' k h1).elim (fun h2 => Or.inl (Ml.out.sF k h2).1) (fun h2 => Or.inr (by omega)))))
                | fail))
              all_goals
                have hk5' := hid (hk5.out.setCell (a := ⟨pb, 1, none⟩) (v := .slice (some ⟨g5, 0, none⟩) (S1.length + 1) c5) (fun _ => hF0.out _ h0.out.inF))
                have hB5' := hid (bl_set hB5.out pb 1 (.slice (some ⟨g5, 0, none⟩) (S1.length + 1) c5) Ml.out.base)
                have M5' := hid M5.out
                generalize w5.setCell ⟨pb, 1, none⟩ (.slice (some ⟨g5, 0, none⟩) (S1.length + 1) c5) = W5 at M5' hk5' hB5' hO5 ⊢
                obtain ⟨sv5, hsv5⟩ : ∃ v, v = Value.slice (some ⟨g5, 0, none⟩) (S1.length + 1) c5 := ⟨_, rfl⟩
                rw [← hsv5] at M5' hF5 hof5 ⊢
                clear hsv5
                obtain ⟨F5, hF5e⟩ : ∃ F5, F5 = (fun k => F' k ∨ sv5.ownBlock = some k) := ⟨_, rfl⟩
                rw [← hF5e] at M5' hof5
                have hF6 : Hid (∀ k, F5 k → k < s ∨ W0.heap.size ≤ k) := hid (fun k hk => hF5.out k (by rw [hF5e] at hk; exact hk))
                clear hF5e hF5
                have hall := hid (And.intro hO5.out (And.intro hof5.out (And.intro hk5'.out (And.intro hB5'.out (And.intro M5'.out hF6.out)))))
                clear hO5 hof5 hk5' hB5' M5' hF6
                revert hall
                revert W5 sv5 F5
                exact rest.out
            case pf =>
              intro W5 sv5 F5 hall
              obtain ⟨hO5, hof5, hk5', hB5', M5', hF5⟩ := hall.out
              have hO5 := hid hO5
              have hof5 := hid hof5
              have hk5' := hid hk5'
              have hB5' := hid hB5'
              have M5' := hid M5'
              have hF5 := hid hF5
              clear hall
              clear c0 c1 c2 c3 f0 f1 f2 f3 z0 z1 z2 z3 l0 l1 l2 l3 m0 m1 m2 m3 Ml
              obtain ⟨c0, c1, c2, c3, f0, f1, f2, f3⟩ := cells4p M5'.out.blk
              have hal6 := hid (al' W5 (.cells #[(.slice va mk.length vc)] 23))
              have M6 := hid (M5'.out.keep hal6.out)
              have hN6 := hid ((Nums.of_row hO5.out).keep hal6.out)
              have hk6 : Hid (Kept (fun k => k < s) W0 (W5.alloc (.cells #[(.slice va mk.length vc)] 23))) := hid (hk5'.out.step (Kept.of_below hal6.out (F := noBlk)) (fun _ _ h => h.elim))
              have hB6 := hid (bstep hB5'.out hal6.out M5'.out.size)
              have hpW5 := blk_lt M5'.out.blk
              have hpn5 : pb ≠ W5.heap.size := by omega
              go_wp2_with (at_builtin; refine wpList_append_lies _ (by rfl) _ _ _ (by rfl) B 23 iN (.slice none 0 0) 1 24 Tryz.underlying22 hiN zN0 zN1 zN2 rfl (by decide) (.slice ba' gs'.length bc') gs'.length gs' (by rfl) M6.out.beh ⟨W5.heap.size, 0, none⟩ 1 1 [(.slice va mk.length vc)] (by rfl) (by rfl) (World.news_of_block (heap_new W5 (.cells #[(.slice va mk.length vc)] 23))) (by simp [Value.oneCell']) (by omega) (by (unfold maxLen); omega) (by omega) M6.out.size (World.heap (W5.alloc (.cells #[(.slice va mk.length vc)] 23))).size rfl ?_; intro g6 c6 w6 hown6 hgrow6 hat6 hlt6; have hat6' : ∀ k, (Value.slice (some ⟨g6, 0, none⟩) (gs'.length + 1) c6).ownBlock = some k → (Value.slice ba' gs'.length bc').ownBlock = some k ∨ (W5.alloc (.cells #[(.slice va mk.length vc)] 23)).heap.size ≤ k := (fun k e0 => hat6.elim (fun e1 => Or.inl (e1.trans e0)) (fun e1 => Or.inr (by (have e2 : g6 = k := (by injection e0)); omega))); have M7 := hid (M6.out.addBeh hN6.out hof5.out hown6 hgrow6 hat6'); obtain ⟨x0, x1, x2, x3, y0, y1, y2, y3⟩ := cells4p (grown_blk hgrow6 M6.out.blk (fun e0 => (M6.out.bF _ e0).2.1 rfl)); have hk7 := hid ((kept_lowP hk6.out hgrow6 (fun k e0 => (M6.out.bF k e0).1) hF5.out).setCell (a := ⟨pb, 2, none⟩) (v := .slice (some ⟨g6, 0, none⟩) (gs'.length + 1) c6) (fun _ => hF0.out _ h0.out.inF)); have hB7 := hid (bl_set (bgrow hB6.out hgrow6 M6.out.size (fun k e0 => (M6.out.beh.lt k e0).1)) pb 2 (.slice (some ⟨g6, 0, none⟩) (gs'.length + 1) c6) M6.out.base); have hF7 : Hid (∀ k, (_ ∨ (Value.slice (some ⟨g6, 0, none⟩) (gs'.length + 1) c6).ownBlock = some k) → k < s ∨ W0.heap.size ≤ k) := hid (fun k hk => hk.elim (hF5.out k) (fun h1 => (hat6' k h1).elim (fun h2 => hF5.out k (M6.out.bF k h2).1) (fun h2 => Or.inr (Nat.le_trans hk6.out.size h2)))))
              go_roundw
              case rel => exact ⟨k + 1, _, _, _, _, by omega, by go_num, hid (by rw [htk.out, hbg'.out, ← List.append_assoc, ← List.append_assoc, hS1]; exact M7.out), hF7, hk7, hB7.out⟩
              case measure => simp [intOf]; omega
          | true =>
            go_wp2_with (first
              | (go_at_call 67; refine GMk.out.mono ?_; rintro z w7 ⟨v7, rfl, hO7, hUz7, -⟩; have hO7 := hid hO7; obtain ⟨T0, T1, T2, T3, T4, -⟩ := cells5s (hs_keep hbox.out (bl_step hal.out hUz7)); have hO7a := hid (World.ownsRow.alloc hO7.out (.cells #[.int .i64 (en : Int)] 3)))
              | (go_at_call 68; refine (GHk.out w7 (bl_step hal.out hUz7)).mono ?_; rintro z u7 ⟨rfl, hu7⟩; subst u7)
              | (at_builtin; refine wp_app _ rfl _ _ rfl (wr.alloc (.cells #[.int .u64 (za : Int), .int .u64 (zb : Int), .int .u64 (zc : Int), .int .u64 (zd : Int)] 97)).heap.size _ [(en : Int)] _ _ rfl rfl hO7a.out (Nums.lit1 w7 _) (by simp only [List.length_singleton]; omega) (Nat.le_trans hUz7.size (by simp)) ?_; intro v8 w8 hO2 hb8; have hUz := (hUz7.trans ((al' w7 (.cells #[.int .i64 (en : Int)] 3)).mono hUz7.size)).trans hb8))
            have hbg' : Hid (begB S.length en p (k + 1) = begB S.length en p k ++ [mk ++ [(en : Int)]]) := hid (by rw [hbg.out]; simp)
            generalize mk ++ [(en : Int)] = bl at hO2 hbg'
            obtain ⟨va, vc, rfl⟩ := own_shape hO2
            -- one set more, one list more
            have hO2 := hid hO2
            have hUb := hid (bl_step hal.out hUz)
            have Mu := hid (hM.out.keep hUb.out)
            have hub : Hid (w8.heap[wr.heap.size]? = some (.cells #[.int .u64 (za : Int), .int .u64 (zb : Int), .int .u64 (zc : Int), .int .u64 (zd : Int)] 97)) := hid (hs_keep hzb.out hUz)
            have hUd : Hid (Below w8.heap.size w8 w8.drew) := hid (Below.refl _ _).drew
            have Md := hid (Mu.out.keep hUd.out)
            obtain ⟨c0, c1, c2, c3, f0, f1, f2, f3⟩ := cells4p Md.out.blk
            obtain ⟨z0, z1, z2, z3, -⟩ := cells4p (hs_keep hub.out hUd.out)
            have hUl : Hid (Below w8.heap.size w8 (w8.alloc (.cells #[.int .u64 (za : Int), .int .u64 (zb : Int), .int .u64 (zc : Int), .int .u64 (zd : Int)] 97)).drew) := hid (bl_step (al' w8 (.cells #[.int .u64 (za : Int), .int .u64 (zb : Int), .int .u64 (zc : Int), .int .u64 (zd : Int)] 97)) (Below.refl _ _).drew)
            have Ml := hid (Mu.out.keep hUl.out)
            obtain ⟨l0, l1, l2, l3, m0, m1, m2, m3⟩ := cells4p Ml.out.blk
            have hsl : (S ++ p.sets.take k).length ≤ 2100 := by rw [List.length_append, List.length_take]; omega
            have hgsl : gs'.length ≤ 2100 := by
              have := hgl2.out
              omega
            have hkU : Hid (Kept (fun k => k < s) W0 ((w8.alloc (.cells #[.int .u64 (za : Int), .int .u64 (zb : Int), .int .u64 (zc : Int), .int .u64 (zd : Int)] 97)).drew)) := hid (hkr.out.step (Kept.of_below (bl_step hUb.out hUl.out) (F := noBlk)) (fun _ _ h => h.elim))
            have hBU : Hid (Below B w ((w8.alloc (.cells #[.int .u64 (za : Int), .int .u64 (zb : Int), .int .u64 (zc : Int), .int .u64 (zd : Int)] 97)).drew)) := hid (bstep hbl (bl_step hUb.out hUl.out) hM.out.size)
            have hsizeU : ((w8.alloc (.cells #[.int .u64 (za : Int), .int .u64 (zb : Int), .int .u64 (zc : Int), .int .u64 (zd : Int)] 97)).drew).heap.size = w8.heap.size + 1 := by simp
            generalize hS1 : S ++ p.sets.take k = S1 at *
            go_wp2_with fail
            apply collapse
            case h =>
              intro rest
              go_region_law ((first
                | (refine step_append_lies _ (by rfl) (.tmp 66) (.tmp 68) 74 (by rfl) B 97 iS (.agg #[.int .u64 0, .int .u64 0, .int .u64 0, .int .u64 0]) 4 32 Tryz.underlying74 hiS zS0 zS1 zS2 rfl (by decide) (.slice sa' S1.length sc') S1.length (flatS S1) (by rfl) Ml.out.sets ⟨w8.heap.size, 0, none⟩ 1 1 [.int .u64 (za : Int), .int .u64 (zb : Int), .int .u64 (zc : Int), .int .u64 (zd : Int)] (by rfl) (by rfl) (World.news_of_block (w := (w8.alloc (.cells #[.int .u64 (za : Int), .int .u64 (zb : Int), .int .u64 (zc : Int), .int .u64 (zd : Int)] 97)).drew) (heap_new w8 (.cells #[.int .u64 (za : Int), .int .u64 (zb : Int), .int .u64 (zc : Int), .int .u64 (zd : Int)] 97))) (by simp [Value.oneCell']) (by omega) (by (unfold maxLen); omega) (by omega) Ml.out.size (w8.heap.size + 1) hsizeU ?_; intro g5 c5 w5 hown5 hgrow5 hat5 hlt5; have hat5' : ∀ k, (Value.slice (some ⟨g5, 0, none⟩) (S1.length + 1) c5).ownBlock = some k → (Value.slice sa' S1.length sc').ownBlock = some k ∨ ((w8.alloc (.cells #[.int .u64 (za : Int), .int .u64 (zb : Int), .int .u64 (zc : Int), .int .u64 (zd : Int)] 97)).drew).heap.size ≤ k := (fun k e0 => hat5.elim (fun e1 => Or.inl (e1.trans e0)) (fun e1 => Or.inr (by (have e2 : g5 = k := (by injection e0)); omega))); have M5 := hid (Ml.out.addSet (ownS_snoc hown5 rfl) hgrow5 hat5'); obtain ⟨x0, x1, x2, x3, y0, y1, y2, y3⟩ := cells4p (grown_blk hgrow5 Ml.out.blk (fun e0 => (Ml.out.sF _ e0).2.1 rfl)); have hk5 := hid (kept_lowP hkU.out hgrow5 (fun k e0 => (Ml.out.sF k e0).1) hFr.out); have hB5 := hid (bgrow hBU.out hgrow5 Ml.out.size (fun k e0 => (Ml.out.sets.lt k e0).1)); have hF5 : Hid (∀ k, (F' k ∨ (Value.slice (some ⟨g5, 0, none⟩) (S1.length + 1) c5).ownBlock = some k) → k < s ∨ W0.heap.size ≤ k) := hid (fun k hk => hk.elim (hFr.out k) (fun h1 => (hat5' k h1).elim (fun h2 => hFr.out k (Ml.out.sF k h2).1) (fun h2 => Or.inr (Nat.le_trans hkU.out.size h2)))); have hO5 := hid (own_set (pb := pb) (o := 1) (x := .slice (some ⟨g5, 0, none⟩) (S1.length + 1) c5) (own_kept (own_below hO2.out hUl.out) (Kept.of_grown hgrow5) (fun j e0 e1 => Nat.lt_irrefl _ (Nat.lt_of_lt_of_le (hFb.out j (Ml.out.sF j e1).1) (hO2.out.lt j e0).1))) (fun e0 => Nat.lt_irrefl _ (Nat.lt_of_lt_of_le (hFb.out pb Ml.out.inF) (hO2.out.lt pb e0).1))); have hof5 := hid (off_more (v5 := .slice (some ⟨g5, 0, none⟩) (S1.length + 1) c5) hO2.out hFb.out (fun k h1 => (hat5' k h1).elim (fun h2 => Or.inl (Ml.out.sF k h2).1) (fun h2 => Or.inr (by omega)))))
                | fail))
              all_goals
                have hk5' := hid (hk5.out.setCell (a := ⟨pb, 1, none⟩) (v := .slice (some ⟨g5, 0, none⟩) (S1.length + 1) c5) (fun _ => hF0.out _ h0.out.inF))
                have hB5' := hid (bl_set hB5.out pb 1 (.slice (some ⟨g5, 0, none⟩) (S1.length + 1) c5) Ml.out.base)
                have M5' := hid M5.out
                generalize w5.setCell ⟨pb, 1, none⟩ (.slice (some ⟨g5, 0, none⟩) (S1.length + 1) c5) = W5 at M5' hk5' hB5' hO5 ⊢
                obtain ⟨sv5, hsv5⟩ : ∃ v, v = Value.slice (some ⟨g5, 0, none⟩) (S1.length + 1) c5 := ⟨_, rfl⟩
                rw [← hsv5] at M5' hF5 hof5 ⊢
                clear hsv5
                obtain ⟨F5, hF5e⟩ : ∃ F5, F5 = (fun k => F' k ∨ sv5.ownBlock = some k) := ⟨_, rfl⟩
                rw [← hF5e] at M5' hof5
                have hF6 : Hid (∀ k, F5 k → k < s ∨ W0.heap.size ≤ k) := hid (fun k hk => hF5.out k (by rw [hF5e] at hk; exact hk))
                clear hF5e hF5
                have hall := hid (And.intro hO5.out (And.intro hof5.out (And.intro hk5'.out (And.intro hB5'.out (And.intro M5'.out hF6.out)))))
                clear hO5 hof5 hk5' hB5' M5' hF6
                revert hall
                revert W5 sv5 F5
                exact rest.out
            case pf =>
              intro W5 sv5 F5 hall
              obtain ⟨hO5, hof5, hk5', hB5', M5', hF5⟩ := hall.out
              have hO5 := hid hO5
              have hof5 := hid hof5
              have hk5' := hid hk5'
              have hB5' := hid hB5'
              have M5' := hid M5'
              have hF5 := hid hF5
              clear hall
              clear c0 c1 c2 c3 f0 f1 f2 f3 z0 z1 z2 z3 l0 l1 l2 l3 m0 m1 m2 m3 Ml
              obtain ⟨c0, c1, c2, c3, f0, f1, f2, f3⟩ := cells4p M5'.out.blk
              have hal6 := hid (al' W5 (.cells #[(.slice va bl.length vc)] 23))
              have M6 := hid (M5'.out.keep hal6.out)
              have hN6 := hid ((Nums.of_row hO5.out).keep hal6.out)
              have hk6 : Hid (Kept (fun k => k < s) W0 (W5.alloc (.cells #[(.slice va bl.length vc)] 23))) := hid (hk5'.out.step (Kept.of_below hal6.out (F := noBlk)) (fun _ _ h => h.elim))
              have hB6 := hid (bstep hB5'.out hal6.out M5'.out.size)
              have hpW5 := blk_lt M5'.out.blk
              have hpn5 : pb ≠ W5.heap.size := by omega
              go_wp2_with (at_builtin; refine wpList_append_lies _ (by rfl) _ _ _ (by rfl) B 23 iN (.slice none 0 0) 1 24 Tryz.underlying22 hiN zN0 zN1 zN2 rfl (by decide) (.slice ba' gs'.length bc') gs'.length gs' (by rfl) M6.out.beh ⟨W5.heap.size, 0, none⟩ 1 1 [(.slice va bl.length vc)] (by rfl) (by rfl) (World.news_of_block (heap_new W5 (.cells #[(.slice va bl.length vc)] 23))) (by simp [Value.oneCell']) (by omega) (by (unfold maxLen); omega) (by omega) M6.out.size (World.heap (W5.alloc (.cells #[(.slice va bl.length vc)] 23))).size rfl ?_; intro g6 c6 w6 hown6 hgrow6 hat6 hlt6; have hat6' : ∀ k, (Value.slice (some ⟨g6, 0, none⟩) (gs'.length + 1) c6).ownBlock = some k → (Value.slice ba' gs'.length bc').ownBlock = some k ∨ (W5.alloc (.cells #[(.slice va bl.length vc)] 23)).heap.size ≤ k := (fun k e0 => hat6.elim (fun e1 => Or.inl (e1.trans e0)) (fun e1 => Or.inr (by (have e2 : g6 = k := (by injection e0)); omega))); have M7 := hid (M6.out.addBeh hN6.out hof5.out hown6 hgrow6 hat6'); obtain ⟨x0, x1, x2, x3, y0, y1, y2, y3⟩ := cells4p (grown_blk hgrow6 M6.out.blk (fun e0 => (M6.out.bF _ e0).2.1 rfl)); have hk7 := hid ((kept_lowP hk6.out hgrow6 (fun k e0 => (M6.out.bF k e0).1) hF5.out).setCell (a := ⟨pb, 2, none⟩) (v := .slice (some ⟨g6, 0, none⟩) (gs'.length + 1) c6) (fun _ => hF0.out _ h0.out.inF)); have hB7 := hid (bl_set (bgrow hB6.out hgrow6 M6.out.size (fun k e0 => (M6.out.beh.lt k e0).1)) pb 2 (.slice (some ⟨g6, 0, none⟩) (gs'.length + 1) c6) M6.out.base); have hF7 : Hid (∀ k, (_ ∨ (Value.slice (some ⟨g6, 0, none⟩) (gs'.length + 1) c6).ownBlock = some k) → k < s ∨ W0.heap.size ≤ k) := hid (fun k hk => hk.elim (hF5.out k) (fun h1 => (hat6' k h1).elim (fun h2 => hF5.out k (M6.out.bF k h2).1) (fun h2 => Or.inr (Nat.le_trans hk6.out.size h2)))))
              go_roundw
              case rel => exact ⟨k + 1, _, _, _, _, by omega, by go_num, hid (by rw [htk.out, hbg'.out, ← List.append_assoc, ← List.append_assoc, hS1]; exact M7.out), hF7, hk7, hB7.out⟩
              case measure => simp [intOf]; omega
        · have hltz : ¬ (k : Int) < (p.sets.length : Int) := by omega
          obtain rfl : k = p.sets.length := by omega
          have hfinal : Hid (PlX B pb e wr (S ++ p.sets) (G ++ begB S.length en p p.sets.length) FF) := hid ⟨_, _, _, _, _, by have := hM.out; rw [List.take_length] at this; exact this⟩
          go_wp2
          first | go_end0 | skip
          exact ⟨rfl, hfinal.out, hbl⟩
    | true =>
      rw [hnu] at R1
      obtain ⟨c0, c1, c2, c3, f0, f1, f2, f3⟩ := cells4p M3.out.blk
      have hal3 := hid (al' W3 (.cells #[.int .i64 (en : Int)] 3))
      have M4 := hid (M3.out.keep hal3.out)
      have hpW3 := blk_lt M3.out.blk
      have hpn3 : pb ≠ W3.heap.size := by omega
      have hk4 : Hid (Kept (fun k => k < s) W0 (W3.alloc (.cells #[.int .i64 (en : Int)] 3))) := hid (hk3.out.step (Kept.of_below hal3.out (F := noBlk)) (fun _ _ h => h.elim))
      have hB4 := hid (bstep hB3.out hal3.out M3.out.size)
      obtain ⟨fa3, fc3, rfl⟩ := own_shape M3.out.fir
      have hfir4 : Hid (World.ownsRow (W3.alloc (.cells #[.int .i64 (en : Int)] 3)) B 3 1 (.slice fa3 (f ++ ml).length fc3) (f ++ ml).length (numCells (f ++ ml))) := hid M4.out.fir
      have hsn : Hid (∀ (w4 : World) (g4 c4 : Nat), w4.ownsRow B 3 1 (.slice (some ⟨g4, 0, none⟩) ((f ++ ml).length + 1) c4) ((f ++ ml).length + 1) (numCells (f ++ ml) ++ [.int .i64 (en : Int)]) → Own w4 B (.slice (some ⟨g4, 0, none⟩) ((f ++ ml).length + 1) c4) (f ++ ml ++ [(en : Int)])) := hid (fun w4 g4 c4 h => by have e1 : (f ++ ml ++ [(en : Int)]).length = (f ++ ml).length + 1 := List.length_append; unfold Own; rw [e1, numCells_snoc]; exact h)
      generalize hnf3 : (f ++ ml).length = nf3 at *
      go_wp2_with (at_builtin; refine wpList_append_lies _ (by rfl) _ _ _ (by rfl) B 3 i0 (.int .i64 0) 1 8 Tryz.underlying23 hi0 z00 z01 z02 rfl (by decide) (.slice fa3 nf3 fc3) nf3 (numCells (f ++ ml)) (by rfl) hfir4.out ⟨W3.heap.size, 0, none⟩ 1 1 [.int .i64 (en : Int)] (by rfl) (by rfl) (World.news_of_block (heap_new W3 (.cells #[.int .i64 (en : Int)] 3))) (by simp [Value.oneCell']) (by omega) (by (unfold maxLen); omega) (by omega) M4.out.size (World.heap (W3.alloc (.cells #[.int .i64 (en : Int)] 3))).size rfl ?_; intro g4 c4 w4 hown4 hgrow4 hat4 hlt4; have hat4' : ∀ k, (Value.slice (some ⟨g4, 0, none⟩) (nf3 + 1) c4).ownBlock = some k → (Value.slice fa3 nf3 fc3).ownBlock = some k ∨ (W3.alloc (.cells #[.int .i64 (en : Int)] 3)).heap.size ≤ k := (fun k e0 => hat4.elim (fun e1 => Or.inl (e1.trans e0)) (fun e1 => Or.inr (by (have e2 : g4 = k := (by injection e0)); omega))); have hown4' : Own w4 B (.slice (some ⟨g4, 0, none⟩) (nf3 + 1) c4) (f ++ ml ++ [(en : Int)]) := hsn.out _ _ _ hown4; have M5 := hid (M4.out.addFirst hown4' hgrow4 hat4'); obtain ⟨x0, x1, x2, x3, y0, y1, y2, y3⟩ := cells4p (grown_blk hgrow4 M4.out.blk (fun e0 => (M4.out.fF _ e0).2 rfl)); have hk5 := hid ((kept_lowP hk4.out hgrow4 (fun k e0 => (M4.out.fF k e0).1) hF2.out).setCell (a := ⟨pb, 3, none⟩) (v := .slice (some ⟨g4, 0, none⟩) (nf3 + 1) c4) (fun _ => hF0.out _ h0.out.inF)); have hB5 := hid (bl_set (bgrow hB4.out hgrow4 M4.out.size (fun k e0 => (M4.out.fir.lt k e0).1)) pb 3 (.slice (some ⟨g4, 0, none⟩) (nf3 + 1) c4) M4.out.base); have hF5 : Hid (∀ k, (F3 k ∨ (Value.slice (some ⟨g4, 0, none⟩) (nf3 + 1) c4).ownBlock = some k) → k < s ∨ W0.heap.size ≤ k) := hid (fun k hk => hk.elim (hF2.out k) (fun h1 => (hat4' k h1).elim (fun h2 => hF2.out k (M4.out.fF k h2).1) (fun h2 => Or.inr (Nat.le_trans hk4.out.size h2)))); obtain ⟨V0, V1, V2, V3, -⟩ := cells4p M5.out.blk; obtain ⟨U0, U1, U2, U3, U4, -⟩ := cells5s (hrb.out _ hk5.out))
      clear x0 x1 x2 x3 y0 y1 y2 y3 c0 c1 c2 c3 f0 f1 f2 f3 R0 R1 R2 R3 R4 V0 V1 V2 V3 U0 U1 U2 U3 U4
      obtain ⟨fv4, hfv4⟩ : ∃ v, v = Value.slice (some ⟨g4, 0, none⟩) (nf3 + 1) c4 := ⟨_, rfl⟩
      rw [← hfv4] at hk5 hB5 M5 hF5 ⊢
      clear hfv4
      generalize w4.setCell ⟨pb, 3, none⟩ fv4 = W6 at hk5 hB5 M5 ⊢
      have hkX := hk5
      have hBX := hB5
      have hFX := hF5
      have MX : Hid (PlO B pb e _ W6 _ _ fv4 S gs G FF) := hid (by rw [hFF.out, hnu, if_pos rfl, ← List.append_assoc]; exact M5.out)

      obtain ⟨R0, R1, R2, R3, R4, -⟩ := cells5s (hrb.out W6 hkX.out)
      have hglG := hid MX.out.nums.1
      go_wp2_with fail
      go_loopw [42] (fun i wr => ∃ (k : Nat) (F' : Nat → Prop) (sv' bv' : Value) (gs' : List Value), k ≤ p.sets.length ∧ i = .int .i64 k ∧ Hid (PlO B pb e F' wr sv' bv' fv4 (S ++ p.sets.take k) gs' (G ++ begB S.length en p k) FF) ∧ Hid (∀ k, F' k → k < s ∨ W0.heap.size ≤ k) ∧ Hid (Kept (fun k => k < s) W0 wr) ∧ Below B w wr) (fun i _ => p.sets.length - (intOf i).toNat)
      case atStart => exact ⟨0, _, _, _, _, Nat.zero_le _, rfl, hid (by rw [List.take_zero, List.append_nil, begB, List.append_nil]; exact MX.out), hFX, hkX, hBX.out⟩
      case round =>
        obtain ⟨k, F', sv', bv', gs', hk, rfl, hM, hFr, hkr, hbl⟩ := hrel
        by_cases hlt : k < p.sets.length
        · have hltz : (k : Int) < (p.sets.length : Int) := by omega
          have hsp := hr0.out.kept hkr.out
          have hbox := hid (hrb.out wr hkr.out)
          have hws : w.heap.size < wr.heap.size := by have := hs0.out; have := hkr.out.size; omega
          have hwn : w.heap.size ≠ wr.heap.size := by omega
          obtain ⟨Q0, Q1, Q2, Q3, Q4, -⟩ := cells5s hbox.out
          obtain ⟨sa1, sc1, es, hsat⟩ := sets_at hsp.sets
          injection es with es1 es2 es3
          obtain ⟨b1, o1, hsa1, hb1, hfit, h4⟩ := hsat k hlt
          rw [hsa1] at es1
          obtain ⟨ga1, gc1, eg, hgat⟩ := numss_at hsp.follow
          injection eg with eg1 eg2 eg3
          obtain ⟨b2, o2, x, hga1, hb2, hx, hNx⟩ := hgat k (by rw [hfol.out]; exact hlt)
          rw [hga1] at eg1
          have hNl := hsp.last
          have hfk := (hsm'.out).fol k
          have hll := hsm'.out.last
          have htk : Hid (p.sets.take (k + 1) = p.sets.take k ++ [p.sets.getD k noneB]) := hid (by rw [List.take_succ_eq_append_getElem hlt, List.getD_eq_getElem?_getD, List.getElem?_eq_getElem hlt]; rfl)
          have hbg : Hid (begB S.length en p (k + 1) = begB S.length en p k ++ [movL S.length (p.follow.getD k []) ++ (if p.last.contains (k : Int) then [(en : Int)] else [])]) := hid rfl
          generalize p.sets.getD k noneB = Z at h4 hfit htk
          obtain ⟨za, zb, zc, zd⟩ := Z
          obtain ⟨u0, u1, u2, u3⟩ := h4
          simp only at u0 u1 u2 u3
          have hal := hid (al' wr (.cells #[.int .u64 (za : Int), .int .u64 (zb : Int), .int .u64 (zc : Int), .int .u64 (zd : Int)] 97))
          have hzb := hid (heap_new wr (.cells #[.int .u64 (za : Int), .int .u64 (zb : Int), .int .u64 (zc : Int), .int .u64 (zd : Int)] 97))
          have GMk := hid (GM.out x _ (wr.alloc (.cells #[.int .u64 (za : Int), .int .u64 (zb : Int), .int .u64 (zc : Int), .int .u64 (zd : Int)] 97)) (by have := hfk.1; omega) (fun y hy => by have := hfk.2 y hy; omega) (hNx.keep hal.out))
          have GHk := hid (fun u (hu : Below wr.heap.size wr u) => setsHas _ p.last (k : Int) u (by omega) (hNl.keep hu))
          have hmk60 : (movL S.length (p.follow.getD k [])).length ≤ 60 := by rw [movL_len]; exact hfk.1
          generalize p.last.contains (k : Int) = lt at GHk hbg
          generalize movL S.length (p.follow.getD k []) = mk at GMk hbg hmk60
          have hgl2 : Hid (gs'.length = G.length + k) := hid (by rw [hM.out.nums.1, List.length_append, begB_is, List.length_map, List.length_range])
          have hGl : G.length ≤ 2000 := by have := hglG.out; omega
          have hFb : Hid (∀ k, F' k → k < (wr.alloc (.cells #[.int .u64 (za : Int), .int .u64 (zb : Int), .int .u64 (zc : Int), .int .u64 (zd : Int)] 97)).heap.size) := hid (fun k hk => by have := hM.out.lt k hk; simp; omega)
          obtain ⟨sa', sc', rfl⟩ := own_shape hM.out.sets
          obtain ⟨ba', bc', rfl⟩ := own_shape hM.out.beh
          subst es1 eg1
          clear hsat hgat hNx hNl hsp hfit hsa1 hga1 es2 es3 eg2 eg3 hfk
          cases lt with
          | false =>
            go_wp2_with (first
              | (go_at_call 67; refine GMk.out.mono ?_; rintro z w7 ⟨v7, rfl, hO2, hUz, -⟩; have hUb := hUz; obtain ⟨T0, T1, T2, T3, T4, -⟩ := cells5s (hs_keep hbox.out (bl_step hal.out hUz)))
              | (go_at_call 68; refine (GHk.out w7 (bl_step hal.out hUz)).mono ?_; rintro z u7 ⟨rfl, hu7⟩; subst u7))
            have hbg' : Hid (begB S.length en p (k + 1) = begB S.length en p k ++ [mk]) := hid (by rw [hbg.out, if_neg Bool.false_ne_true, List.append_nil])
            obtain ⟨va, vc, rfl⟩ := own_shape hO2
            -- one set more, one list more
            have hO2 := hid hO2
            have hUb := hid (bl_step hal.out hUz)
            have Mu := hid (hM.out.keep hUb.out)
            have hub : Hid (w7.heap[wr.heap.size]? = some (.cells #[.int .u64 (za : Int), .int .u64 (zb : Int), .int .u64 (zc : Int), .int .u64 (zd : Int)] 97)) := hid (hs_keep hzb.out hUz)
            have hUd : Hid (Below w7.heap.size w7 w7.drew) := hid (Below.refl _ _).drew
            have Md := hid (Mu.out.keep hUd.out)
            obtain ⟨c0, c1, c2, c3, f0, f1, f2, f3⟩ := cells4p Md.out.blk
            obtain ⟨z0, z1, z2, z3, -⟩ := cells4p (hs_keep hub.out hUd.out)
            have hUl : Hid (Below w7.heap.size w7 (w7.alloc (.cells #[.int .u64 (za : Int), .int .u64 (zb : Int), .int .u64 (zc : Int), .int .u64 (zd : Int)] 97)).drew) := hid (bl_step (al' w7 (.cells #[.int .u64 (za : Int), .int .u64 (zb : Int), .int .u64 (zc : Int), .int .u64 (zd : Int)] 97)) (Below.refl _ _).drew)
            have Ml := hid (Mu.out.keep hUl.out)
            obtain ⟨l0, l1, l2, l3, m0, m1, m2, m3⟩ := cells4p Ml.out.blk
            have hsl : (S ++ p.sets.take k).length ≤ 2100 := by rw [List.length_append, List.length_take]; omega
            have hgsl : gs'.length ≤ 2100 := by
              have := hgl2.out
              omega
            have hkU : Hid (Kept (fun k => k < s) W0 ((w7.alloc (.cells #[.int .u64 (za : Int), .int .u64 (zb : Int), .int .u64 (zc : Int), .int .u64 (zd : Int)] 97)).drew)) := hid (hkr.out.step (Kept.of_below (bl_step hUb.out hUl.out) (F := noBlk)) (fun _ _ h => h.elim))
            have hBU : Hid (Below B w ((w7.alloc (.cells #[.int .u64 (za : Int), .int .u64 (zb : Int), .int .u64 (zc : Int), .int .u64 (zd : Int)] 97)).drew)) := hid (bstep hbl (bl_step hUb.out hUl.out) hM.out.size)
            have hsizeU : ((w7.alloc (.cells #[.int .u64 (za : Int), .int .u64 (zb : Int), .int .u64 (zc : Int), .int .u64 (zd : Int)] 97)).drew).heap.size = w7.heap.size + 1 := by simp
            generalize hS1 : S ++ p.sets.take k = S1 at *
            go_wp2_with fail
            apply collapse
            case h =>
              intro rest
              go_region_law ((first
                | (refine step_append_lies _ (by rfl) (.tmp 66) (.tmp 68) 74 (by rfl) B 97 iS (.agg #[.int .u64 0, .int .u64 0, .int .u64 0, .int .u64 0]) 4 32 Tryz.underlying74 hiS zS0 zS1 zS2 rfl (by decide) (.slice sa' S1.length sc') S1.length (flatS S1) (by rfl) Ml.out.sets ⟨w7.heap.size, 0, none⟩ 1 1 [.int .u64 (za : Int), .int .u64 (zb : Int), .int .u64 (zc : Int), .int .u64 (zd : Int)] (by rfl) (by rfl) (World.news_of_block (w := (w7.alloc (.cells #[.int .u64 (za : Int), .int .u64 (zb : Int), .int .u64 (zc : Int), .int .u64 (zd : Int)] 97)).drew) (heap_new w7 (.cells #[.int .u64 (za : Int), .int .u64 (zb : Int), .int .u64 (zc : Int), .int .u64 (zd : Int)] 97))) (by simp [Value.oneCell']) (by omega) (by (unfold maxLen); omega) (by omega) Ml.out.size (w7.heap.size + 1) hsizeU ?_; intro g5 c5 w5 hown5 hgrow5 hat5 hlt5; have hat5' : ∀ k, (Value.slice (some ⟨g5, 0, none⟩) (S1.length + 1) c5).ownBlock = some k → (Value.slice sa' S1.length sc').ownBlock = some k ∨ ((w7.alloc (.cells #[.int .u64 (za : Int), .int .u64 (zb : Int), .int .u64 (zc : Int), .int .u64 (zd : Int)] 97)).drew).heap.size ≤ k := (fun k e0 => hat5.elim (fun e1 => Or.inl (e1.trans e0)) (fun e1 => Or.inr (by (have e2 : g5 = k := (by injection e0)); omega))); have M5 := hid (Ml.out.addSet (ownS_snoc hown5 rfl) hgrow5 hat5'); obtain ⟨x0, x1, x2, x3, y0, y1, y2, y3⟩ := cells4p (grown_blk hgrow5 Ml.out.blk (fun e0 => (Ml.out.sF _ e0).2.1 rfl)); have hk5 := hid (kept_lowP hkU.out hgrow5 (fun k e0 => (Ml.out.sF k e0).1) hFr.out); have hB5 := hid (bgrow hBU.out hgrow5 Ml.out.size (fun k e0 => (Ml.out.sets.lt k e0).1)); have hF5 : Hid (∀ k, (F' k ∨ (Value.slice (some ⟨g5, 0, none⟩) (S1.length + 1) c5).ownBlock = some k) → k < s ∨ W0.heap.size ≤ k) := hid (fun k hk => hk.elim (hFr.out k) (fun h1 => (hat5' k h1).elim (fun h2 => hFr.out k (Ml.out.sF k h2).1) (fun h2 => Or.inr (Nat.le_trans hkU.out.size h2)))); have hO5 := hid (own_set (pb := pb) (o := 1) (x := .slice (some ⟨g5, 0, none⟩) (S1.length + 1) c5) (own_kept (own_below hO2.out hUl.out) (Kept.of_grown hgrow5) (fun j e0 e1 => Nat.lt_irrefl _ (Nat.lt_of_lt_of_le (hFb.out j (Ml.out.sF j e1).1) (hO2.out.lt j e0).1))) (fun e0 => Nat.lt_irrefl _ (Nat.lt_of_lt_of_le (hFb.out pb Ml.out.inF) (hO2.out.lt pb e0).1))); have hof5 := hid (off_more (v5 := .slice (some ⟨g5, 0, none⟩) (S1.length + 1) c5) hO2.out hFb.out (fun k h1 => (hat5' k h1).elim (fun h2 => Or.inl (Ml.out.sF k h2).1) (fun h2 => Or.inr (by omega)))))
                | fail))
              all_goals
                have hk5' := hid (hk5.out.setCell (a := ⟨pb, 1, none⟩) (v := .slice (some ⟨g5, 0, none⟩) (S1.length + 1) c5) (fun _ => hF0.out _ h0.out.inF))
                have hB5' := hid (bl_set hB5.out pb 1 (.slice (some ⟨g5, 0, none⟩) (S1.length + 1) c5) Ml.out.base)
                have M5' := hid M5.out
                generalize w5.setCell ⟨pb, 1, none⟩ (.slice (some ⟨g5, 0, none⟩) (S1.length + 1) c5) = W5 at M5' hk5' hB5' hO5 ⊢
                obtain ⟨sv5, hsv5⟩ : ∃ v, v = Value.slice (some ⟨g5, 0, none⟩) (S1.length + 1) c5 := ⟨_, rfl⟩
                rw [← hsv5] at M5' hF5 hof5 ⊢
                clear hsv5
                obtain ⟨F5, hF5e⟩ : ∃ F5, F5 = (fun k => F' k ∨ sv5.ownBlock = some k) := ⟨_, rfl⟩
                rw [← hF5e] at M5' hof5
                have hF6 : Hid (∀ k, F5 k → k < s ∨ W0.heap.size ≤ k) := hid (fun k hk => hF5.out k (by rw [hF5e] at hk; exact hk))
                clear hF5e hF5
                have hall := hid (And.intro hO5.out (And.intro hof5.out (And.intro hk5'.out (And.intro hB5'.out (And.intro M5'.out hF6.out)))))
                clear hO5 hof5 hk5' hB5' M5' hF6
                revert hall
                revert W5 sv5 F5
                exact rest.out
            case pf =>
              intro W5 sv5 F5 hall
              obtain ⟨hO5, hof5, hk5', hB5', M5', hF5⟩ := hall.out
              have hO5 := hid hO5
              have hof5 := hid hof5
              have hk5' := hid hk5'
              have hB5' := hid hB5'
              have M5' := hid M5'
              have hF5 := hid hF5
              clear hall
              clear c0 c1 c2 c3 f0 f1 f2 f3 z0 z1 z2 z3 l0 l1 l2 l3 m0 m1 m2 m3 Ml
              obtain ⟨c0, c1, c2, c3, f0, f1, f2, f3⟩ := cells4p M5'.out.blk
              have hal6 := hid (al' W5 (.cells #[(.slice va mk.length vc)] 23))
              have M6 := hid (M5'.out.keep hal6.out)
              have hN6 := hid ((Nums.of_row hO5.out).keep hal6.out)
              have hk6 : Hid (Kept (fun k => k < s) W0 (W5.alloc (.cells #[(.slice va mk.length vc)] 23))) := hid (hk5'.out.step (Kept.of_below hal6.out (F := noBlk)) (fun _ _ h => h.elim))
              have hB6 := hid (bstep hB5'.out hal6.out M5'.out.size)
              have hpW5 := blk_lt M5'.out.blk
              have hpn5 : pb ≠ W5.heap.size := by omega
              go_wp2_with (at_builtin; refine wpList_append_lies _ (by rfl) _ _ _ (by rfl) B 23 iN (.slice none 0 0) 1 24 Tryz.underlying22 hiN zN0 zN1 zN2 rfl (by decide) (.slice ba' gs'.length bc') gs'.length gs' (by rfl) M6.out.beh ⟨W5.heap.size, 0, none⟩ 1 1 [(.slice va mk.length vc)] (by rfl) (by rfl) (World.news_of_block (heap_new W5 (.cells #[(.slice va mk.length vc)] 23))) (by simp [Value.oneCell']) (by omega) (by (unfold maxLen); omega) (by omega) M6.out.size (World.heap (W5.alloc (.cells #[(.slice va mk.length vc)] 23))).size rfl ?_; intro g6 c6 w6 hown6 hgrow6 hat6 hlt6; have hat6' : ∀ k, (Value.slice (some ⟨g6, 0, none⟩) (gs'.length + 1) c6).ownBlock = some k → (Value.slice ba' gs'.length bc').ownBlock = some k ∨ (W5.alloc (.cells #[(.slice va mk.length vc)] 23)).heap.size ≤ k := (fun k e0 => hat6.elim (fun e1 => Or.inl (e1.trans e0)) (fun e1 => Or.inr (by (have e2 : g6 = k := (by injection e0)); omega))); have M7 := hid (M6.out.addBeh hN6.out hof5.out hown6 hgrow6 hat6'); obtain ⟨x0, x1, x2, x3, y0, y1, y2, y3⟩ := cells4p (grown_blk hgrow6 M6.out.blk (fun e0 => (M6.out.bF _ e0).2.1 rfl)); have hk7 := hid ((kept_lowP hk6.out hgrow6 (fun k e0 => (M6.out.bF k e0).1) hF5.out).setCell (a := ⟨pb, 2, none⟩) (v := .slice (some ⟨g6, 0, none⟩) (gs'.length + 1) c6) (fun _ => hF0.out _ h0.out.inF)); have hB7 := hid (bl_set (bgrow hB6.out hgrow6 M6.out.size (fun k e0 => (M6.out.beh.lt k e0).1)) pb 2 (.slice (some ⟨g6, 0, none⟩) (gs'.length + 1) c6) M6.out.base); have hF7 : Hid (∀ k, (_ ∨ (Value.slice (some ⟨g6, 0, none⟩) (gs'.length + 1) c6).ownBlock = some k) → k < s ∨ W0.heap.size ≤ k) := hid (fun k hk => hk.elim (hF5.out k) (fun h1 => (hat6' k h1).elim (fun h2 => hF5.out k (M6.out.bF k h2).1) (fun h2 => Or.inr (Nat.le_trans hk6.out.size h2)))))
              go_roundw
              case rel => exact ⟨k + 1, _, _, _, _, by omega, by go_num, hid (by rw [htk.out, hbg'.out, ← List.append_assoc, ← List.append_assoc, hS1]; exact M7.out), hF7, hk7, hB7.out⟩
              case measure => simp [intOf]; omega
          | true =>
            go_wp2_with (first
              | (go_at_call 67; refine GMk.out.mono ?_; rintro z w7 ⟨v7, rfl, hO7, hUz7, -⟩; have hO7 := hid hO7; obtain ⟨T0, T1, T2, T3, T4, -⟩ := cells5s (hs_keep hbox.out (bl_step hal.out hUz7)); have hO7a := hid (World.ownsRow.alloc hO7.out (.cells #[.int .i64 (en : Int)] 3)))
              | (go_at_call 68; refine (GHk.out w7 (bl_step hal.out hUz7)).mono ?_; rintro z u7 ⟨rfl, hu7⟩; subst u7)
              | (at_builtin; refine wp_app _ rfl _ _ rfl (wr.alloc (.cells #[.int .u64 (za : Int), .int .u64 (zb : Int), .int .u64 (zc : Int), .int .u64 (zd : Int)] 97)).heap.size _ [(en : Int)] _ _ rfl rfl hO7a.out (Nums.lit1 w7 _) (by simp only [List.length_singleton]; omega) (Nat.le_trans hUz7.size (by simp)) ?_; intro v8 w8 hO2 hb8; have hUz := (hUz7.trans ((al' w7 (.cells #[.int .i64 (en : Int)] 3)).mono hUz7.size)).trans hb8))
            have hbg' : Hid (begB S.length en p (k + 1) = begB S.length en p k ++ [mk ++ [(en : Int)]]) := hid (by rw [hbg.out]; simp)
            generalize mk ++ [(en : Int)] = bl at hO2 hbg'
            obtain ⟨va, vc, rfl⟩ := own_shape hO2
            -- one set more, one list more
            have hO2 := hid hO2
            have hUb := hid (bl_step hal.out hUz)
            have Mu := hid (hM.out.keep hUb.out)
            have hub : Hid (w8.heap[wr.heap.size]? = some (.cells #[.int .u64 (za : Int), .int .u64 (zb : Int), .int .u64 (zc : Int), .int .u64 (zd : Int)] 97)) := hid (hs_keep hzb.out hUz)
            have hUd : Hid (Below w8.heap.size w8 w8.drew) := hid (Below.refl _ _).drew
            have Md := hid (Mu.out.keep hUd.out)
            obtain ⟨c0, c1, c2, c3, f0, f1, f2, f3⟩ := cells4p Md.out.blk
            obtain ⟨z0, z1, z2, z3, -⟩ := cells4p (hs_keep hub.out hUd.out)
            have hUl : Hid (Below w8.heap.size w8 (w8.alloc (.cells #[.int .u64 (za : Int), .int .u64 (zb : Int), .int .u64 (zc : Int), .int .u64 (zd : Int)] 97)).drew) := hid (bl_step (al' w8 (.cells #[.int .u64 (za : Int), .int .u64 (zb : Int), .int .u64 (zc : Int), .int .u64 (zd : Int)] 97)) (Below.refl _ _).drew)
            have Ml := hid (Mu.out.keep hUl.out)
            obtain ⟨l0, l1, l2, l3, m0, m1, m2, m3⟩ := cells4p Ml.out.blk
            have hsl : (S ++ p.sets.take k).length ≤ 2100 := by rw [List.length_append, List.length_take]; omega
            have hgsl : gs'.length ≤ 2100 := by
              have := hgl2.out
              omega
            have hkU : Hid (Kept (fun k => k < s) W0 ((w8.alloc (.cells #[.int .u64 (za : Int), .int .u64 (zb : Int), .int .u64 (zc : Int), .int .u64 (zd : Int)] 97)).drew)) := hid (hkr.out.step (Kept.of_below (bl_step hUb.out hUl.out) (F := noBlk)) (fun _ _ h => h.elim))
            have hBU : Hid (Below B w ((w8.alloc (.cells #[.int .u64 (za : Int), .int .u64 (zb : Int), .int .u64 (zc : Int), .int .u64 (zd : Int)] 97)).drew)) := hid (bstep hbl (bl_step hUb.out hUl.out) hM.out.size)
            have hsizeU : ((w8.alloc (.cells #[.int .u64 (za : Int), .int .u64 (zb : Int), .int .u64 (zc : Int), .int .u64 (zd : Int)] 97)).drew).heap.size = w8.heap.size + 1 := by simp
            generalize hS1 : S ++ p.sets.take k = S1 at *
            go_wp2_with fail
            apply collapse
            case h =>
              intro rest
              go_region_law ((first
                | (refine step_append_lies _ (by rfl) (.tmp 66) (.tmp 68) 74 (by rfl) B 97 iS (.agg #[.int .u64 0, .int .u64 0, .int .u64 0, .int .u64 0]) 4 32 Tryz.underlying74 hiS zS0 zS1 zS2 rfl (by decide) (.slice sa' S1.length sc') S1.length (flatS S1) (by rfl) Ml.out.sets ⟨w8.heap.size, 0, none⟩ 1 1 [.int .u64 (za : Int), .int .u64 (zb : Int), .int .u64 (zc : Int), .int .u64 (zd : Int)] (by rfl) (by rfl) (World.news_of_block (w := (w8.alloc (.cells #[.int .u64 (za : Int), .int .u64 (zb : Int), .int .u64 (zc : Int), .int .u64 (zd : Int)] 97)).drew) (heap_new w8 (.cells #[.int .u64 (za : Int), .int .u64 (zb : Int), .int .u64 (zc : Int), .int .u64 (zd : Int)] 97))) (by simp [Value.oneCell']) (by omega) (by (unfold maxLen); omega) (by omega) Ml.out.size (w8.heap.size + 1) hsizeU ?_; intro g5 c5 w5 hown5 hgrow5 hat5 hlt5; have hat5' : ∀ k, (Value.slice (some ⟨g5, 0, none⟩) (S1.length + 1) c5).ownBlock = some k → (Value.slice sa' S1.length sc').ownBlock = some k ∨ ((w8.alloc (.cells #[.int .u64 (za : Int), .int .u64 (zb : Int), .int .u64 (zc : Int), .int .u64 (zd : Int)] 97)).drew).heap.size ≤ k := (fun k e0 => hat5.elim (fun e1 => Or.inl (e1.trans e0)) (fun e1 => Or.inr (by (have e2 : g5 = k := (by injection e0)); omega))); have M5 := hid (Ml.out.addSet (ownS_snoc hown5 rfl) hgrow5 hat5'); obtain ⟨x0, x1, x2, x3, y0, y1, y2, y3⟩ := cells4p (grown_blk hgrow5 Ml.out.blk (fun e0 => (Ml.out.sF _ e0).2.1 rfl)); have hk5 := hid (kept_lowP hkU.out hgrow5 (fun k e0 => (Ml.out.sF k e0).1) hFr.out); have hB5 := hid (bgrow hBU.out hgrow5 Ml.out.size (fun k e0 => (Ml.out.sets.lt k e0).1)); have hF5 : Hid (∀ k, (F' k ∨ (Value.slice (some ⟨g5, 0, none⟩) (S1.length + 1) c5).ownBlock = some k) → k < s ∨ W0.heap.size ≤ k) := hid (fun k hk => hk.elim (hFr.out k) (fun h1 => (hat5' k h1).elim (fun h2 => hFr.out k (Ml.out.sF k h2).1) (fun h2 => Or.inr (Nat.le_trans hkU.out.size h2)))); have hO5 := hid (own_set (pb := pb) (o := 1) (x := .slice (some ⟨g5, 0, none⟩) (S1.length + 1) c5) (own_kept (own_below hO2.out hUl.out) (Kept.of_grown hgrow5) (fun j e0 e1 => Nat.lt_irrefl _ (Nat.lt_of_lt_of_le (hFb.out j (Ml.out.sF j e1).1) (hO2.out.lt j e0).1))) (fun e0 => Nat.lt_irrefl _ (Nat.lt_of_lt_of_le (hFb.out pb Ml.out.inF) (hO2.out.lt pb e0).1))); have hof5 := hid (off_more (v5 := .slice (some ⟨g5, 0, none⟩) (S1.length + 1) c5) hO2.out hFb.out (fun k h1 => (hat5' k h1).elim (fun h2 => Or.inl (Ml.out.sF k h2).1) (fun h2 => Or.inr (by omega)))))
                | fail))
              all_goals
                have hk5' := hid (hk5.out.setCell (a := ⟨pb, 1, none⟩) (v := .slice (some ⟨g5, 0, none⟩) (S1.length + 1) c5) (fun _ => hF0.out _ h0.out.inF))
                have hB5' := hid (bl_set hB5.out pb 1 (.slice (some ⟨g5, 0, none⟩) (S1.length + 1) c5) Ml.out.base)
                have M5' := hid M5.out
                generalize w5.setCell ⟨pb, 1, none⟩ (.slice (some ⟨g5, 0, none⟩) (S1.length + 1) c5) = W5 at M5' hk5' hB5' hO5 ⊢
                obtain ⟨sv5, hsv5⟩ : ∃ v, v = Value.slice (some ⟨g5, 0, none⟩) (S1.length + 1) c5 := ⟨_, rfl⟩
                rw [← hsv5] at M5' hF5 hof5 ⊢
                clear hsv5
                obtain ⟨F5, hF5e⟩ : ∃ F5, F5 = (fun k => F' k ∨ sv5.ownBlock = some k) := ⟨_, rfl⟩
                rw [← hF5e] at M5' hof5
                have hF6 : Hid (∀ k, F5 k → k < s ∨ W0.heap.size ≤ k) := hid (fun k hk => hF5.out k (by rw [hF5e] at hk; exact hk))
                clear hF5e hF5
                have hall := hid (And.intro hO5.out (And.intro hof5.out (And.intro hk5'.out (And.intro hB5'.out (And.intro M5'.out hF6.out)))))
                clear hO5 hof5 hk5' hB5' M5' hF6
                revert hall
                revert W5 sv5 F5
                exact rest.out
            case pf =>
              intro W5 sv5 F5 hall
              obtain ⟨hO5, hof5, hk5', hB5', M5', hF5⟩ := hall.out
              have hO5 := hid hO5
              have hof5 := hid hof5
              have hk5' := hid hk5'
              have hB5' := hid hB5'
              have M5' := hid M5'
              have hF5 := hid hF5
              clear hall
              clear c0 c1 c2 c3 f0 f1 f2 f3 z0 z1 z2 z3 l0 l1 l2 l3 m0 m1 m2 m3 Ml
              obtain ⟨c0, c1, c2, c3, f0, f1, f2, f3⟩ := cells4p M5'.out.blk
              have hal6 := hid (al' W5 (.cells #[(.slice va bl.length vc)] 23))
              have M6 := hid (M5'.out.keep hal6.out)
              have hN6 := hid ((Nums.of_row hO5.out).keep hal6.out)
              have hk6 : Hid (Kept (fun k => k < s) W0 (W5.alloc (.cells #[(.slice va bl.length vc)] 23))) := hid (hk5'.out.step (Kept.of_below hal6.out (F := noBlk)) (fun _ _ h => h.elim))
              have hB6 := hid (bstep hB5'.out hal6.out M5'.out.size)
              have hpW5 := blk_lt M5'.out.blk
              have hpn5 : pb ≠ W5.heap.size := by omega
              go_wp2_with (at_builtin; refine wpList_append_lies _ (by rfl) _ _ _ (by rfl) B 23 iN (.slice none 0 0) 1 24 Tryz.underlying22 hiN zN0 zN1 zN2 rfl (by decide) (.slice ba' gs'.length bc') gs'.length gs' (by rfl) M6.out.beh ⟨W5.heap.size, 0, none⟩ 1 1 [(.slice va bl.length vc)] (by rfl) (by rfl) (World.news_of_block (heap_new W5 (.cells #[(.slice va bl.length vc)] 23))) (by simp [Value.oneCell']) (by omega) (by (unfold maxLen); omega) (by omega) M6.out.size (World.heap (W5.alloc (.cells #[(.slice va bl.length vc)] 23))).size rfl ?_; intro g6 c6 w6 hown6 hgrow6 hat6 hlt6; have hat6' : ∀ k, (Value.slice (some ⟨g6, 0, none⟩) (gs'.length + 1) c6).ownBlock = some k → (Value.slice ba' gs'.length bc').ownBlock = some k ∨ (W5.alloc (.cells #[(.slice va bl.length vc)] 23)).heap.size ≤ k := (fun k e0 => hat6.elim (fun e1 => Or.inl (e1.trans e0)) (fun e1 => Or.inr (by (have e2 : g6 = k := (by injection e0)); omega))); have M7 := hid (M6.out.addBeh hN6.out hof5.out hown6 hgrow6 hat6'); obtain ⟨x0, x1, x2, x3, y0, y1, y2, y3⟩ := cells4p (grown_blk hgrow6 M6.out.blk (fun e0 => (M6.out.bF _ e0).2.1 rfl)); have hk7 := hid ((kept_lowP hk6.out hgrow6 (fun k e0 => (M6.out.bF k e0).1) hF5.out).setCell (a := ⟨pb, 2, none⟩) (v := .slice (some ⟨g6, 0, none⟩) (gs'.length + 1) c6) (fun _ => hF0.out _ h0.out.inF)); have hB7 := hid (bl_set (bgrow hB6.out hgrow6 M6.out.size (fun k e0 => (M6.out.beh.lt k e0).1)) pb 2 (.slice (some ⟨g6, 0, none⟩) (gs'.length + 1) c6) M6.out.base); have hF7 : Hid (∀ k, (_ ∨ (Value.slice (some ⟨g6, 0, none⟩) (gs'.length + 1) c6).ownBlock = some k) → k < s ∨ W0.heap.size ≤ k) := hid (fun k hk => hk.elim (hF5.out k) (fun h1 => (hat6' k h1).elim (fun h2 => hF5.out k (M6.out.bF k h2).1) (fun h2 => Or.inr (Nat.le_trans hk6.out.size h2)))))
              go_roundw
              case rel => exact ⟨k + 1, _, _, _, _, by omega, by go_num, hid (by rw [htk.out, hbg'.out, ← List.append_assoc, ← List.append_assoc, hS1]; exact M7.out), hF7, hk7, hB7.out⟩
              case measure => simp [intOf]; omega
        · have hltz : ¬ (k : Int) < (p.sets.length : Int) := by omega
          obtain rfl : k = p.sets.length := by omega
          have hfinal : Hid (PlX B pb e wr (S ++ p.sets) (G ++ begB S.length en p p.sets.length) FF) := hid ⟨_, _, _, _, _, by have := hM.out; rw [List.take_length] at this; exact this⟩
          go_wp2
          first | go_end0 | skip
          exact ⟨rfl, hfinal.out, hbl⟩

end Go.Proofs.YtjelgphhlcecoaaGreatDoor
namespace Go.Proofs.YtjelgphhlcecoaaGreatDoor
open Go.RowKit

/-- a slice of rules -/
def Celss (w : World) (v : Value) (L : List (List Cel)) : Prop := ∃ a cap, v = .slice a L.length cap ∧ L.length ≤ cap ∧ (a = none → cap = 0) ∧ ∀ j (h : j < L.length), ∃ b o x, a = some ⟨b, o, none⟩ ∧ b < w.heap.size ∧ w.cell? ⟨b, o + j, none⟩ = some x ∧ Cels w x L[j]
theorem Celss.keep {w w' : World} {v : Value} {L : List (List Cel)} (h : Celss w v L) (hb : Below w.heap.size w w') : Celss w' v L := by
  obtain ⟨a, cap, hv, hc, hn, hat⟩ := h
  refine ⟨a, cap, hv, hc, hn, fun j hj => ?_⟩
  obtain ⟨b, o, x, ha, hlt, h1, h2⟩ := hat j hj
  exact ⟨b, o, x, ha, Nat.lt_of_lt_of_le hlt hb.size, keep_cell hb h1, h2.keep hb⟩
end Go.Proofs.YtjelgphhlcecoaaGreatDoor
