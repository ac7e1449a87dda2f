/- dfa.placesOf. dfa.placesOf, of right rules. An automaton that is filled, state by state, beside the states that were met. dfa.Build: what it holds from state to state. -/
import Derived.Test.YtjelgphhlcecoaaGreatDoorJ25
import Derived.Test.YtjelgphhlcecoaaGreatDoorJ24
import Derived.BigRegion
namespace Go.Proofs.YtjelgphhlcecoaaGreatDoor
open Go.RowKit

set_option maxRecDepth 20000 in
theorem makeSets (n : Nat) (hn : n ≤ 1000) (w : World) : (Instr.makeSlice 74 (.int .i64 (n : Int)) (.int .i64 (n : Int))).run Tryz.prog w = .ok (.slice (some ⟨w.heap.size, 0, none⟩) n n) (w.alloc (.cells (madeCells #[.int .u64 0, .int .u64 0, .int .u64 0, .int .u64 0] (n * 4)) 97)) := by
  obtain ⟨i0, hi, hz0, hz1, hz2⟩ := info_parts Tryz.infoS4
  have := run_make (P := Tryz.prog) w 74 97 i0 _ Tryz.underlying74 hi hz0 .i64 .i64 (n : Int) (n : Int) (by omega) (Int.le_refl _) (by rw [hz2]; omega) (by omega)
  rw [hz1, Int.toNat_natCast] at this
  exact this
set_option maxRecDepth 20000 in
theorem makeNs (n : Nat) (hn : n ≤ 1000) (w : World) : (Instr.makeSlice 22 (.int .i64 (n : Int)) (.int .i64 (n : Int))).run Tryz.prog w = .ok (.slice (some ⟨w.heap.size, 0, none⟩) n n) (w.alloc (.cells (madeCells #[.slice none 0 0] n) 23)) :=
  run_make_row' (P := Tryz.prog) 22 23 (.slice none 0 0) 24 Tryz.underlying22 Tryz.infoNs rfl .i64 .i64 n (by omega) (by omega) w
theorem flatS_none (n : Nat) : flatS (List.replicate n noneB) = List.replicate (n * 4) (.int .u64 0) := by
  induction n with
  | zero => rfl
  | succ n ih =>
    rw [List.replicate_succ]
    unfold flatS at ih ⊢
    rw [List.flatMap_cons, ih, show (n + 1) * 4 = 4 + n * 4 by omega, ← List.replicate_append_replicate]
    rfl
theorem made4 (n : Nat) : (madeCells #[.int .u64 0, .int .u64 0, .int .u64 0, .int .u64 0] (n * 4)).toList = List.replicate (n * 4) (.int .u64 0) := by
  apply List.ext_getElem?
  intro j
  by_cases hj : j < n * 4
  · have h4 : j % 4 = 0 ∨ j % 4 = 1 ∨ j % 4 = 2 ∨ j % 4 = 3 := by omega
    rcases h4 with h | h | h | h <;> simp [madeCells, hj, h]
  · simp [madeCells, hj]
/-- the places ahead of the first rule -/
theorem PlO.start {W : World} {B pb b1 b2 R : Nat} (hR : R ≤ 1000) (hpb : W.heap[pb]? = some (.cells #[.int .i64 (R : Int), .slice (some ⟨b1, 0, none⟩) R R, .slice (some ⟨b2, 0, none⟩) R R, .slice none 0 0] 76 (0, 0)))
    (h1 : W.heap[b1]? = some (.cells (madeCells #[.int .u64 0, .int .u64 0, .int .u64 0, .int .u64 0] (R * 4)) 97 (0, 0))) (h2 : W.heap[b2]? = some (.cells (madeCells #[.slice none 0 0] R) 23 (0, 0)))
    (e1 : b1 ≠ pb) (e2 : b2 ≠ pb) (e3 : b1 ≠ b2) (g0 : B ≤ pb) (g1 : B ≤ b1) (g2 : B ≤ b2) :
    PlO B pb R (fun k => k < B ∨ k = pb ∨ k = b1 ∨ k = b2) W (.slice (some ⟨b1, 0, none⟩) R R) (.slice (some ⟨b2, 0, none⟩) R R) (.slice none 0 0) (List.replicate R noneB) (List.replicate R nilV) (List.replicate R []) [] where
  blk := hpb
  sets := by
    unfold OwnS
    rw [flatS_none, List.length_replicate]
    refine ⟨by simp, Or.inr ⟨b1, R, _, rfl, g1, h1, Nat.le_refl _, by unfold maxLen; omega, by simp [madeCells], ?_⟩⟩
    rw [made4, List.take_of_length_le (by simp)]
  sF := fun k e => by
    have e' : b1 = k := by injection e
    subst e'
    exact ⟨Or.inr (Or.inr (Or.inl rfl)), e1, fun h => e3 (by injection h with h; exact h.symm), fun h => by cases h⟩
  beh := by
    rw [List.length_replicate]
    refine ⟨by simp, Or.inr ⟨b2, R, _, rfl, g2, h2, Nat.le_refl _, by unfold maxLen; omega, by simp [madeCells], ?_⟩⟩
    rw [toList_madeCells_one, List.take_of_length_le (by simp)]
  bF := fun k e => by
    have e' : b2 = k := by injection e
    subst e'
    exact ⟨Or.inr (Or.inr (Or.inr rfl)), e2, fun h => by cases h⟩
  fir := World.ownsRow_nil _ _ _ _
  fF := fun k e => by cases e
  nums := ⟨by simp, fun j => by
    have a1 : (List.replicate R nilV).getD j nilV = nilV := by
      rw [List.getD_eq_getElem?_getD, List.getElem?_replicate]
      split <;> rfl
    have a2 : (List.replicate R ([] : List Int)).getD j [] = [] := by
      rw [List.getD_eq_getElem?_getD, List.getElem?_replicate]
      split <;> rfl
    rw [a1, a2]
    exact ⟨Nums.nil W, Off.nil _⟩⟩
  inF := Or.inr (Or.inl rfl)
  lt := fun k e => by
    rcases e with e | rfl | rfl | rfl
    · have := blk_lt hpb; omega
    · exact blk_lt hpb
    · exact blk_lt h1
    · exact blk_lt h2
  base := g0
  low := fun k hk => Or.inl hk
theorem heap3 (w : World) (r x y z : Obj) : ((((w.alloc r).alloc x).alloc y).alloc z).drew.heap[w.heap.size + 1]? = some x ∧ ((((w.alloc r).alloc x).alloc y).alloc z).drew.heap[w.heap.size + 1 + 1]? = some y ∧ ((((w.alloc r).alloc x).alloc y).alloc z).drew.heap[w.heap.size + 1 + 1 + 1]? = some z ∧ ((((w.alloc r).alloc x).alloc y).alloc z).drew.heap[w.heap.size]? = some r ∧ Below w.heap.size w ((((w.alloc r).alloc x).alloc y).alloc z).drew := by
  have hs : ∀ (u : World) (o : Obj), (u.alloc o).heap.size = u.heap.size + 1 := fun u o => by simp
  have h1 := heap_new (w.alloc r) x
  have h2 := heap_new ((w.alloc r).alloc x) y
  have h3 := heap_new (((w.alloc r).alloc x).alloc y) z
  have h0 := heap_new w r
  rw [hs] at h1
  rw [hs, hs] at h2
  rw [hs, hs, hs] at h3
  have k1 := (al' (((w.alloc r).alloc x).alloc y) z).drew
  have k2 := bl_step (al' ((w.alloc r).alloc x) y) k1
  have k3 := bl_step (al' (w.alloc r) x) k2
  exact ⟨hs_keep h1 k2, hs_keep h2 k1, h3, hs_keep h0 k3, bl_step (al' w r) k3⟩
/-- what placesOf answers: the places of the rules -/
def PlR (ts : List Rx) (w : World) (sv bv fv : Value) : Prop := ∃ all, SpAll ts all ∧ Sets w sv (setsP all all.length) ∧ Numss w bv (behP all all.length) ∧ Nums w fv (firP all all.length)
theorem setsP_fit {ts : List Rx} {all : List Sp} {L : List (List Cel)} (h : SpAll ts all) (hf : ∀ t ∈ ts, ∀ S ∈ setsL t, Fit4 S) : ∀ m, m ≤ all.length → ∀ S ∈ setsP all m, Fit4 S
  | 0, _, S, hS => by
    rw [setsP] at hS
    rw [List.eq_of_mem_replicate hS]
    exact noneB_fit
  | m + 1, hm, S, hS => by
    rw [setsP, List.mem_append] at hS
    rcases hS with hS | hS
    · exact setsP_fit (L := L) h hf m (by omega) S hS
    · have hm' : m < ts.length := by rw [← h.len]; omega
      obtain ⟨fl, e, _⟩ := h.is m hm'
      rw [e] at hS
      exact hf _ (List.getElem_mem hm') S (by simpa [spOf, setsS] using hS)

end Go.Proofs.YtjelgphhlcecoaaGreatDoor
namespace Go.Proofs.YtjelgphhlcecoaaGreatDoor
open Go.RowKit

def PlS (w : World) (R pb b1 b2 : Nat) (W : World) : Prop := W.heap[pb]? = some (.cells #[.int .i64 (R : Int), .slice (some ⟨b1, 0, none⟩) R R, .slice (some ⟨b2, 0, none⟩) R R, .slice none 0 0] 76 (0, 0)) ∧
  W.heap[b1]? = some (.cells (madeCells #[.int .u64 0, .int .u64 0, .int .u64 0, .int .u64 0] (R * 4)) 97 (0, 0)) ∧ W.heap[b2]? = some (.cells (madeCells #[.slice none 0 0] R) 23 (0, 0)) ∧
  b1 ≠ pb ∧ b2 ≠ pb ∧ b1 ≠ b2 ∧ w.heap.size + 1 ≤ pb ∧ w.heap.size + 1 ≤ b1 ∧ w.heap.size + 1 ≤ b2 ∧ W.heap[w.heap.size]? = some (.cells #[.int .i64 0, .slice none 0 0, .slice none 0 0, .slice none 0 0] 76 (0, 0)) ∧ Below w.heap.size w W
theorem spotsAll_start (R : Nat) : (List.replicate R noSp).length = R ∧ setsP (List.replicate R noSp) 0 = List.replicate R noneB ∧ behP (List.replicate R noSp) 0 = List.replicate R [] ∧ firP (List.replicate R noSp) 0 = [] := by
  refine ⟨by simp, by simp [setsP], by simp [behP], rfl⟩
def putP4 (w : World) (b : Nat) (y0 y1 y2 y3 : Value) : World := (((w.setCell ⟨b, 0, none⟩ y0).setCell ⟨b, 1, none⟩ y1).setCell ⟨b, 2, none⟩ y2).setCell ⟨b, 3, none⟩ y3
theorem putP4_blk {w : World} {b : Nat} {x0 x1 x2 x3 y0 y1 y2 y3 : Value} {T : TypeId} {fr : Nat × Nat} (h : w.heap[b]? = some (.cells #[x0, x1, x2, x3] T fr)) : (putP4 w b y0 y1 y2 y3).heap[b]? = some (.cells #[y0, y1, y2, y3] T fr) := heap_setCell (heap_setCell (heap_setCell (heap_setCell h)))
theorem putP4_kept {F : Nat → Prop} {w u : World} {b : Nat} {y0 y1 y2 y3 : Value} (h : Kept F w u) (hb : F b) : Kept F w (putP4 u b y0 y1 y2 y3) := (((h.setCell fun _ => hb).setCell fun _ => hb).setCell fun _ => hb).setCell fun _ => hb
theorem offP_bd {all : List Sp} : ∀ k, (∀ i, i < k → SmlS (all.getD i noSp)) → offP all k ≤ all.length + k * 60
  | 0, _ => by simp [offP]
  | k + 1, h => by
    have ih := offP_bd k fun i hi => h i (by omega)
    have := (h k (by omega)).sets
    rw [offP]
    omega
theorem firP_bd {all : List Sp} : ∀ k, (∀ i, i < k → SmlS (all.getD i noSp)) → (firP all k).length ≤ k * 61
  | 0, _ => by simp [firP]
  | k + 1, h => by
    have ih := firP_bd k fun i hi => h i (by omega)
    have := (h k (by omega)).first
    rw [firP, List.length_append, List.length_append, List.length_map]
    split <;> simp only [List.length_singleton, List.length_nil] <;> omega
theorem places_step {all : List Sp} {k : Nat} (hk : k < all.length) (p : Sp) : setsP (all.set k p) (k + 1) = setsP all k ++ p.sets ∧ behP (all.set k p) (k + 1) = behP all k ++ begB (setsP all k).length k p p.sets.length ∧ firP (all.set k p) (k + 1) = firP all k ++ (movL (setsP all k).length p.first ++ (if p.null then [(k : Int)] else [])) := by
  have ha := agr_set (a := all) (k := k) p
  have e := set_at hk p
  refine ⟨?_, ?_, ?_⟩
  · rw [setsP, e, ← setsP_congr ha k (Nat.le_refl _)]
  · rw [behP, e, ← behP_congr ha k (Nat.le_refl _), begB_is]
    congr 1
    refine List.map_congr_left fun j _ => ?_
    unfold behOne movL
    rw [e, ← offP_congr ha k (Nat.le_refl _), setsP_len]
  · rw [firP, e, ← firP_congr ha k (Nat.le_refl _), ← offP_congr ha k (Nat.le_refl _), setsP_len]
    rfl
/-- the first k rules' places -/
structure PlK (B pb R k : Nat) (ts : List Rx) (w : World) (all : List Sp) : Prop where
  len : all.length = R
  is : ∀ i t, i < k → ts[i]? = some t → SpAt t (all.getD i noSp)
  pl : PlX B pb R w (setsP all k) (behP all k) (firP all k)
set_option maxRecDepth 20000 in
set_option maxHeartbeats 8000000 in
theorem placesGood (v : Value) (ts : List Rx) (w : World) (hA : Celss w v (ts.map post)) (hn : ts.length ≤ 16) (hok : ∀ t ∈ ts, t.ok ∧ (post t).length ≤ 60) :
    Calls Tryz.prog 40 #[v] w fun z w' => ∃ sv bv fv, z = .returned (.tuple #[.agg #[.int .i64 (ts.length : Int), sv, bv, fv], .int .i64 0]) ∧ PlR ts w' sv bv fv ∧ Below w.heap.size w w' := by
  obtain ⟨aa, ca, rfl, hca, hnil, hat⟩ := hA
  have hlen : (ts.map post).length = ts.length := List.length_map _
  rw [hlen] at hca ⊢
  have hat' : Hid (∀ j, j < ts.length → ∃ b o x t, aa = some ⟨b, o, none⟩ ∧ b < w.heap.size ∧ w.cell? ⟨b, o + j, none⟩ = some x ∧ Cels w x (post t) ∧ t.ok ∧ (post t).length ≤ 60 ∧ ts[j]? = some t ∧ ∀ S ∈ setsL t, Fit4 S) := hid (fun j hj => by
    obtain ⟨b, o, x, h1, h2, h3, h4⟩ := hat j (by rw [hlen]; exact hj)
    rw [List.getElem_map] at h4
    have := hok _ (List.getElem_mem hj)
    exact ⟨b, o, x, ts[j], h1, h2, h3, h4, this.1, this.2, List.getElem?_eq_getElem hj, fun S hS => by obtain ⟨_, _, _, _, _, hF, _⟩ := h4; exact (hF _ (setsL_post ts[j] S hS)).3⟩)
  clear hat hnil hca hlen hok
  generalize hR : ts.length = R at *
  have hR' := hid hR
  clear hR
  have m1 := makeSets R (by omega)
  have m2 := makeNs R (by omega)
  have hnz : ¬ (16 : Int) < (R : Int) := by omega
  go_enter Tryz.func40, Tryz.ntmps40
  go_wp2_with fail
  apply collapse
  case h =>
    intro rest
    go_region
    all_goals first
      | exact rest.out _ _ _ _ (hid ⟨by first | exact (heap3 w _ _ _ _).1 | exact (heap3 w _ _ _ _).2.1 | exact (heap3 w _ _ _ _).2.2.1, by first | exact (heap3 w _ _ _ _).1 | exact (heap3 w _ _ _ _).2.1 | exact (heap3 w _ _ _ _).2.2.1, by first | exact (heap3 w _ _ _ _).1 | exact (heap3 w _ _ _ _).2.1 | exact (heap3 w _ _ _ _).2.2.1, by omega, by omega, by omega, by omega, by omega, by omega, (heap3 w _ _ _ _).2.2.2.1, (heap3 w _ _ _ _).2.2.2.2⟩)
      | (have hall : Hid (PlS w R (w.heap.size + 1 + 1 + 1) (w.heap.size + 1) (w.heap.size + 1 + 1) ((((w.alloc (.cells #[.int .i64 0, .slice none 0 0, .slice none 0 0, .slice none 0 0] 76)).alloc (.cells (madeCells #[.int .u64 0, .int .u64 0, .int .u64 0, .int .u64 0] (R * 4)) 97)).alloc (.cells (madeCells #[.slice none 0 0] R) 23)).alloc (.cells #[.int .i64 (R : Int), .slice (some ⟨w.heap.size + 1, 0, none⟩) R R, .slice (some ⟨w.heap.size + 1 + 1, 0, none⟩) R R, .slice none 0 0] 76)).drew) := hid ⟨(heap3 w _ _ _ _).2.2.1, (heap3 w _ _ _ _).1, (heap3 w _ _ _ _).2.1, by omega, by omega, by omega, by omega, by omega, by omega, (heap3 w _ _ _ _).2.2.2.1, (heap3 w _ _ _ _).2.2.2.2⟩
         generalize ((((w.alloc (.cells #[.int .i64 0, .slice none 0 0, .slice none 0 0, .slice none 0 0] 76)).alloc (.cells (madeCells #[.int .u64 0, .int .u64 0, .int .u64 0, .int .u64 0] (R * 4)) 97)).alloc (.cells (madeCells #[.slice none 0 0] R) 23)).alloc (.cells #[.int .i64 (R : Int), .slice (some ⟨w.heap.size + 1, 0, none⟩) R R, .slice (some ⟨w.heap.size + 1 + 1, 0, none⟩) R R, .slice none 0 0] 76)).drew = W at hall ⊢
         generalize w.heap.size + 1 + 1 + 1 = pb at hall ⊢
         generalize w.heap.size + 1 + 1 = b2 at hall ⊢
         generalize w.heap.size + 1 = b1 at hall ⊢
         revert hall
         revert W pb b1 b2
         exact rest.out)
  case pf =>
    intro W pb b2 b1 hall
    obtain ⟨q1, q2, q3, e1, e2, e3, g0, g1, g2, hz, hbW⟩ := hall.out
    obtain ⟨t1, t2, t3, t4⟩ := spotsAll_start R
    have hK0 : Hid (PlK (w.heap.size + 1) pb R 0 ts W (List.replicate R noSp)) := hid ⟨t1, fun i t hi => absurd hi (Nat.not_lt_zero _), by rw [t2, t3, t4]; exact ⟨_, _, _, _, _, PlO.start (by omega) q1 q2 q3 e1 e2 e3 g0 g1 g2⟩⟩
    have hbW := hid hbW
    have hz := hid hz
    have hWs : w.heap.size + 1 ≤ W.heap.size := by have := blk_lt hz.out; omega
    have hpW := blk_lt q1
    clear hall q1 q2 q3 e1 e2 e3 g1 g2 t1 t2 t3 t4 m1 m2
    go_wp2_with fail
    go_loopw [24] (fun i wr => ∃ (k : Nat) (all : List Sp), k ≤ R ∧ i = .int .i64 k ∧ Hid (PlK (w.heap.size + 1) pb R k ts wr all) ∧ Below (w.heap.size + 1) W wr) (fun i _ => R - (intOf i).toNat)
    case atStart => exact ⟨0, _, Nat.zero_le _, rfl, hK0, (Below.refl _ _).mono hWs⟩
    case round =>
      obtain ⟨k, all, hk, rfl, hK, hbl⟩ := hrel
      have hsz := hbl.size
      have hblw : Hid (Below w.heap.size w wr) := hid (hbW.out.trans (hbl.mono (by omega)))
      by_cases hlt : k < R
      · have hltz : (k : Int) < (R : Int) := by omega
        obtain ⟨b, o, x, t, rfl, hb, hx, hC, hto, h60, hts, hfit⟩ := hat'.out k hlt
        have hx' := keep_cell hblw.out hx
        have GS := hid (sofGood x t wr (hC.keep hblw.out) hto h60)
        have hsm : Hid (∀ i, i < k → SmlS (all.getD i noSp)) := hid (fun i hi => by
          obtain ⟨_, _, _, t', _, _, _, _, _, h60', hts', _⟩ := hat'.out i (by omega)
          exact (hK.out.is i t' hi hts').sml h60')
        have hob := offP_bd k hsm.out
        have hfb := firP_bd k hsm.out
        rw [hK.out.len] at hob
        obtain ⟨F, sv, bv, fv, gs, hM⟩ := hK.out.pl
        have hM := hid hM
        have hgl : gs.length ≤ 2000 := by rw [hM.out.nums.1, behP_len]; omega
        have hSl : (setsP all k).length ≤ 2000 := by rw [setsP_len]; omega
        have hnext : Hid (∀ p w3, SpAt t p → PlX (w.heap.size + 1) pb R w3 (setsP all k ++ p.sets) (behP all k ++ begB (setsP all k).length k p p.sets.length) (firP all k ++ (movL (setsP all k).length p.first ++ (if p.null then [(k : Int)] else []))) → PlK (w.heap.size + 1) pb R (k + 1) ts w3 (all.set k p)) := hid (fun p w3 hp h3 => by
          have hka : k < all.length := by rw [hK.out.len]; exact hlt
          obtain ⟨s1, s2, s3⟩ := places_step hka p
          refine ⟨by rw [List.length_set]; exact hK.out.len, fun i t' hi ht' => ?_, by rw [s1, s2, s3]; exact h3⟩
          by_cases e : i = k
          · subst e
            rw [set_at hka, show t' = t from by rw [hts] at ht'; injection ht' with ht'; exact ht'.symm]
            exact hp
          · rw [← (agr_set (a := all) (k := k) p).2 i (by omega)]
            exact hK.out.is i t' (by omega) ht')
        have GA := hid (fun rs rf rl rg fl w2 (h0 : Below wr.heap.size wr w2) (h1 : SpVF (fun k => k < wr.heap.size) w2 rs rf rl rg (spOf t fl)) (h2 : FolOK (FolS [t]) (nS [t]) fl) => addC (w.heap.size + 1) pb R wr.heap.size k F sv bv fv (setsP all k) gs (behP all k) (firP all k) (spOf t fl) rs rf rl rg w2 (hM.out.keep h0) h0.size hM.out.lt h1 (SpAt.sml ⟨fl, rfl, h2⟩ h60) hSl hgl (by omega) (by omega))
        have hshape : Hid (∀ u rs rf rl rg fl, SpVF (fun k => k < wr.heap.size) u rs rf rl rg (spOf t fl) → (∃ a c, rs = .slice a (setsS [t]).length c) ∧ (∃ a c, rf = .slice a (firstL t 0).length c) ∧ (∃ a c, rl = .slice a (lastL t 0).length c) ∧ (∃ a c, rg = .slice a fl.length c)) := hid (fun u rs rf rl rg fl h => by
          obtain ⟨a1, c1, e1, _⟩ := h.spv.sets
          obtain ⟨a2, c2, e2, _⟩ := h.spv.first
          obtain ⟨a3, c3, e3, _⟩ := h.spv.last
          obtain ⟨a4, c4, e4, _⟩ := h.spv.follow
          exact ⟨⟨a1, c1, e1⟩, ⟨a2, c2, e2⟩, ⟨a3, c3, e3⟩, ⟨a4, c4, e4⟩⟩)
        have hBs : w.heap.size + 1 ≤ wr.heap.size := by omega
        clear hob hfb hgl hSl hC hx hfit
        generalize hns : (setsS [t]).length = ns at hshape
        generalize hnf : (firstL t 0).length = nf at hshape
        generalize hnl : (lastL t 0).length = nl at hshape
        clear hns hnf hnl
        go_wp2_with (first
          | (go_at_call 48; refine GS.out.mono ?_; rintro z w1 ⟨rs, rf, rl, rg, fl, rfl, hV, hF, hb1⟩; have hF := hid hF; have hV := hid hV; obtain ⟨⟨ra, rc, rfl⟩, ⟨fa, fc, rfl⟩, ⟨la, lc, rfl⟩, ⟨ga, gc, rfl⟩⟩ := hshape.out _ _ _ _ _ _ hV.out; have hal1 := hid (al' w1 (.cells #[.slice ra ns rc, .bool t.null, .slice fa nf fc, .slice la nl lc, .slice ga fl.length gc] 91)); have G2 := hid (GA.out _ _ _ _ fl _ (bl_step hb1 hal1.out) (hV.out.keep hal1.out) hF.out))
          | (go_at_call 49; refine G2.out.mono ?_; rintro z w3 ⟨rfl, hX3, hb3⟩; have hK3 := hid (hnext.out (spOf t fl) w3 ⟨fl, rfl, hF.out⟩ hX3); have hb3' := hid (hbl.trans (((bl_step hb1 hal1.out).mono hBs).trans hb3))))
        go_roundw
        case rel => exact ⟨k + 1, _, by omega, by go_num, hK3, hb3'.out⟩
        case measure => simp [intOf]; omega
      · have hltz : ¬ (k : Int) < (R : Int) := by omega
        obtain rfl : k = R := by omega
        obtain ⟨F, sv, bv, fv, gs, hM⟩ := hK.out.pl
        have hM := hid hM
        have hAll : Hid (SpAll ts all) := hid ⟨by rw [hK.out.len, hR'.out], fun r hr => hK.out.is r _ (by rw [← hR'.out]; exact hr) (List.getElem?_eq_getElem hr)⟩
        have hfitA : Hid (∀ S ∈ setsP all all.length, Fit4 S) := hid (setsP_fit (L := []) hAll.out (fun t ht => by
          obtain ⟨j, hj, rfl⟩ := List.getElem_of_mem ht
          obtain ⟨_, _, _, t', _, _, _, _, _, _, hts', hf'⟩ := hat'.out j (by rw [← hR'.out]; exact hj)
          rw [List.getElem?_eq_getElem hj] at hts'
          injection hts' with hts'
          rw [hts']
          exact hf') all.length (Nat.le_refl _))
        have hal : Hid (all.length = k) := hid hK.out.len
        obtain ⟨sa, sc, rfl⟩ := own_shape hM.out.sets
        obtain ⟨ba, bc, rfl⟩ := own_shape hM.out.beh
        obtain ⟨fa, fc, rfl⟩ := own_shape hM.out.fir
        have hz1 := (hbl.block w.heap.size (by omega)).trans hz.out
        obtain ⟨c0, c1, c2, c3, -⟩ := cells4p hM.out.blk
        obtain ⟨x0, x1, x2, x3, y0, y1, y2, y3⟩ := cells4p hz1
        have hfb := putP4_blk (y0 := .int .i64 (k : Int)) (y1 := .slice sa (setsP all k).length sc) (y2 := .slice ba gs.length bc) (y3 := .slice fa (firP all k).length fc) hz1
        obtain ⟨r0, r1, r2, r3, -⟩ := cells4p hfb
        unfold putP4 at r0 r1 r2 r3
        have hKf : Hid (Kept (oneBlk w.heap.size) wr (putP4 wr w.heap.size (.int .i64 (k : Int)) (.slice sa (setsP all k).length sc) (.slice ba gs.length bc) (.slice fa (firP all k).length fc))) := hid (putP4_kept (Kept.refl _ _) rfl)
        have hend : Hid (∀ u, Kept (oneBlk w.heap.size) wr u → PlR ts u (.slice sa (setsP all k).length sc) (.slice ba gs.length bc) (.slice fa (firP all k).length fc) ∧ Below w.heap.size w u) := hid (fun u hu => by
          have huF : Kept F wr u := hu.mono fun j _ e => by have e' : j = w.heap.size := e; rw [e']; exact hM.out.low _ (by omega)
          refine ⟨⟨all, hAll.out, ?_, ?_, ?_⟩, hblw.out.trans (hu.below (fun j e => ?_) hblw.out.size)⟩
          · rw [hal.out]
            rw [hal.out] at hfitA
            exact Sets.of_own (own_kept hM.out.sets hu (fun j e e' => by have e2 : j = w.heap.size := e'; have := (hM.out.sets.lt j e).1; omega)) hfitA.out
          · rw [hal.out]
            exact numss_of (F := F) (own_kept hM.out.beh hu (fun j e e' => by have e2 : j = w.heap.size := e'; have := (hM.out.beh.lt j e).1; omega)) (hM.out.nums.kept huF)
          · rw [hal.out]
            exact Nums.of_row (own_kept hM.out.fir hu (fun j e e' => by have e2 : j = w.heap.size := e'; have := (hM.out.fir.lt j e).1; omega))
          · have e' : j = w.heap.size := e
            omega)
        clear hz1 hfb
        go_wp2
        obtain ⟨E1, E2⟩ := hend.out _ hKf.out
        exact bodyPost_ret (v := .tuple #[.agg #[.int .i64 (k : Int), .slice sa (setsP all k).length sc, .slice ba gs.length bc, .slice fa (firP all k).length fc], .int .i64 0]) (by simp [results, Tryz.results40, go_sem, r0, r1, r2, r3]) rfl ⟨_, _, _, rfl, E1, E2⟩

end Go.Proofs.YtjelgphhlcecoaaGreatDoor
namespace Go.Proofs.YtjelgphhlcecoaaGreatDoor
open Go.RowKit

/-- D: the blocks of the automaton; F: those of the states that were met -/
structure DfO (B db : Nat) (D F : Nat → Prop) (w : World) (nv av : Value) (vs : List Value) (N : List (List Int)) (A : List Int) : Prop where
  blk : w.heap[db]? = some (.cells #[nv, av] 25 (0, 0))
  nxt : w.ownsRow B 23 1 nv vs.length vs
  nF : ∀ k, nv.ownBlock = some k → D k ∧ k ≠ db ∧ av.ownBlock ≠ some k
  acc : Own w B av A
  aF : ∀ k, av.ownBlock = some k → D k ∧ k ≠ db
  nums : NumsF (fun k => D k ∨ F k) w vs N
  inD : D db
  lt : ∀ k, D k → k < w.heap.size
  apart : ∀ k, D k → ¬ F k
  base : B ≤ db
theorem DfO.size {B db : Nat} {D F : Nat → Prop} {w : World} {nv av : Value} {vs : List Value} {N : List (List Int)} {A : List Int} (h : DfO B db D F w nv av vs N A) : B ≤ w.heap.size := Nat.le_of_lt (Nat.lt_of_le_of_lt h.base (blk_lt h.blk))
theorem DfO.keep {B db : Nat} {D F : Nat → Prop} {w u : World} {nv av : Value} {vs : List Value} {N : List (List Int)} {A : List Int} (h : DfO B db D F w nv av vs N A) (hu : Below w.heap.size w u) : DfO B db D F u nv av vs N A :=
  ⟨hs_keep h.blk hu, own_below h.nxt hu, h.nF, own_below h.acc hu, h.aF, h.nums.kept (Kept.of_below hu), h.inD, fun k hk => Nat.lt_of_lt_of_le (h.lt k hk) hu.size, h.apart, h.base⟩
/-- lists that lay in w lie off what is new since then -/
theorem NumsF.off {F G : Nat → Prop} {w u : World} {vs : List Value} {ls : List (List Int)} (h : NumsF F u vs ls) (hG : ∀ k, G k → F k ∨ w.heap.size ≤ k) (h0 : NumsF F w vs ls) : NumsF G u vs ls :=
  ⟨h.1, fun j => ⟨(h.2 j).1, (h0.2 j).2.more (h0.2 j).1 hG⟩⟩
/-- the states that were met have changed -/
theorem DfO.moved {B db : Nat} {D F F' : Nat → Prop} {w u : World} {nv av : Value} {vs : List Value} {N : List (List Int)} {A : List Int} (h : DfO B db D F w nv av vs N A) (hu : Mvd F F' w u) : DfO B db D F' u nv av vs N A :=
  ⟨hu.kept.blk h.blk (h.apart _ h.inD), own_kept h.nxt hu.kept (fun k e => h.apart k (h.nF k e).1), h.nF, own_kept h.acc hu.kept (fun k e => h.apart k (h.aF k e).1), h.aF,
    (h.nums.kept (hu.kept.mono fun k _ e => Or.inr e)).off (fun k hk => by
      rcases hk with h1 | h1
      · exact Or.inl (Or.inl h1)
      · rcases hu.new k h1 with h2 | h2
        · exact Or.inl (Or.inr h2)
        · exact Or.inr h2) h.nums,
    h.inD, fun k hk => Nat.lt_of_lt_of_le (h.lt k hk) hu.kept.size, fun k hk hf => by
      rcases hu.new k hf with h2 | h2
      · exact h.apart k hk h2
      · have := h.lt k hk; omega, h.base⟩
/-- one row more -/
theorem DfO.addRow {B db : Nat} {D F : Nat → Prop} {u w' : World} {nv av v' x : Value} {vs : List Value} {N : List (List Int)} {A l : List Int} (h : DfO B db D F u nv av vs N A) (hFl : ∀ k, F k → k < u.heap.size) (hx : Nums u x l) (hxo : Off (fun k => D k ∨ F k) x)
    (ho : w'.ownsRow B 23 1 v' (vs.length + 1) (vs ++ [x])) (hg : u.grownBy w' nv.ownBlock) (hat : ∀ k, v'.ownBlock = some k → nv.ownBlock = some k ∨ u.heap.size ≤ k) :
    DfO B db (fun k => D k ∨ v'.ownBlock = some k) F (w'.setCell ⟨db, 0, none⟩ v') v' av (vs ++ [x]) (N ++ [l]) A ∧ Kept (fun k => D k) u (w'.setCell ⟨db, 0, none⟩ v') := by
  have hk := Kept.of_grown hg
  have hdb : ¬ nv.ownBlock = some db := fun e => (h.nF _ e).2.1 rfl
  have hb1 := hk.blk h.blk hdb
  have hpv : v'.ownBlock ≠ some db := fun e => by
    rcases hat _ e with h1 | h1
    · exact hdb h1
    · have := blk_lt h.blk; omega
  have hkD : Kept (fun k => D k) u (w'.setCell ⟨db, 0, none⟩ v') := (hk.mono fun k _ e => (h.nF k e).1).setCell fun _ => h.inD
  have hlen : (vs ++ [x]).length = vs.length + 1 := by simp
  refine ⟨⟨heap_setCell hb1, by rw [hlen]; exact own_set ho hpv, fun k e => ⟨Or.inr e, fun e' => hpv (by rw [← e']; exact e), fun e' => ?_⟩, own_set (own_kept h.acc hk fun k e e' => (h.nF k e').2.2 e) (fun e => (h.aF _ e).2 rfl), fun k e => ⟨Or.inl (h.aF k e).1, (h.aF k e).2⟩, ?_, Or.inl h.inD, fun k hk' => ?_, fun k hk' hf => ?_, h.base⟩, hkD⟩
  · rcases hat k e with h1 | h1
    · exact (h.nF k h1).2.2 e'
    · have := (h.acc.lt k e').2; omega
  · refine ((h.nums.snoc hx hxo).kept (hkD.mono fun k _ e => Or.inl e)).off (fun k hk' => ?_) (h.nums.snoc hx hxo)
    rcases hk' with (h1 | h1) | h1
    · exact Or.inl (Or.inl h1)
    · rcases hat k h1 with h2 | h2
      · exact Or.inl (Or.inl (h.nF k h2).1)
      · exact Or.inr h2
    · exact Or.inl (Or.inr h1)
  · rcases hk' with h1 | h1
    · exact Nat.lt_of_lt_of_le (h.lt k h1) hkD.size
    · have := (ho.lt k h1).2; simpa using this
  · rcases hk' with h1 | h1
    · exact h.apart k h1 hf
    · rcases hat k h1 with h2 | h2
      · exact h.apart k (h.nF k h2).1 hf
      · have := hFl k hf; omega
/-- one number more -/
theorem DfO.addAcc {B db : Nat} {D F : Nat → Prop} {u w' : World} {nv av v' : Value} {vs : List Value} {N : List (List Int)} {A A' : List Int} (h : DfO B db D F u nv av vs N A) (hFl : ∀ k, F k → k < u.heap.size)
    (ho : Own w' B v' A') (hg : u.grownBy w' av.ownBlock) (hat : ∀ k, v'.ownBlock = some k → av.ownBlock = some k ∨ u.heap.size ≤ k) :
    DfO B db (fun k => D k ∨ v'.ownBlock = some k) F (w'.setCell ⟨db, 1, none⟩ v') nv v' vs N A' ∧ Kept (fun k => D k) u (w'.setCell ⟨db, 1, none⟩ v') := by
  have hk := Kept.of_grown hg
  have hdb : ¬ av.ownBlock = some db := fun e => (h.aF _ e).2 rfl
  have hb1 := hk.blk h.blk hdb
  have hpv : v'.ownBlock ≠ some db := fun e => by
    rcases hat _ e with h1 | h1
    · exact hdb h1
    · have := blk_lt h.blk; omega
  have hkD : Kept (fun k => D k) u (w'.setCell ⟨db, 1, none⟩ v') := (hk.mono fun k _ e => (h.aF k e).1).setCell fun _ => h.inD
  refine ⟨⟨heap_setCell hb1, own_set (own_kept h.nxt hk fun k e e' => (h.nF k e).2.2 e') (fun e => (h.nF _ e).2.1 rfl), fun k e => ⟨Or.inl (h.nF k e).1, (h.nF k e).2.1, fun e' => ?_⟩, own_set ho hpv, fun k e => ⟨Or.inr e, fun e' => hpv (by rw [← e']; exact e)⟩, ?_, Or.inl h.inD, fun k hk' => ?_, fun k hk' hf => ?_, h.base⟩, hkD⟩
  · rcases hat k e' with h1 | h1
    · exact (h.nF k e).2.2 h1
    · have := (h.nxt.lt k e).2; omega
  · refine (h.nums.kept (hkD.mono fun k _ e => Or.inl e)).off (fun k hk' => ?_) h.nums
    rcases hk' with (h1 | h1) | h1
    · exact Or.inl (Or.inl h1)
    · rcases hat k h1 with h2 | h2
      · exact Or.inl (Or.inl (h.aF k h2).1)
      · exact Or.inr h2
    · exact Or.inl (Or.inr h1)
  · rcases hk' with h1 | h1
    · exact Nat.lt_of_lt_of_le (h.lt k h1) hkD.size
    · have := (ho.lt k h1).2; simpa using this
  · rcases hk' with h1 | h1
    · exact h.apart k h1 hf
    · rcases hat k h1 with h2 | h2
      · exact h.apart k (h.aF k h2).1 hf
      · have := hFl k hf; omega

end Go.Proofs.YtjelgphhlcecoaaGreatDoor
namespace Go.Proofs.YtjelgphhlcecoaaGreatDoor
open Go.RowKit

structure BldS (B mb mm db rb : Nat) (w0 w : World) (F D : Nat → Prop) (tv nv av pv : Value) (vs : List Value) (L : List Txt) (P : List W4) (N : List (List Int)) (A : List Int) : Prop where
  me : MeO B mb F w tv mm L
  df : DfO B db D F w nv av vs N A
  par : Sets w pv P
  pD : Off (fun k => D k ∨ F k) pv
  low : Below w0.heap.size w0 w
  fF : ∀ k, F k → w0.heap.size ≤ k
  dF : ∀ k, D k → w0.heap.size ≤ k
  offR : ∀ j, Off (oneBlk rb) (vs.getD j nilV)
theorem BldS.keep {B mb mm db rb : Nat} {w0 w u : World} {F D : Nat → Prop} {tv nv av pv : Value} {vs : List Value} {L : List Txt} {P : List W4} {N : List (List Int)} {A : List Int} (h : BldS B mb mm db rb w0 w F D tv nv av pv vs L P N A) (hu : Below w.heap.size w u) : BldS B mb mm db rb w0 u F D tv nv av pv vs L P N A :=
  ⟨h.me.keep hu, h.df.keep hu, h.par.keep hu, h.pD, bl_step h.low hu, h.fF, h.dF, h.offR⟩
theorem Off.sets {F G : Nat → Prop} {w : World} {v : Value} {l : List W4} (ho : Off F v) (h : Sets w v l) (hG : ∀ k, G k → F k ∨ w.heap.size ≤ k) : Off G v := fun ad n c e hn hg => by
  obtain ⟨a, cap, rfl, hc, hz, _, hat⟩ := h
  injection e with e1 e2 e3
  subst e1 e2
  obtain ⟨b, o, e, hlt, h1⟩ := hat 0 hn
  rcases hG _ hg with h | h
  · exact ho _ _ _ rfl hn h
  · cases e
    exact absurd hlt (Nat.not_lt.2 h)
/-- behind rowOf -/
theorem BldS.row1 {B mb mm db rb : Nat} {w0 w w1 : World} {F D : Nat → Prop} {tv nv av pv rv : Value} {vs : List Value} {L L1 : List Txt} {P : List W4} {N : List (List Int)} {A rw : List Int} (h : BldS B mb mm db rb w0 w F D tv nv av pv vs L P N A) (hrb : rb < w0.heap.size) (hres : RowRes B mb mm F w w1 L1 rv rw) :
    ∃ F1 tv1, BldS B mb mm db rb w0 w1 F1 D tv1 nv av pv vs L1 P N A ∧ Own w1 w.heap.size rv rw ∧ Off (fun k => D k ∨ F1 k) rv ∧ Off (oneBlk rb) rv := by
  obtain ⟨hO, F1, tv1, hm, hv, ho⟩ := hres
  have hbl : Below w0.heap.size w w1 := hv.kept.below h.fF h.low.size
  have hfresh : ∀ ad n c, rv = .slice (some ad) n c → w.heap.size ≤ ad.block := fun ad n c e => by
    rcases hO.2 with ⟨e0, _⟩ | ⟨g, cap, cur, e0, hb, _⟩
    · rw [e] at e0; cases e0
    · rw [e] at e0
      injection e0 with e1
      injection e1 with e1
      rw [e1]
      exact hb
  refine ⟨F1, tv1, ⟨hm, h.df.moved hv, h.par.kept hv.kept (fun ad n c e hn hf => h.pD ad n c e hn (Or.inr hf)), h.pD.sets h.par (fun k hk => ?_), h.low.trans hbl, fun k hk => ?_, h.dF, h.offR⟩, hO, fun ad n c e hn hf => ?_, fun ad n c e hn hf => ?_⟩
  · rcases hk with h1 | h1
    · exact Or.inl (Or.inl h1)
    · rcases hv.new k h1 with h2 | h2
      · exact Or.inl (Or.inr h2)
      · exact Or.inr h2
  · rcases hv.new k hk with h2 | h2
    · exact h.fF k h2
    · exact Nat.le_trans h.low.size h2
  · rcases hf with h1 | h1
    · have := h.df.lt _ h1
      have := hfresh ad n c e
      omega
    · exact ho ad n c e hn h1
  · have := hfresh ad n c e
    have e1 : ad.block = rb := hf
    have := h.low.size
    omega
/-- behind the append of a row -/
theorem BldS.row2 {B mb mm db rb : Nat} {w0 w w2 : World} {F D : Nat → Prop} {tv nv av pv x : Value} {vs : List Value} {L : List Txt} {P : List W4} {N : List (List Int)} {A l : List Int} (h : BldS B mb mm db rb w0 w F D tv nv av pv vs L P N A) (hx : Nums w x l) (hxo : Off (fun k => D k ∨ F k) x) (hxr : Off (oneBlk rb) x) {g cap : Nat}
    (ho : w2.ownsRow B 23 1 (.slice (some ⟨g, 0, none⟩) (vs.length + 1) cap) (vs.length + 1) (vs ++ [x])) (hg : w.grownBy w2 nv.ownBlock) (hat : nv.ownBlock = some g ∨ g = w.heap.size) :
    ∃ D2, BldS B mb mm db rb w0 (w2.setCell ⟨db, 0, none⟩ (.slice (some ⟨g, 0, none⟩) (vs.length + 1) cap)) F D2 tv (.slice (some ⟨g, 0, none⟩) (vs.length + 1) cap) av pv (vs ++ [x]) L P (N ++ [l]) A := by
  have hat' : ∀ k, (Value.slice (some ⟨g, 0, none⟩) (vs.length + 1) cap).ownBlock = some k → nv.ownBlock = some k ∨ w.heap.size ≤ k := fun k e => by
    have e1 : g = k := by injection e
    subst e1
    rcases hat with h1 | h1
    · exact Or.inl h1
    · exact Or.inr (by omega)
  obtain ⟨h1, h2⟩ := h.df.addRow h.me.lt hx hxo ho hg hat'
  have hbl : Below w0.heap.size w (w2.setCell ⟨db, 0, none⟩ (.slice (some ⟨g, 0, none⟩) (vs.length + 1) cap)) := h2.below h.dF h.low.size
  refine ⟨_, ⟨h.me.kept h2 (fun k hf hd => h.df.apart k hd hf), h1, h.par.kept h2 (fun ad n c e hn hd => h.pD ad n c e hn (Or.inl hd)), h.pD.sets h.par (fun k hk => ?_), h.low.trans hbl, h.fF, fun k hk => ?_, fun j => ?_⟩⟩
  · rcases hk with (h3 | h3) | h3
    · exact Or.inl (Or.inl h3)
    · rcases hat' k h3 with h4 | h4
      · exact Or.inl (Or.inl (h.df.nF k h4).1)
      · exact Or.inr h4
    · exact Or.inl (Or.inr h3)
  · rcases hk with h3 | h3
    · exact h.dF k h3
    · rcases hat' k h3 with h4 | h4
      · exact h.dF k (h.df.nF k h4).1
      · exact Nat.le_trans h.low.size h4
  · rw [getD_snoc]
    split
    · exact hxr
    · exact h.offR j
/-- behind the append of what a state accepts -/
theorem BldS.acc2 {B mb mm db rb : Nat} {w0 w w2 : World} {F D : Nat → Prop} {tv nv av pv : Value} {vs : List Value} {L : List Txt} {P : List W4} {N : List (List Int)} {A A' : List Int} (h : BldS B mb mm db rb w0 w F D tv nv av pv vs L P N A) {g n cap : Nat}
    (ho : Own w2 B (.slice (some ⟨g, 0, none⟩) n cap) A') (hg : w.grownBy w2 av.ownBlock) (hat : av.ownBlock = some g ∨ g = w.heap.size) :
    ∃ D2, BldS B mb mm db rb w0 (w2.setCell ⟨db, 1, none⟩ (.slice (some ⟨g, 0, none⟩) n cap)) F D2 tv nv (.slice (some ⟨g, 0, none⟩) n cap) pv vs L P N A' := by
  have hat' : ∀ k, (Value.slice (some ⟨g, 0, none⟩) n cap).ownBlock = some k → av.ownBlock = some k ∨ w.heap.size ≤ k := fun k e => by
    have e1 : g = k := by injection e
    subst e1
    rcases hat with h1 | h1
    · exact Or.inl h1
    · exact Or.inr (by omega)
  obtain ⟨h1, h2⟩ := h.df.addAcc h.me.lt ho hg hat'
  have hbl : Below w0.heap.size w (w2.setCell ⟨db, 1, none⟩ (.slice (some ⟨g, 0, none⟩) n cap)) := h2.below h.dF h.low.size
  refine ⟨_, ⟨h.me.kept h2 (fun k hf hd => h.df.apart k hd hf), h1, h.par.kept h2 (fun ad n c e hn hd => h.pD ad n c e hn (Or.inl hd)), h.pD.sets h.par (fun k hk => ?_), h.low.trans hbl, h.fF, fun k hk => ?_, h.offR⟩⟩
  · rcases hk with (h3 | h3) | h3
    · exact Or.inl (Or.inl h3)
    · rcases hat' k h3 with h4 | h4
      · exact Or.inl (Or.inl (h.df.aF k h4).1)
      · exact Or.inr h4
    · exact Or.inl (Or.inr h3)
  · rcases hk with h3 | h3
    · exact h.dF k h3
    · rcases hat' k h3 with h4 | h4
      · exact h.dF k (h.df.aF k h4).1
      · exact Nat.le_trans h.low.size h4
/-- the walk's letters: the states, the rows and what they accept -/
structure BldQ (mets : Nat → List Txt) (nxt : Nat → List (List Int)) (acc : Nat → List Int) (row : Nat → List Int) (an : Nat → Int) (T : Nat → Txt) : Prop where
  one : (mets 0).length = 1
  nxt0 : nxt 0 = []
  acc0 : acc 0 = []
  nxtS : ∀ n, nxt (n + 1) = nxt n ++ [row n]
  accS : ∀ n, acc (n + 1) = acc n ++ [an n]
  at' : ∀ n, n < (mets n).length → (mets (n + 1))[n]? = some (T n)
  mono : ∀ n, (mets n).length ≤ (mets (n + 1)).length
  more : ∀ n, (mets (n + 1)).length ≤ (mets n).length + 256
  rlen : ∀ n, (row n).length = 256
  nlen : ∀ n, (nxt n).length = n
  alen : ∀ n, (acc n).length = n

end Go.Proofs.YtjelgphhlcecoaaGreatDoor
