/- The example: the automaton of "ab" and "a". wakes. Layer 8's law: copied. -/
import Derived.Test.YtlpbeieljjgbaaaGreatDoorJ30
import Derived.Test.YtlpbeieljjgbaaaGreatDoorJ37
import Derived.Test.YtlpbeieljjgbaaaGreatDoorJ40
import Derived.Test.YtlpbeieljjgbaaaGreatDoorJ36
import Derived.Test.YtlpbeieljjgbaaaGreatDoorJ32
import Derived.Test.YtlpbeieljjgbaaaGreatDoorJ21
namespace Go.Proofs.YtlpbeieljjgbaaaGreatDoor
open Go.RowKit

/-- what a built automaton accepts -/
theorem rgtA_built {ts : List Rx} {all : List Sp} (R : RuS ts all) {n : Nat} (h : BldTo all n) : RgtA (nxtK all n) (accK all n) := by
  have H := nxtK_right R h.fin h.on h.pos
  have hl : (nxtK all n).length = n := nxtK_len all n
  have hl' : (accK all n).length = n := accK_len all n
  refine ⟨fun j hj => ?_, by rw [hl]; exact h.pos, by rw [hl]; exact h.le, by rw [hl, hl'], fun j hj => (H j (by rw [← hl']; exact hj)).2.1⟩
  rw [hl] at hj ⊢
  exact ⟨(H j hj).1, (H j hj).2.2⟩
theorem accB_built {ts : List Rx} {all : List Sp} (R : RuS ts all) {n : Nat} (h : BldTo all n) (s : Txt) : accB (nxtK all n) (accK all n) s = accG all n s := by
  have hr := rgtB_of (rgtA_built R h)
  have hin := goK_in (rgtA_built R h).rgt (rgtA_built R h).pos s s.length
  unfold accB accG
  rw [goB_yes hr]
  by_cases e : goK (nxtK all n) s s.length = -1
  · rw [if_pos e, if_pos (by omega)]
  · rw [if_neg e, if_neg (by omega)]
theorem rowK_dead {all : List Sp} {st : St} {S : List St} : ∀ b, (∀ c, c < b → byS all st c = []) → (rowK all st S b).1 = S
  | 0, _ => rfl
  | b + 1, h => by rw [rowK_met1, h b (by omega), metS_nil, rowK_dead b fun c hc => h c (by omega)]
theorem rowK_once {all : List Sp} {st to : St} {S : List St} {x : Nat} (h1 : byS all st x = to) (h2 : to ≠ []) (h3 : ¬ to ∈ S) : ∀ b, x < b → (∀ c, c < b → c ≠ x → byS all st c = []) → (rowK all st S b).1 = S ++ [to]
  | 0, hb, _ => by omega
  | b + 1, hb, h => by
    rw [rowK_met1]
    by_cases e : b = x
    · subst e
      rw [rowK_dead b fun c hc => h c (by omega) (by omega), h1, metS_new h2 h3]
    · rw [rowK_once h1 h2 h3 b (by omega) fun c hc hne => h c (by omega) hne, h b (by omega) e, metS_nil]
def wkA : Rx := .set (spanB 97 97)
def wkAB : Rx := .cat (.set (spanB 97 97)) (.set (spanB 98 98))
theorem wkAB_reads : rowsP [97, 98] = some (wkAB, []) := by rfl
theorem wkA_reads : rowsP [97] = some (wkA, []) := by rfl
theorem wkA_ok : wkA.ok := (rowsP_good wkA_reads).1
theorem wkAB_ok : wkAB.ok := (rowsP_good wkAB_reads).1
theorem wkAB_fol : FolOK (FolS [wkAB]) (nS [wkAB]) [[1], []] where
  len := rfl
  up := fun j hj => by
    have h2 : j < 2 := hj
    match j, h2 with
    | 0, _ => exact List.pairwise_singleton _ _
    | 1, _ => exact List.Pairwise.nil
  mem := fun j x hj => by
    have h2 : j < 2 := hj
    match j, h2 with
    | 0, _ => simp [FolS, Fol, wkAB, nS, nSets, Lst, Fst]
    | 1, _ => simp [FolS, Fol, wkAB, nS, nSets, Lst, Fst]
theorem wkA_fol : FolOK (FolS [wkA]) (nS [wkA]) [[]] where
  len := rfl
  up := fun j hj => by
    have h2 : j < 1 := hj
    match j, h2 with
    | 0, _ => exact List.Pairwise.nil
  mem := fun j x hj => by
    have h2 : j < 1 := hj
    match j, h2 with
    | 0, _ => simp [FolS, Fol, wkA, nS]
def wkAll : List Sp := [⟨[spanB 97 97, spanB 98 98], false, [0], [1], [[1], []]⟩, ⟨[spanB 97 97], false, [0], [0], [[]]⟩]
theorem wkAB_sp : spOf wkAB [[1], []] = ⟨[spanB 97 97, spanB 98 98], false, [0], [1], [[1], []]⟩ := by
  have e1 : firstL wkAB 0 = [0] := by simp [wkAB, firstL, Rx.null]
  have e2 : lastL wkAB 0 = [1] := by simp [wkAB, lastL, Rx.null, nSets]
  unfold spOf
  rw [e1, e2]
  rfl
theorem wkA_sp : spOf wkA [[]] = ⟨[spanB 97 97], false, [0], [0], [[]]⟩ := by
  have e1 : firstL wkA 0 = [0] := by simp [wkA, firstL]
  have e2 : lastL wkA 0 = [0] := by simp [wkA, lastL]
  unfold spOf
  rw [e1, e2]
  rfl
theorem wk_all : SpAll [wkAB, wkA] wkAll where
  len := rfl
  is := fun r hr => by
    have h2 : r < 2 := hr
    match r, h2 with
    | 0, _ => exact ⟨_, wkAB_sp.symm, wkAB_fol⟩
    | 1, _ => exact ⟨_, wkA_sp.symm, wkA_fol⟩
theorem wk_60 : ∀ t ∈ [wkAB, wkA], (post t).length ≤ 60 := by
  intro t ht
  rcases List.mem_cons.1 ht with rfl | ht
  · decide
  · rcases List.mem_cons.1 ht with rfl | ht
    · decide
    · cases ht
theorem wk_first : firstS wkAll 2 = [0, 1000] := by simp [firstS, oneS, wideL, wkAll]
theorem wk_s0 (b : Nat) (hb : b < 256) : byS wkAll [0, 1000] b = if b = 97 then [1, 1999] else [] := by
  have h0 : byOne wkAll b (enc 0 0) = if b = 97 then [1] else [] := by
    rw [byOne_eq wkAll b 0 0 (by omega)]
    simp [wkAll, span_has 97 b hb, wideL]
  have h1 : byOne wkAll b (enc 1 0) = if b = 97 then [1999] else [] := by
    rw [byOne_eq wkAll b 1 0 (by omega)]
    simp [wkAll, span_has 97 b hb, wideL]
  have e : byS wkAll [0, 1000] b = ofL (byOne wkAll b (enc 0 0) ++ byOne wkAll b (enc 1 0)) := by simp [byS, enc]
  rw [e, h0, h1]
  split
  · exact ofL_self (by simp [Up])
  · rfl
theorem wk_s1 (b : Nat) (hb : b < 256) : byS wkAll [1, 1999] b = if b = 98 then [999] else [] := by
  have h0 : byOne wkAll b (enc 0 1) = if b = 98 then [999] else [] := by
    rw [byOne_eq wkAll b 0 1 (by omega)]
    simp [wkAll, span_has 98 b hb, wideL]
  have h1 : byOne wkAll b (enc 1 999) = [] := byOne_end wkAll b 1
  have e : byS wkAll [1, 1999] b = ofL (byOne wkAll b (enc 0 1) ++ byOne wkAll b (enc 1 999)) := by simp [byS, enc]
  rw [e, h0, h1]
  split
  · exact ofL_self (by simp [Up])
  · rfl
theorem wk_s2 (b : Nat) : byS wkAll [999] b = [] := by
  have h1 : byOne wkAll b (enc 0 999) = [] := byOne_end wkAll b 0
  have e : byS wkAll [999] b = ofL (byOne wkAll b (enc 0 999)) := by simp [byS, enc]
  rw [e, h1]
  rfl
theorem wk_0 : stsK wkAll 0 = [[0, 1000]] := by
  rw [stsK, show wkAll.length = 2 from rfl, wk_first]
theorem wk_1 : stsK wkAll 1 = [[0, 1000], [1, 1999]] := by
  have e : stsK wkAll 1 = (rowK wkAll [0, 1000] [[0, 1000]] 256).1 := by rw [stsK, wk_0]; rfl
  rw [e, rowK_once (x := 97) (to := [1, 1999]) (by rw [wk_s0 97 (by omega), if_pos rfl]) (by simp) (by decide) 256 (by omega) (fun c hc hne => by rw [wk_s0 c hc, if_neg hne])]
  rfl
theorem wk_2 : stsK wkAll 2 = [[0, 1000], [1, 1999], [999]] := by
  have e : stsK wkAll 2 = (rowK wkAll [1, 1999] [[0, 1000], [1, 1999]] 256).1 := by rw [stsK, wk_1]; rfl
  rw [e, rowK_once (x := 98) (to := [999]) (by rw [wk_s1 98 (by omega), if_pos rfl]) (by simp) (by decide) 256 (by omega) (fun c hc hne => by rw [wk_s1 c hc, if_neg hne])]
  rfl
theorem wk_3 : stsK wkAll 3 = [[0, 1000], [1, 1999], [999]] := by
  have e : stsK wkAll 3 = (rowK wkAll [999] [[0, 1000], [1, 1999], [999]] 256).1 := by rw [stsK, wk_2]; rfl
  rw [e, rowK_dead 256 (fun c _ => wk_s2 c)]
theorem wk_to : BldTo wkAll 3 where
  on := fun j hj => by
    match j, hj with
    | 0, _ => rw [wk_0]; decide
    | 1, _ => rw [wk_1]; decide
    | 2, _ => rw [wk_2]; decide
  few := fun j hj => by
    match j, hj with
    | 0, _ => rw [wk_0]; decide
    | 1, _ => rw [wk_1]; decide
    | 2, _ => rw [wk_2]; decide
    | 3, _ => rw [wk_3]; decide
  fin := by rw [wk_3]; rfl
theorem mat_len_set {S : W4} {s : Txt} (h : Mat (.set S) s) : ∃ c : UInt8, s = [c] ∧ hasB S c.toNat = true := by
  cases h with
  | set h => exact ⟨_, rfl, h⟩
theorem wk_no (s : Txt) (h : s.length ≠ 2) : ¬ Mat wkAB s := by
  intro hm
  cases hm with
  | cat h1 h2 =>
    obtain ⟨c, rfl, _⟩ := mat_len_set h1
    obtain ⟨d, rfl, _⟩ := mat_len_set h2
    exact h rfl
theorem wk_acc1 : accB (nxtK wkAll 3) (accK wkAll 3) [97] = 1 := by
  have R := wk_all.ru wk_60
  rw [accB_built R wk_to]
  refine accG_some R wk_to.fin wk_to.on [97] (r := 1) (by decide) ?_ (fun r' h' hr' => ?_)
  · exact Mat.set (by rw [span_has 97 _ (by decide)]; decide)
  · have : r' = 0 := by omega
    subst this
    exact wk_no _ (by decide)
theorem wk_acc0 : accB (nxtK wkAll 3) (accK wkAll 3) [97, 98] = 0 := by
  have R := wk_all.ru wk_60
  rw [accB_built R wk_to]
  refine accG_some R wk_to.fin wk_to.on [97, 98] (r := 0) (by decide) ?_ (fun r' h' hr' => by omega)
  exact Mat.cat (s := [97]) (t := [98]) (Mat.set (by rw [span_has 97 _ (by decide)]; decide)) (Mat.set (by rw [span_has 98 _ (by decide)]; decide))
theorem wk_accN : accB (nxtK wkAll 3) (accK wkAll 3) [98] = -1 := by
  have R := wk_all.ru wk_60
  rw [accB_built R wk_to]
  refine accG_none R wk_to.fin wk_to.on [98] (fun r hr => ?_)
  have h2 : r < 2 := hr
  match r, h2 with
  | 0, _ => exact wk_no _ (by decide)
  | 1, _ =>
    intro hm
    obtain ⟨c, e, hc⟩ := mat_len_set hm
    injection e with e
    rw [← e, span_has 97 _ (by decide)] at hc
    exact absurd hc (by decide)

end Go.Proofs.YtlpbeieljjgbaaaGreatDoor
namespace Go.Proofs.YtlpbeieljjgbaaaGreatDoor
open Go.RowKit

theorem celss_two (w : World) (v1 v2 : Value) (l1 l2 : List Cel) (h1 : Cels w v1 l1) (h2 : Cels w v2 l2) : Celss (w.alloc (.cells #[v1, v2] 41)) (.slice (some ⟨w.heap.size, 0, none⟩) 2 2) [l1, l2] := by
  have hb := heap_new w (.cells #[v1, v2] 41)
  have hal := al' w (.cells #[v1, v2] 41)
  refine ⟨_, 2, rfl, Nat.le_refl _, fun h => (by cases h), fun j hj => ?_⟩
  have h2' : j < 2 := hj
  match j, h2' with
  | 0, _ => exact ⟨w.heap.size, 0, v1, rfl, blk_lt hb, blk_cell hb rfl, h1.keep hal⟩
  | 1, _ => exact ⟨w.heap.size, 0, v2, rfl, blk_lt hb, blk_cell hb rfl, h2.keep hal⟩
theorem wk_oks : ∀ t ∈ [wkAB, wkA], t.ok ∧ (post t).length ≤ 60 := by
  intro t ht
  refine ⟨?_, wk_60 t ht⟩
  rcases List.mem_cons.1 ht with rfl | ht
  · exact wkAB_ok
  · rcases List.mem_cons.1 ht with rfl | ht
    · exact wkA_ok
    · cases ht
set_option maxRecDepth 20000 in
set_option maxHeartbeats 4000000 in
theorem wakes8 (w : World) (hT : Tab w) : Calls Tryz.prog 8 #[] w fun e w' => e = .returned (.bool true) ∧ Below w.heap.size w w' := by
  have G1 := hid (parseGood [97, 98] wkAB w (by decide) wkAB_reads (by decide))
  have G2 := hid (fun u => parseGood [97] wkA u (by decide) wkA_reads (by decide))
  have GB := hid (fun v u h (ht : Tab u) => buildGood v [wkAB, wkA] u h (by decide) wk_oks ht)
  have hans : Hid (∀ u nv av er, BldR [wkAB, wkA] u nv av er → er = 0 ∧ Numss u nv (nxtK wkAll 3) ∧ Nums u av (accK wkAll 3)) := hid (fun u nv av er h => by
    obtain ⟨all, hAll, h⟩ := h
    have e := hAll.uniq wk_all
    subst e
    rcases h with ⟨h1, n, h2, h3, h4⟩ | ⟨_, _, _, h2⟩
    · have e := h2.uniq wk_to
      subst e
      exact ⟨h1, h3, h4⟩
    · exact absurd h2 wk_to.not_full)
  have GA := hid (fun nv av s u (h1 : Numss u nv (nxtK wkAll 3)) (h2 : Nums u av (accK wkAll 3)) (hs : s.length ≤ 100000) => acceptsD nv av (nxtK wkAll 3) (accK wkAll 3) s u h1 h2 (by rw [nxtK_len]; omega) hs)
  have hT' := hid hT
  have A1 := hid wk_acc1
  have A0 := hid wk_acc0
  have AN := hid wk_accN
  have hnl : Hid ((nxtK wkAll 3).length = 3) := hid (nxtK_len _ _)
  have hal : Hid ((accK wkAll 3).length = 3) := hid (accK_len _ _)
  clear hT
  generalize nxtK wkAll 3 = N at *
  generalize accK wkAll 3 = A at *
  have GA1 : Hid (∀ nv av u, Numss u nv N → Nums u av A → Calls Tryz.prog 12 #[.agg #[nv, av], .string ⟨#[97]⟩] u fun e w' => e = .returned (.int .i64 1) ∧ Below u.heap.size u w') := hid (fun nv av u h1 h2 => by
    have := GA.out nv av [97] u h1 h2 (by decide)
    rw [A1.out] at this
    exact this)
  have GA0 : Hid (∀ nv av u, Numss u nv N → Nums u av A → Calls Tryz.prog 12 #[.agg #[nv, av], .string ⟨#[97, 98]⟩] u fun e w' => e = .returned (.int .i64 0) ∧ Below u.heap.size u w') := hid (fun nv av u h1 h2 => by
    have := GA.out nv av [97, 98] u h1 h2 (by decide)
    rw [A0.out] at this
    exact this)
  have GAN : Hid (∀ nv av u, Numss u nv N → Nums u av A → Calls Tryz.prog 12 #[.agg #[nv, av], .string ⟨#[98]⟩] u fun e w' => e = .returned (.int .i64 (-1)) ∧ Below u.heap.size u w') := hid (fun nv av u h1 h2 => by
    have := GA.out nv av [98] u h1 h2 (by decide)
    rw [AN.out] at this
    exact this)
  go_enter Tryz.func8, Tryz.ntmps8
  go_wp2_with (first
    | (go_at_call_of 21 (Value.string ⟨#[97]⟩); refine (G2.out w1).mono ?_; rintro e w2 ⟨v2, rfl, hc2, hb2⟩; obtain ⟨va2, vc2, rfl⟩ := hc2.shape; have hC2 := hid (celss_two w2 _ _ _ _ (hc1.keep hb2) hc2); have h02 := hid (bl_step (bl_step hb1 hb2) (al' w2 (.cells #[.slice va1 (post wkAB).length vc1, .slice va2 (post wkA).length vc2] 41))))
    | (go_at_call 21; refine G1.out.mono ?_; rintro e w1 ⟨v1, rfl, hc1, hb1⟩; obtain ⟨va1, vc1, rfl⟩ := hc1.shape)
    | (go_at_call 15; refine (GB.out _ _ hC2.out (hT'.out.keep h02.out)).mono ?_; rintro e w3 ⟨nv, av, er, rfl, hR, hb3⟩; obtain ⟨rfl, hN, hA⟩ := hans.out _ _ _ _ hR; obtain ⟨na, nc, rfl⟩ : (∃ a c, nv = .slice a 3 c) := (by obtain ⟨a, c, e0, _⟩ := hN; rw [hnl.out] at e0; exact ⟨a, c, e0⟩); obtain ⟨aa, ac, rfl⟩ : (∃ a c, av = .slice a 3 c) := (by obtain ⟨a, c, e0, _⟩ := hA; rw [hal.out] at e0; exact ⟨a, c, e0⟩); have hN := hid hN; have hA := hid hA; have hb3 := hid hb3; have hal3 := hid (al' w3 (.cells #[.slice na 3 nc, .slice aa 3 ac] 25)); have hbk := hid (heap_new w3 (.cells #[.slice na 3 nc, .slice aa 3 ac] 25)))
    | (go_at_call 12; refine (GAN.out _ _ w5 (hN.out.keep h35.out) (hA.out.keep h35.out)).mono ?_; rintro e w6 ⟨rfl, hb6⟩)
    | (go_at_call 12; refine (GA0.out _ _ w4 (hN.out.keep h34.out) (hA.out.keep h34.out)).mono ?_; rintro e w5 ⟨rfl, hb5⟩; have h35 := hid (bl_step h34.out hb5); obtain ⟨p0, p1, -⟩ := cells2m (hs_keep hbk.out (bl_step hb4 hb5)))
    | (go_at_call 12; refine (GA1.out _ _ _ (hN.out.keep hal3.out) (hA.out.keep hal3.out)).mono ?_; rintro e w4 ⟨rfl, hb4⟩; have h34 := hid (bl_step hal3.out hb4); obtain ⟨q0, q1, -⟩ := cells2m (hs_keep hbk.out hb4)))
  go_ret
  exact ⟨rfl, bl_step (bl_step (bl_step h02.out hb3.out) h35.out) hb6⟩

end Go.Proofs.YtlpbeieljjgbaaaGreatDoor
namespace Go.Proofs.YtlpbeieljjgbaaaGreatDoor
open Go.RowKit

theorem Cels.kept {F : Nat → Prop} {w w' : World} {v : Value} {l : List Cel} (h : Cels w v l) (hk : Kept F w w') (ho : Off F v) : Cels w' v l := by
  obtain ⟨a, cap, rfl, hc, hn, hf, hat⟩ := h
  refine ⟨a, cap, rfl, hc, hn, hf, fun j hj => ?_⟩
  obtain ⟨b, o, rfl, hlt, h5⟩ := hat j hj
  have hn : ¬ F b := ho _ _ _ rfl (by omega)
  exact ⟨b, o, rfl, Nat.lt_of_lt_of_le hlt hk.size, at5_of fun i hi => hk.cell (h5.word i hi) hlt hn⟩
/-- lists of cells, each apart -/
def CelF (F : Nat → Prop) (w : World) (vs : List Value) (L : List (List Cel)) : Prop := vs.length = L.length ∧ ∀ j, Cels w (vs.getD j nilV) (L.getD j []) ∧ Off F (vs.getD j nilV)
theorem CelF.nil (F : Nat → Prop) (w : World) : CelF F w [] [] := ⟨rfl, fun _ => ⟨⟨none, 0, rfl, Nat.le_refl _, fun _ => rfl, fun _ hS => absurd hS (List.not_mem_nil), fun _ hj => absurd hj (Nat.not_lt_zero _)⟩, Off.nil F⟩⟩
theorem celss_of {F : Nat → Prop} {w : World} {B : Nat} {v : Value} {vs : List Value} {L : List (List Cel)} (h : w.ownsRow B 41 1 v vs.length vs) (hn : CelF F w vs L) : Celss w v L := by
  have h' := h
  have hl := hn.1
  rcases h.2 with ⟨rfl, h0⟩ | ⟨g, cap, cur, rfl, _, _, hc, _⟩
  · have e : L.length = 0 := by omega
    exact ⟨none, 0, by rw [e], by omega, fun _ => rfl, fun j hj => by omega⟩
  · refine ⟨_, cap, by rw [hl], by omega, (fun h => by cases h), fun j hj => ⟨g, 0, vs.getD j nilV, rfl, (h'.lt g rfl).2, ?_, ?_⟩⟩
    · rw [Nat.zero_add, h'.cellAt j (by omega), List.getD_eq_getElem?_getD, List.getElem?_eq_getElem (by omega)]
      rfl
    · have := (hn.2 j).1
      rwa [List.getD_eq_getElem?_getD (l := L), List.getElem?_eq_getElem hj] at this
theorem Off.cels {F G : Nat → Prop} {w : World} {v : Value} {l : List Cel} (ho : Off F v) (h : Cels w v l) (hG : ∀ k, G k → F k ∨ w.heap.size ≤ k) : Off G v := fun ad n c e hn hg => by
  obtain ⟨a, cap, rfl, hc, hz, _, hat⟩ := h
  injection e with e1 e2 e3
  subst e1 e2
  obtain ⟨b, o, e, hlt, h1⟩ := hat 0 hn
  rcases hG _ hg with h | h
  · exact ho _ _ _ rfl hn h
  · cases e
    exact absurd hlt (Nat.not_lt.2 h)
/-- one list more: the row may have moved -/
theorem CelF.snoc {F : Nat → Prop} {u w' : World} {v v' x : Value} {vs : List Value} {L : List (List Cel)} {l : List Cel} (h : CelF F u vs L) (hx : Cels u x l) (hxo : Off F x) (hg : u.grownBy w' v.ownBlock) (hv : ∀ k, v.ownBlock = some k → F k) (hat : ∀ k, v'.ownBlock = some k → v.ownBlock = some k ∨ u.heap.size ≤ k) :
    CelF (fun k => v'.ownBlock = some k) w' (vs ++ [x]) (L ++ [l]) := by
  have hk : Kept F u w' := (Kept.of_grown hg).mono fun k _ e => hv k e
  have hG : ∀ k, v'.ownBlock = some k → F k ∨ u.heap.size ≤ k := fun k e => by
    rcases hat k e with h1 | h1
    · exact Or.inl (hv k h1)
    · exact Or.inr h1
  refine ⟨by simp [h.1], fun j => ?_⟩
  rw [getD_snoc, getD_snoc, h.1]
  split
  · exact ⟨hx.kept hk hxo, hxo.cels hx hG⟩
  · exact ⟨(h.2 j).1.kept hk (h.2 j).2, (h.2 j).2.cels (h.2 j).1 hG⟩
set_option maxRecDepth 20000 in
theorem Tryz.infoCs : (Tryz.prog.info? 41).map (fun i => (i.zero, i.size, i.bytes)) = some (some (.slice none 0 0), 1, 24) := by kernel_rfl
set_option maxRecDepth 20000 in
set_option maxHeartbeats 4000000 in
theorem copiedC (v : Value) (L : List (List Cel)) (w : World) (hA : Celss w v L) (hL : L.length ≤ 100) (hl : ∀ l ∈ L, l.length ≤ 1000) :
    Calls Tryz.prog 16 #[v] w fun e w' => ∃ v', e = .returned v' ∧ Celss w' v' L ∧ Below w.heap.size w w' := by
  obtain ⟨aa, ca, rfl, _, _, hA⟩ := hA
  have hA' := hid hA
  have hl' := hid hl
  obtain ⟨i0, hi, hz0, hz1, hz2⟩ := info_parts Tryz.infoCs
  clear hA hl
  go_enter Tryz.func16, Tryz.ntmps16
  go_wp2
  go_loopw [3, 7] (fun v i wr => ∃ (k : Nat) (vs : List Value), k ≤ L.length ∧ i = .int .i64 k ∧ Hid (wr.ownsRow w.heap.size 41 1 v vs.length vs) ∧ Hid (CelF (fun k => v.ownBlock = some k) wr vs (L.take k)) ∧ Below w.heap.size w wr) (fun _ i _ => L.length - (intOf i).toNat)
  case atStart => exact ⟨0, [], Nat.zero_le _, rfl, hid (World.ownsRow_nil _ _ _ _), hid (by rw [List.take_zero]; exact CelF.nil _ _), Below.refl _ w⟩
  case round =>
    obtain ⟨k, vs, hk, rfl, hO, hC, hbl⟩ := hrel
    have hsz := hbl.size
    by_cases hlt : k < L.length
    · have hltz : (k : Int) < (L.length : Int) := by omega
      obtain ⟨b1, o1, x, rfl, hb1, hx, hCx⟩ := hA'.out k hlt
      have hx1 := keep_cell hbl hx
      have hb1r : b1 < wr.heap.size := by omega
      have hb1n : b1 ≠ wr.heap.size := by omega
      have hvl : vs.length ≤ 100 := by rw [hC.out.1, List.length_take]; omega
      have hll := hl'.out L[k] (List.getElem_mem hlt)
      have htk := hid (List.take_succ_eq_append_getElem hlt)
      have hE := hid (OwnC.lit0 wr)
      have hale := hid (al' wr (.cells #[] 92))
      have hCx1 := hid ((hCx.keep hbl).keep hale.out)
      have hfit := hid (show ∀ c ∈ L[k], FitC c from by obtain ⟨_, _, _, _, _, h, _⟩ := hCx; exact h)
      obtain ⟨va, vc, rfl⟩ := own_shape hO.out
      obtain ⟨xa, xc, rfl⟩ : ∃ a c, x = .slice a L[k].length c := by obtain ⟨a, c, e, _⟩ := hCx; exact ⟨a, c, e⟩
      clear hx hCx
      generalize L[k] = l at *
      go_wp2_with (first
        | (at_builtin; refine wpList_append_lies _ (by rfl) _ _ _ (by rfl) w.heap.size 41 i0 (.slice none 0 0) 1 24 Tryz.underlying31 hi hz0 hz1 hz2 rfl (by decide) (.slice va vs.length vc) vs.length vs (by rfl) hO2.out ⟨w2.heap.size, 0, none⟩ 1 1 [.slice ya l.length yc] (by rfl) (by rfl) (World.news_of_block (heap_new w2 (.cells #[.slice ya l.length yc] 41))) (by simp [Value.oneCell']) (by omega) (by (unfold maxLen); omega) (by omega) (by (have := hb2w.out.size); simp; omega) (World.heap (w2.alloc (.cells #[.slice ya l.length yc] 41))).size rfl ?_; intro g3 c3 w3 hown3 hgrow3 hat3 hlt3)
        | (at_builtin; refine wp_app5 _ rfl _ _ rfl wr.heap.size [] l _ _ rfl rfl hE.out hCx1.out (by simp; omega) (by simp) ?_; intro v2 w2 hOc hb2; have hOc : OwnC w2 wr.heap.size v2 l := hOc; obtain ⟨ya, yc, rfl⟩ := own_shape hOc; have hOc := hid hOc; have hb2w := hid (bl_step hbl (hale.out.trans hb2)); have hal2 := hid (al' w2 (.cells #[.slice ya l.length yc] 41)); have hrw : Hid (Below wr.heap.size wr w2) := hid (hale.out.trans hb2); have hO2 := hid (own_below (own_below hO.out hrw.out) hal2.out)))
      have hat' : ∀ j, (Value.slice (some ⟨g3, 0, none⟩) (vs.length + 1) c3).ownBlock = some j → (Value.slice va vs.length vc).ownBlock = some j ∨ (w2.alloc (.cells #[.slice ya l.length yc] 41)).heap.size ≤ j := fun j e0 => by
        have e1 : g3 = j := by injection e0
        subst e1
        rcases hat3 with h1 | h1
        · exact Or.inl h1
        · exact Or.inr (by omega)
      have hC2 : CelF (fun j => (Value.slice va vs.length vc).ownBlock = some j) (w2.alloc (.cells #[.slice ya l.length yc] 41)) vs (L.take k) := ⟨hC.out.1, fun j => ⟨((hC.out.2 j).1.keep hrw.out).keep hal2.out, (hC.out.2 j).2⟩⟩
      have hxo : Off (fun j => (Value.slice va vs.length vc).ownBlock = some j) (.slice ya l.length yc) := off_row hOc.out (fun j e0 => (hO.out.lt j e0).2)
      have hC3 := hC2.snoc (v' := .slice (some ⟨g3, 0, none⟩) (vs.length + 1) c3) ((Cels.of_own hOc.out hfit.out).keep hal2.out) hxo hgrow3 (fun j e0 => e0) hat'
      have hC3 := hid hC3
      have hb3 : Below w.heap.size w w3 := (bl_step hb2w.out hal2.out).trans ((Kept.of_grown hgrow3).below (fun j e0 => (hO.out.lt j e0).1) (by have := (bl_step hb2w.out hal2.out).size; exact this))
      go_roundw
      case rel => exact ⟨k + 1, vs ++ [.slice ya l.length yc], by omega, by go_num, hid (by rw [List.length_append]; exact hown3), by rw [htk.out]; exact hC3, hb3⟩
      case measure => simp [intOf]; omega
    · have hltz : ¬ (k : Int) < (L.length : Int) := by omega
      have hC1 : Celss wr u3 L := by
        have := celss_of hO.out hC.out
        rwa [List.take_of_length_le (by omega)] at this
      have hC1 := hid hC1
      go_wp2
      go_ret
      exact ⟨_, rfl, hC1.out, hbl⟩

end Go.Proofs.YtlpbeieljjgbaaaGreatDoor
