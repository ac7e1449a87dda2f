/- topiarylaw09.built, of the example's texts. small.Make: which number the map tells of each kind. small.Make: the map of kinds beside the states that were met. small.Make. -/
import Derived.Test.YtjelgphhlcecoaaGreatDoorJ34
import Derived.Test.YtjelgphhlcecoaaGreatDoorJ29
import Derived.Test.YtjelgphhlcecoaaGreatDoorJ31
import Derived.Deep.QuietTactic
namespace Go.Proofs.YtjelgphhlcecoaaGreatDoor
open Go.RowKit

/-- numbers do not lie in a block of two slices -/
theorem nums_off {w : World} {v x0 x1 : Value} {l : List Int} {rb : Nat} {T : TypeId} (h : Nums w v l) (hr : w.heap[rb]? = some (.cells #[x0, x1] T (0, 0))) (h0 : ∀ k n, x0 ≠ .int k n) (h1 : ∀ k n, x1 ≠ .int k n) : Off (oneBlk rb) v := fun ad n c e hn hf => by
  obtain ⟨a, cap, e2, hc, hz, hat⟩ := h
  rw [e] at e2
  injection e2 with e3 e4 e5
  subst e4
  obtain ⟨b, o, e6, hlt, hcell⟩ := hat 0 hn
  rw [← e3] at e6
  injection e6 with e6
  subst e6
  have hb : b = rb := hf
  subst hb
  have hb2 : w.cell? ⟨b, o + 0, none⟩ = #[x0, x1][o]? := by simp [World.cell?, hr]
  rw [hb2] at hcell
  match o, hcell with
  | 0, hcell => injection hcell with hcell; exact h0 _ _ hcell
  | 1, hcell => injection hcell with hcell; exact h1 _ _ hcell
  | o + 2, hcell => simp at hcell
theorem numss_set {w w' : World} {v x0 x1 : Value} {N : List (List Int)} {rb : Nat} {T : TypeId} (h : Numss w v N) (hl : 2 < N.length) (hr : w.heap[rb]? = some (.cells #[x0, x1] T (0, 0))) (h0 : ∀ k n, x0 ≠ .int k n) (h1 : ∀ k n, x1 ≠ .int k n) (hk : Kept (oneBlk rb) w w') : Numss w' v N := by
  obtain ⟨a, cap, rfl, hc, hz, hat⟩ := h
  refine ⟨a, cap, rfl, hc, hz, fun j hj => ?_⟩
  obtain ⟨b, o, x, rfl, hlt, h2, h3⟩ := hat j hj
  have hb : ¬ oneBlk rb b := fun e => by
    have e1 : b = rb := e
    subst e1
    obtain ⟨b', o', x', e', _, h4, _⟩ := hat 2 hl
    cases e'
    have hb2 : w.cell? ⟨b, o + 2, none⟩ = #[x0, x1][o + 2]? := by simp [World.cell?, hr]
    rw [hb2] at h4
    simp at h4
  exact ⟨b, o, x, rfl, Nat.lt_of_lt_of_le hlt hk.size, hk.cell h2 hlt hb, h3.kept hk (nums_off h3 hr h0 h1)⟩
/-- the first k rules of the example -/
def exL (k : Nat) : List (List Cel) := [post wkO, post wkC].take k
set_option maxRecDepth 20000 in
set_option maxHeartbeats 4000000 in
theorem builtEx (g : Nat) (w : World) (hT : Tab w) (hg : w.heap[g]? = some (.cells #[.string ⟨#[97, 124, 98]⟩, .string ⟨#[99]⟩] 9 (0, 0))) :
    Calls Tryz.prog 19 #[.slice (some ⟨g, 0, none⟩) 2 2] w fun z w' => ∃ nv av, z = .returned (.agg #[nv, av]) ∧ Numss w' nv (nxtK wkL 3) ∧ Nums w' av (accK wkL 3) ∧ Below w.heap.size w w' := by
  have G1 := hid (fun u => parseGoodF [97, 124, 98] wkO u (by decide) wkO_reads (by decide))
  have G2 := hid (fun u => parseGoodF [99] wkC u (by decide) wkC_reads (by decide))
  have GB := hid (fun v u h (ht : Tab u) => buildGood v [wkO, wkC] u h (by decide) wkL_oks ht)
  have hans : Hid (∀ u nv av er, BldR [wkO, wkC] u nv av er → er = 0 ∧ Numss u nv (nxtK wkL 3) ∧ Nums u av (accK wkL 3)) := hid (fun u nv av er h => by
    obtain ⟨all, hAll, h⟩ := h
    have e := hAll.uniq wkL_all
    subst e
    rcases h with ⟨h1, n, h2, h3, h4⟩ | ⟨_, _, _, h2⟩
    · have e := h2.uniq wkL_to
      subst e
      exact ⟨h1, h3, h4⟩
    · exact absurd h2 wkL_to.not_full)
  have hnl : Hid ((nxtK wkL 3).length = 3) := hid (nxtK_len _ _)
  have hal : Hid ((accK wkL 3).length = 3) := hid (accK_len _ _)
  have hT' := hid hT
  obtain ⟨iC, hiC, zC0, zC1, zC2⟩ := info_parts Tryz.infoCs
  generalize nxtK wkL 3 = N at *
  generalize accK wkL 3 = A at *
  obtain ⟨W0, hW0⟩ : ∃ W0, w.alloc (.cells #[.slice none 0 0, .slice none 0 0] 25) = W0 := ⟨_, rfl⟩
  have hb0 : Hid (Below w.heap.size w W0) := by rw [← hW0]; exact hid (al' w _)
  have hz0 : Hid (W0.heap[w.heap.size]? = some (.cells #[.slice none 0 0, .slice none 0 0] 25)) := by rw [← hW0]; exact hid (heap_new w _)
  have hg' := hid hg
  clear hT hg
  go_enter Tryz.func19, Tryz.ntmps19
  go_wp2
  clear hW0
  go_loopw [3, 13] (fun v i wr => ∃ k : Nat, k ≤ 2 ∧ i = .int .i64 k ∧ Hid (∃ vs, wr.ownsRow W0.heap.size 63 1 v vs.length vs ∧ CelF (fun j => v.ownBlock = some j) wr vs (exL k)) ∧ Hid (Below W0.heap.size W0 wr)) (fun _ i _ => 2 - (intOf i).toNat)
  case atStart => exact ⟨0, by omega, rfl, hid ⟨[], World.ownsRow_nil _ _ _ _, CelF.nil _ _⟩, hid (Below.refl _ _)⟩
  case round =>
    obtain ⟨k, hk, rfl, hOx, hbl⟩ := hrel
    obtain ⟨vs, hO, hC⟩ := hOx.out
    have hO := hid hO
    have hC := hid hC
    clear hOx
    have hvl : vs.length ≤ 2 := by
      rw [hC.out.1]
      unfold exL
      rw [List.length_take]
      omega
    obtain ⟨va, vc, rfl⟩ := own_shape hO.out
    have hbw : Hid (Below w.heap.size w wr) := hid (bl_step hb0.out hbl.out)
    obtain ⟨s0, s1, -⟩ := cells2m (hs_keep hg'.out hbw.out)
    have hown : Hid (∀ j, (Value.slice va vs.length vc).ownBlock = some j → W0.heap.size ≤ j ∧ j < wr.heap.size) := hid (fun j e => hO.out.lt j e)
    have hstep : Hid (∀ (t : Rx) (x : Value) (u w' : World) (o : Obj) (g3 c3 : Nat), exL (k + 1) = exL k ++ [post t] → Below wr.heap.size wr u → Cels u x (post t) → Off (fun j => j < wr.heap.size) x → w'.ownsRow W0.heap.size 63 1 (.slice (some ⟨g3, 0, none⟩) (vs.length + 1) c3) (vs.length + 1) (vs ++ [x]) → (u.alloc o).grownBy w' (Value.slice va vs.length vc).ownBlock → ((Value.slice va vs.length vc).ownBlock = some g3 ∨ g3 = (u.alloc o).heap.size) → (∃ vs', w'.ownsRow W0.heap.size 63 1 (.slice (some ⟨g3, 0, none⟩) (vs.length + 1) c3) vs'.length vs' ∧ CelF (fun j => (Value.slice (some ⟨g3, 0, none⟩) (vs.length + 1) c3).ownBlock = some j) w' vs' (exL (k + 1))) ∧ Below W0.heap.size W0 w') := hid (fun t x u w' o g3 c3 he hu hx hxb ho hgr hat => by
      have hu2 := bl_step hu (al' u o)
      refine ⟨⟨vs ++ [x], by rw [List.length_append]; exact ho, ?_⟩, (bl_step hbl.out hu2).trans ((Kept.of_grown hgr).below (fun j e => (hown.out j e).1) (bl_step hbl.out hu2).size)⟩
      rw [he]
      have hC2 : CelF (fun j => (Value.slice va vs.length vc).ownBlock = some j) (u.alloc o) vs (exL k) := ⟨hC.out.1, fun j => ⟨(hC.out.2 j).1.keep hu2, (hC.out.2 j).2⟩⟩
      refine hC2.snoc (hx.keep (al' u o)) (fun ad n c e h0 hf => hxb ad n c e h0 (hown.out _ hf).2) hgr (fun j e => e) (fun j e => ?_)
      have e1 : g3 = j := by injection e
      subst e1
      rcases hat with h1 | h1
      · exact Or.inl h1
      · exact Or.inr (by omega))
    have hszo : Hid (∀ u, Below wr.heap.size wr u → ∀ o, W0.heap.size ≤ (u.alloc o).heap.size) := hid (fun u hu o => (bl_step hbl.out (bl_step hu (al' u o))).size)
    have hOk : Hid (∀ u, Below wr.heap.size wr u → ∀ o, (u.alloc o).ownsRow W0.heap.size 63 1 (.slice va vs.length vc) vs.length vs) := hid (fun u hu o => own_below hO.out (bl_step hu (al' u o)))
    have hp1 : (post wkO).length = 3 := rfl
    have hp2 : (post wkC).length = 1 := rfl
    rcases (show k = 0 ∨ k = 1 ∨ k = 2 by omega) with rfl | rfl | rfl
    · have hex : Hid (exL (0 + 1) = exL 0 ++ [post wkO]) := hid rfl
      go_wp2_with (first
        | (at_builtin; refine wpList_append_lies _ (by rfl) _ _ _ (by rfl) W0.heap.size 63 iC (.slice none 0 0) 1 24 Tryz.underlying62 hiC zC0 zC1 zC2 rfl (by decide) (.slice va vs.length vc) vs.length vs (by rfl) (hOk.out w2 hb2.out _) ⟨w2.heap.size, 0, none⟩ 1 1 [.slice xa 3 xc] (by rfl) (by rfl) (World.news_of_block (heap_new w2 (.cells #[.slice xa 3 xc] 63))) (by simp [Value.oneCell']) (by omega) (by (unfold maxLen); omega) (by omega) (hszo.out w2 hb2.out _) (w2.alloc (.cells #[.slice xa 3 xc] 63)).heap.size rfl ?_; intro g3 c3 w3 hown3 hgrow3 hat3 hlt3; have hfin := hid (hstep.out wkO _ w2 w3 _ g3 c3 hex.out hb2.out hc2.out.1 hc2.out.2 hown3 hgrow3 hat3))
        | (go_at_call 30; refine (G1.out wr).mono ?_; rintro e w2 ⟨x, rfl, hc2, hb2⟩; obtain ⟨xa, xc, rfl⟩ := hc2.1.shape; have hb2 := hid hb2; have hc2 := hid hc2))
      go_roundw
      case rel => exact ⟨1, by omega, by first | rfl | go_num, hid hfin.out.1, hid hfin.out.2⟩
      case measure => simp [intOf]
    · have hex : Hid (exL (1 + 1) = exL 1 ++ [post wkC]) := hid rfl
      go_wp2_with (first
        | (at_builtin; refine wpList_append_lies _ (by rfl) _ _ _ (by rfl) W0.heap.size 63 iC (.slice none 0 0) 1 24 Tryz.underlying62 hiC zC0 zC1 zC2 rfl (by decide) (.slice va vs.length vc) vs.length vs (by rfl) (hOk.out w2 hb2.out _) ⟨w2.heap.size, 0, none⟩ 1 1 [.slice xa 1 xc] (by rfl) (by rfl) (World.news_of_block (heap_new w2 (.cells #[.slice xa 1 xc] 63))) (by simp [Value.oneCell']) (by omega) (by (unfold maxLen); omega) (by omega) (hszo.out w2 hb2.out _) (w2.alloc (.cells #[.slice xa 1 xc] 63)).heap.size rfl ?_; intro g3 c3 w3 hown3 hgrow3 hat3 hlt3; have hfin := hid (hstep.out wkC _ w2 w3 _ g3 c3 hex.out hb2.out hc2.out.1 hc2.out.2 hown3 hgrow3 hat3))
        | (go_at_call 30; refine (G2.out wr).mono ?_; rintro e w2 ⟨x, rfl, hc2, hb2⟩; obtain ⟨xa, xc, rfl⟩ := hc2.1.shape; have hb2 := hid hb2; have hc2 := hid hc2))
      go_roundw
      case rel => exact ⟨2, by omega, by first | rfl | go_num, hid hfin.out.1, hid hfin.out.2⟩
      case measure => simp [intOf]
    · have hC2 : Hid (Celss wr (.slice va vs.length vc) [post wkO, post wkC]) := hid (celss_of hO.out hC.out)
      have hzr : Hid (wr.heap[w.heap.size]? = some (.cells #[.slice none 0 0, .slice none 0 0] 25)) := hid (hs_keep hz0.out hbl.out)
      have hvs2 : Hid (vs.length = 2) := hid hC.out.1
      go_wp2_with (go_at_call 31; refine (GB.out _ wr hC2.out (hT'.out.keep hbw.out)).mono ?_; rintro e w3 ⟨nv, av, er, rfl, hR, hb3⟩; obtain ⟨rfl, hN, hA⟩ := hans.out _ _ _ _ hR; obtain ⟨na, nc, rfl⟩ : (∃ a c, nv = .slice a 3 c) := (by obtain ⟨a, c, e0, _⟩ := hN; rw [hnl.out] at e0; exact ⟨a, c, e0⟩); obtain ⟨aa, ac, rfl⟩ : (∃ a c, av = .slice a 3 c) := (by obtain ⟨a, c, e0, _⟩ := hA; rw [hal.out] at e0; exact ⟨a, c, e0⟩); have hN := hid hN; have hA := hid hA; have hb3 := hid hb3; have hal3 := hid (al' w3 (.cells #[.slice na 3 nc, .slice aa 3 ac] 25)); have hbk := hid (heap_new w3 (.cells #[.slice na 3 nc, .slice aa 3 ac] 25)); obtain ⟨q0, q1, -⟩ := cells2m hbk.out; have hz4 := hid (hs_keep (hs_keep hzr.out hb3.out) hal3.out); obtain ⟨x0, x1, y0, y1⟩ := cells2m hz4.out)
      have hfb : ((((w3.alloc (.cells #[.slice na 3 nc, .slice aa 3 ac] 25)).setCell ⟨w.heap.size, 0, none⟩ (.slice na 3 nc)).setCell ⟨w.heap.size, 1, none⟩ (.slice aa 3 ac))).heap[w.heap.size]? = some (.cells #[.slice na 3 nc, .slice aa 3 ac] 25 (0, 0)) := heap_setCell (heap_setCell hz4.out)
      obtain ⟨r0, r1, -⟩ := cells2m hfb
      have hkf : Kept (oneBlk w.heap.size) (w3.alloc (.cells #[.slice na 3 nc, .slice aa 3 ac] 25)) (((w3.alloc (.cells #[.slice na 3 nc, .slice aa 3 ac] 25)).setCell ⟨w.heap.size, 0, none⟩ (.slice na 3 nc)).setCell ⟨w.heap.size, 1, none⟩ (.slice aa 3 ac)) := ((Kept.refl (oneBlk w.heap.size) _).setCell (a := ⟨w.heap.size, 0, none⟩) (v := .slice na 3 nc) (fun _ => rfl)).setCell (a := ⟨w.heap.size, 1, none⟩) (v := .slice aa 3 ac) (fun _ => rfl)
      have hNf := numss_set (hN.out.keep hal3.out) (by rw [hnl.out]; omega) hz4.out (fun _ _ e => by cases e) (fun _ _ e => by cases e) hkf
      have hAf := (hA.out.keep hal3.out).kept hkf (nums_off (hA.out.keep hal3.out) hz4.out (fun _ _ e => by cases e) (fun _ _ e => by cases e))
      exact bodyPost_ret (v := .agg #[.slice na 3 nc, .slice aa 3 ac]) (by simp [results, Tryz.results19, go_sem, r0, r1]) rfl ⟨_, _, rfl, hNf, hAf, bl_set (bl_set (bl_step (bl_step hbw.out hb3.out) hal3.out) _ _ _ (Nat.le_refl _)) _ _ _ (Nat.le_refl _)⟩

end Go.Proofs.YtjelgphhlcecoaaGreatDoor
namespace Go.Proofs.YtjelgphhlcecoaaGreatDoor
open Go.RowKit Go.Maps

/-- a state's kind -/
def knd (K : List Int) (n i : Nat) : Int := K.getD (ixK n i) 0
def alK (K : List Int) (n : Nat) (i j : Nat) : Bool := decide (knd K n i = knd K n j)
theorem alK_AlB {N : List (List Int)} {A K : List Int} (h : KndA N A K) : AlB N A (alK K N.length) := fun i j hi hj => by
  unfold alK
  rw [decide_eq_true_iff]
  exact h.rel i j hi hj
theorem alK_trans {K : List Int} {n i j : Nat} (h : alK K n i j = true) (k : Nat) : alK K n i k = alK K n j k := by
  unfold alK at *
  rw [decide_eq_true_iff] at h
  rw [h]
/-- what is told of a state when these were met -/
def numM (K : List Int) (n : Nat) (S : List Nat) (i : Nat) : Option Int := if alK K n i n then some (-1) else if S.findIdx (alK K n i) < S.length then some (S.findIdx (alK K n i) : Int) else none
def MapOK (K : List Int) (n : Nat) (S : List Nat) (l : List (Int × Int)) : Prop := ∀ i, i ≤ n → lkA l (knd K n i) = numM K n S i
theorem mapOK_start (K : List Int) (n : Nat) : MapOK K n [0] [(knd K n n, -1), (knd K n 0, 0)] := fun i _ => by
  unfold numM
  have e1 : (knd K n n = knd K n i) = (alK K n i n = true) := by unfold alK; rw [decide_eq_true_iff]; exact propext eq_comm
  have e2 : (knd K n 0 = knd K n i) = (alK K n i 0 = true) := by unfold alK; rw [decide_eq_true_iff]; exact propext eq_comm
  simp only [lkA, e1, e2]
  by_cases h1 : alK K n i n = true
  · rw [if_pos h1, if_pos h1]
  · rw [if_neg h1, if_neg h1]
    by_cases h2 : alK K n i 0 = true
    · rw [if_pos h2, if_pos (by simp [List.findIdx_cons, h2])]
      simp [List.findIdx_cons, h2]
    · rw [if_neg h2, if_neg (by simp [List.findIdx_cons, h2])]
theorem find_snoc (p : Nat → Bool) (S : List Nat) (t : Nat) : (S ++ [t]).findIdx p = if S.findIdx p < S.length then S.findIdx p else S.length + (if p t then 0 else 1) := by
  rw [List.findIdx_append]
  by_cases h : S.findIdx p < S.length
  · rw [if_pos h, if_pos h]
  · rw [if_neg h, if_neg h]
    simp [List.findIdx_cons]
    split <;> simp_all <;> omega
theorem find_out {p : Nat → Bool} {S : List Nat} (h : ¬ S.findIdx p < S.length) : ∀ x ∈ S, p x = false := fun x hx => by
  cases hp : p x with
  | false => rfl
  | true => exact absurd (List.findIdx_lt_length_of_exists ⟨x, hx, hp⟩) h
theorem find_not {p : Nat → Bool} {S : List Nat} (h : ∀ x ∈ S, p x = false) : ¬ S.findIdx p < S.length := fun h1 => by
  have := List.findIdx_getElem (w := h1)
  rw [h _ (List.getElem_mem h1)] at this
  cases this
theorem mapOK_push {K : List Int} {n : Nat} {S : List Nat} {l : List (Int × Int)} (h : MapOK K n S l) {t : Nat} (hd : alK K n t n = false) (hn : ¬ S.findIdx (alK K n t) < S.length) : MapOK K n (S ++ [t]) ((knd K n t, (S.length : Int)) :: l) := fun i hi => by
  have e1 : (knd K n t = knd K n i) = (alK K n i t = true) := by unfold alK; rw [decide_eq_true_iff]; exact propext eq_comm
  have e2 : lkA ((knd K n t, (S.length : Int)) :: l) (knd K n i) = if alK K n i t = true then some (S.length : Int) else lkA l (knd K n i) := by simp only [lkA, e1]
  rw [e2, h i hi]
  unfold numM
  by_cases h1 : alK K n i t = true
  · have h2 : alK K n i n = false := by rw [alK_trans h1]; exact hd
    have h3 : ¬ S.findIdx (alK K n i) < S.length := find_not fun x hx => by rw [alK_trans h1]; exact find_out hn x hx
    rw [if_pos h1, if_neg (by simp [h2]), find_snoc, if_neg h3, if_pos h1, if_pos (by simp)]
    simp
  · rw [if_neg h1]
    by_cases h2 : alK K n i n = true
    · rw [if_pos h2, if_pos h2]
    · rw [if_neg h2, if_neg h2, find_snoc]
      by_cases h3 : S.findIdx (alK K n i) < S.length
      · rw [if_pos h3, if_pos h3, if_pos (by simp; omega)]
      · rw [if_neg h3, if_neg h3, if_neg h1, if_neg (by simp)]
/-- the three ways of a byte -/
theorem num_none {K : List Int} {n : Nat} {S : List Nat} {i : Nat} (h : alK K n i n = true) : numM K n S i = some (-1) := by unfold numM; rw [if_pos h]
theorem num_old {K : List Int} {n : Nat} {S : List Nat} {i : Nat} (h : alK K n i n = false) (hf : S.findIdx (alK K n i) < S.length) : numM K n S i = some (S.findIdx (alK K n i) : Int) := by unfold numM; rw [if_neg (by simp [h]), if_pos hf]
theorem num_new {K : List Int} {n : Nat} {S : List Nat} {i : Nat} (h : alK K n i n = false) (hf : ¬ S.findIdx (alK K n i) < S.length) : numM K n S i = none := by unfold numM; rw [if_neg (by simp [h]), if_neg hf]
theorem knd_in {N : List (List Int)} {A K : List Int} (h : KndA N A K) (i : Nat) : 0 ≤ knd K N.length i ∧ knd K N.length i < 256 := by
  have := @ixK_le N.length i
  exact h.ok _ (by rw [h.len]; omega)

end Go.Proofs.YtjelgphhlcecoaaGreatDoor
namespace Go.Proofs.YtjelgphhlcecoaaGreatDoor
open Go.RowKit Go.Maps

abbrev OwnK (w : World) (mm cnt : Nat) (l : List (Int × Int)) : Prop := OwnM w 3 (fun x : Int => Lit.int .i64 x) mm cnt l
structure MkA (ob mm : Nat) (K : List Int) (n : Nat) (w0 w : World) (D F : Nat → Prop) (tv nv av : Value) (vs : List Value) (S : List Nat) (l : List (Int × Int)) (N : List (List Int)) (A : List Int) : Prop where
  s : MkS ob w0 w D F tv nv av vs S N A
  mp : OwnK w mm (S.length + 1) l
  mF : F mm
  mt : tv.ownBlock ≠ some mm
  ok : MapOK K n S l
theorem MkA.keep {ob mm n : Nat} {K : List Int} {w0 w u : World} {D F : Nat → Prop} {tv nv av : Value} {vs : List Value} {S : List Nat} {l : List (Int × Int)} {N : List (List Int)} {A : List Int} (h : MkA ob mm K n w0 w D F tv nv av vs S l N A) (hu : Below w.heap.size w u) : MkA ob mm K n w0 u D F tv nv av vs S l N A :=
  ⟨h.s.keep hu, own_map_kept h.mp (hu.block _ (h.s.fL _ h.mF)), h.mF, h.mt, h.ok⟩
structure MkB (ob mm rk : Nat) (K : List Int) (n : Nat) (w0 w : World) (D F : Nat → Prop) (tv nv av : Value) (vs : List Value) (S : List Nat) (l : List (Int × Int)) (N : List (List Int)) (A r : List Int) : Prop where
  L : MkL ob w0 rk w D F tv nv av vs S N A r
  mp : OwnK w mm (S.length + 1) l
  mF : F mm
  mt : tv.ownBlock ≠ some mm
  mr : mm ≠ rk
  ok : MapOK K n S l
theorem MkB.keep {ob mm rk n : Nat} {K : List Int} {w0 w u : World} {D F : Nat → Prop} {tv nv av : Value} {vs : List Value} {S : List Nat} {l : List (Int × Int)} {N : List (List Int)} {A r : List Int} (h : MkB ob mm rk K n w0 w D F tv nv av vs S l N A r) (hu : Below w.heap.size w u) : MkB ob mm rk K n w0 u D F tv nv av vs S l N A r :=
  ⟨h.L.keep hu, own_map_kept h.mp (hu.block _ (h.L.s.fL _ h.mF)), h.mF, h.mt, h.mr, h.ok⟩
theorem MkB.put {ob mm rk n : Nat} {K : List Int} {w0 w : World} {D F : Nat → Prop} {tv nv av : Value} {vs : List Value} {S : List Nat} {l : List (Int × Int)} {N : List (List Int)} {A r : List Int} (h : MkB ob mm rk K n w0 w D F tv nv av vs S l N A r) (b : Nat) (y : Int) : MkB ob mm rk K n w0 (w.setCell ⟨rk, b, none⟩ (.int .i64 y)) D F tv nv av vs S l N A (r.set b y) :=
  ⟨h.L.put b y, own_map_kept h.mp (Below.heap_setCell w ⟨rk, b, none⟩ _ mm h.mr), h.mF, h.mt, h.mr, h.ok⟩
theorem MkB.push {ob mm rk n : Nat} {K : List Int} {w0 w u w' : World} {D F : Nat → Prop} {tv nv av : Value} {vs : List Value} {S : List Nat} {l : List (Int × Int)} {N : List (List Int)} {A r : List Int} (h : MkB ob mm rk K n w0 w D F tv nv av vs S l N A r) {t : Nat} (hd : alK K n t n = false) (hn : ¬ S.findIdx (alK K n t) < S.length)
    (hmp : OwnK u mm (S.length + 1 + 1) ((knd K n t, (S.length : Int)) :: l)) (hgu : w.grownBy u (some mm)) {o : Obj} {g cap : Nat}
    (ho : w'.ownsRow w0.heap.size 3 1 (.slice (some ⟨g, 0, none⟩) ((SI S).length + 1) cap) ((SI S).length + 1) (numCells (SI S) ++ [.int .i64 (t : Int)])) (hg : (u.alloc o).grownBy w' tv.ownBlock) (hat : tv.ownBlock = some g ∨ g = (u.alloc o).heap.size) :
    ∃ F', MkB ob mm rk K n w0 w' D F' (.slice (some ⟨g, 0, none⟩) ((SI S).length + 1) cap) nv av vs (S ++ [t]) ((knd K n t, (S.length : Int)) :: l) N A r := by
  have L1 := (h.L.other h.mF h.mt h.mr (Kept.of_grown hgu)).keep (al' u o)
  have hml : mm < (u.alloc o).heap.size := L1.s.fL _ h.mF
  refine ⟨_, L1.push ho hg hat, ?_, Or.inl h.mF, fun e => ?_, h.mr, mapOK_push h.ok hd hn⟩
  · rw [List.length_append]
    refine own_map_kept hmp (((Kept.of_grown hg).block _ hml h.mt).trans ((al' u o).block _ ?_))
    exact Nat.lt_of_lt_of_le (h.L.s.fL _ h.mF) hgu.size
  · have e1 : g = mm := by injection e
    rcases hat with h1 | h1
    · exact h.mt (by rw [h1, e1])
    · omega
set_option maxRecDepth 20000 in
/-- what the map answers of a state -/
theorem MkB.look {ob mm rk n : Nat} {K : List Int} {w0 u : World} {D F : Nat → Prop} {tv nv av : Value} {vs : List Value} {S : List Nat} {l : List (Int × Int)} {N : List (List Int)} {A r : List Int} (h : MkB ob mm rk K n w0 u D F tv nv av vs S l N A r) {t : Nat} (ht : t ≤ n) (hk : 0 ≤ knd K n t ∧ knd K n t < 256) {v : Int} (hv : numM K n S t = some v) :
    (Instr.lookup 48 (.map (some mm)) (.int .i64 (knd K n t)) true).run Tryz.prog u = .ok (.tuple #[.int .i64 v, .bool true]) u :=
  lookA keyA_int law_int Tryz.underlying48 h.mp (key_int (by omega)) (by rw [h.ok t ht]; exact hv)
set_option maxRecDepth 20000 in
theorem MkB.unmet {ob mm rk n : Nat} {K : List Int} {w0 u : World} {D F : Nat → Prop} {tv nv av : Value} {vs : List Value} {S : List Nat} {l : List (Int × Int)} {N : List (List Int)} {A r : List Int} (h : MkB ob mm rk K n w0 u D F tv nv av vs S l N A r) {t : Nat} (ht : t ≤ n) (hk : 0 ≤ knd K n t ∧ knd K n t < 256) (hv : numM K n S t = none) (hS : S.length ≤ 1000) :
    ∃ c u', (Instr.lookup 48 (.map (some mm)) (.int .i64 (knd K n t)) true).run Tryz.prog u = .ok (.tuple #[.int .i64 c, .bool false]) u ∧ (Instr.mapUpdate 48 (.map (some mm)) (.int .i64 (knd K n t)) (.int .i64 (S.length : Int))).run Tryz.prog u = .ok () u' ∧ OwnK u' mm (S.length + 1 + 1) ((knd K n t, (S.length : Int)) :: l) ∧ u.grownBy u' (some mm) := by
  obtain ⟨c, h1⟩ := lookA_none keyA_int law_int Tryz.underlying48 h.mp (key_int (x := knd K n t) (by omega)) (by rw [h.ok t ht]; exact hv)
  obtain ⟨u', h2, h3, h4⟩ := putA law_int Tryz.underlying48 h.mp (by omega) (key_int (x := knd K n t) (by omega)) (v := (S.length : Int)) (by omega)
  exact ⟨c, u', h1, h2, h3, h4⟩
set_option maxRecDepth 20000 in
/-- the map and the states at the start -/
theorem make_start {w2 : World} {K : List Int} {n : Nat} (hk : ∀ i, 0 ≤ knd K n i ∧ knd K n i < 256) : ∃ u3 u4, (Instr.mapUpdate 48 (.map (some w2.heap.size)) (.int .i64 (knd K n 0)) (.int .i64 0)).run Tryz.prog (w2.alloc (.map #[] 0)) = .ok () u3 ∧ (Instr.mapUpdate 48 (.map (some w2.heap.size)) (.int .i64 (knd K n n)) (.int .i64 (-1))).run Tryz.prog u3 = .ok () u4 ∧ Below w2.heap.size w2 u3 ∧ Below w2.heap.size w2 u4 ∧
    MkA (u4.alloc (.cells #[.int .i64 0] 3)).heap.size w2.heap.size K n w2 ((u4.alloc (.cells #[.int .i64 0] 3)).alloc (.cells #[.slice none 0 0, .slice none 0 0] 25)) (fun k => k = (u4.alloc (.cells #[.int .i64 0] 3)).heap.size) (fun k => k = w2.heap.size ∨ k = u4.heap.size) (.slice (some ⟨u4.heap.size, 0, none⟩) 1 1) (.slice none 0 0) (.slice none 0 0) [] [0] [(knd K n n, -1), (knd K n 0, 0)] [] [] := by
  have M0 : OwnK (w2.alloc (.map #[] 0)) w2.heap.size 0 [] := World.ownsMap_made w2 Tryz.prog 3 (plainElem (H := Unit) Tryz.prog 3)
  have k0 := hk 0
  have kn := hk n
  obtain ⟨u3, h1, m1, g1⟩ := putA law_int Tryz.underlying48 M0 (by omega) (key_int (x := knd K n 0) (by omega)) (v := 0) (by omega)
  obtain ⟨u4, h2, m2, g2⟩ := putA law_int Tryz.underlying48 m1 (by omega) (key_int (x := knd K n n) (by omega)) (v := -1) (by omega)
  have b0 := al' w2 (.map #[] 0)
  have s0 : (w2.alloc (.map #[] 0)).heap.size = w2.heap.size + 1 := by simp
  have b3 : Below w2.heap.size w2 u3 := b0.trans ((Kept.of_grown g1).below (fun k e => by have e1 : w2.heap.size = k := (by injection e); omega) b0.size)
  have b4 : Below w2.heap.size w2 u4 := b3.trans ((Kept.of_grown g2).below (fun k e => by have e1 : w2.heap.size = k := (by injection e); omega) b3.size)
  have s4 : w2.heap.size < u4.heap.size := by have := g1.size; have := g2.size; omega
  have b5 := al' u4 (.cells #[.int .i64 0] 3)
  have s5 : (u4.alloc (.cells #[.int .i64 0] 3)).heap.size = u4.heap.size + 1 := by simp
  have b6 := al' (u4.alloc (.cells #[.int .i64 0] 3)) (.cells #[.slice none 0 0, .slice none 0 0] 25)
  have o5 : Own (u4.alloc (.cells #[.int .i64 0] 3)) w2.heap.size (.slice (some ⟨u4.heap.size, 0, none⟩) 1 1) (SI [0]) := own_base (World.ownsRow_lit u4 (e := 3) (size := 1) #[.int .i64 0] 1 (Nat.le_refl _) (by unfold maxLen; omega) rfl) b4.size
  refine ⟨u3, u4, h1, h2, b3, b4, ⟨⟨DfO.start (by omega) (fun k hk' => ?_), own_below o5 b6, fun k e => Or.inr (by injection e with e; exact e.symm), fun k hk' => ?_, fun k hk' => ?_, fun k hk' => ?_, bl_step (bl_step b4 b5) b6, fun j => Off.nil _⟩, own_map_kept m2 ((b6.block _ (by omega)).trans (b5.block _ s4)), Or.inl rfl, fun e => ?_, mapOK_start K n⟩⟩
  · rcases hk' with h | h <;> omega
  · rcases hk' with h | h <;> omega
  · rcases hk' with h | h <;> (simp; omega)
  · rw [hk']; omega
  · have e1 : u4.heap.size = w2.heap.size := by injection e
    omega
theorem MkA.row2 {ob mm n : Nat} {K : List Int} {w0 w w2 : World} {D F : Nat → Prop} {tv nv av x : Value} {vs : List Value} {S : List Nat} {l : List (Int × Int)} {N : List (List Int)} {A r : List Int} (h : MkA ob mm K n w0 w D F tv nv av vs S l N A) (hx : Nums w x r) (hxo : Off (fun k => D k ∨ F k) x) (hxu : Off (fun k => k < w0.heap.size) x) {g cap : Nat}
    (ho : w2.ownsRow w0.heap.size 23 1 (.slice (some ⟨g, 0, none⟩) (vs.length + 1) cap) (vs.length + 1) (vs ++ [x])) (hg : w.grownBy w2 nv.ownBlock) (hat : nv.ownBlock = some g ∨ g = w.heap.size) :
    ∃ D2, MkA ob mm K n w0 (w2.setCell ⟨ob, 0, none⟩ (.slice (some ⟨g, 0, none⟩) (vs.length + 1) cap)) D2 F tv (.slice (some ⟨g, 0, none⟩) (vs.length + 1) cap) av (vs ++ [x]) S l (N ++ [r]) A := by
  obtain ⟨D2, h1, h2⟩ := h.s.row2 hx hxo hxu ho hg hat
  exact ⟨D2, h1, own_map_kept h.mp (h2.block _ (h.s.fL _ h.mF) (fun hd => h.s.df.apart _ hd h.mF)), h.mF, h.mt, h.ok⟩
theorem MkA.acc2 {ob mm n : Nat} {K : List Int} {w0 w w2 : World} {D F : Nat → Prop} {tv nv av : Value} {vs : List Value} {S : List Nat} {l : List (Int × Int)} {N : List (List Int)} {A A' : List Int} (h : MkA ob mm K n w0 w D F tv nv av vs S l N A) {g q cap : Nat}
    (ho : Own w2 w0.heap.size (.slice (some ⟨g, 0, none⟩) q cap) A') (hg : w.grownBy w2 av.ownBlock) (hat : av.ownBlock = some g ∨ g = w.heap.size) :
    ∃ D2, MkA ob mm K n w0 (w2.setCell ⟨ob, 1, none⟩ (.slice (some ⟨g, 0, none⟩) q cap)) D2 F tv nv (.slice (some ⟨g, 0, none⟩) q cap) vs S l N A' := by
  obtain ⟨D2, h1, h2⟩ := h.s.acc2 ho hg hat
  exact ⟨D2, h1, own_map_kept h.mp (h2.block _ (h.s.fL _ h.mF) (fun hd => h.s.df.apart _ hd h.mF)), h.mF, h.mt, h.ok⟩

end Go.Proofs.YtjelgphhlcecoaaGreatDoor
namespace Go.Proofs.YtjelgphhlcecoaaGreatDoor
open Go.RowKit Go.Maps

set_option maxRecDepth 20000 in
set_option maxHeartbeats 8000000 in
theorem makeGood (nv av : Value) (N : List (List Int)) (A : List Int) (w : World) (hD : Dfa w nv av N A) (hr : RgtA N A) (hA : AccW A) :
    Calls Tryz.prog 10 #[.agg #[nv, av]] w fun z w' => ∃ nv' av' M B, z = .returned (.tuple #[.agg #[nv', av'], .int .i64 0]) ∧ MkR N A M B ∧ Dfa w' nv' av' M B ∧ Below w.heap.size w w' := by
  have hf := hr.few
  obtain ⟨⟨na, nc, rfl⟩, ⟨aa, ac, rfl⟩⟩ := hD.shape
  obtain ⟨W0, hW0⟩ : ∃ W0, w.alloc (.cells #[.slice na N.length nc, .slice aa A.length ac] 25) = W0 := ⟨_, rfl⟩
  have hb0 : Hid (Below w.heap.size w W0) := by rw [← hW0]; exact hid (al' w _)
  have hz0 : Hid (W0.heap[w.heap.size]? = some (.cells #[.slice na N.length nc, .slice aa A.length ac] 25)) := by rw [← hW0]; exact hid (heap_new w _)
  obtain ⟨W1, hW1⟩ : ∃ W1, W0.alloc (.cells #[.slice none 0 0, .slice none 0 0] 25) = W1 := ⟨_, rfl⟩
  have hb1 : Hid (Below W0.heap.size W0 W1) := by rw [← hW1]; exact hid (al' W0 _)
  have hz1 : Hid (W1.heap[W0.heap.size]? = some (.cells #[.slice none 0 0, .slice none 0 0] 25)) := by rw [← hW1]; exact hid (heap_new W0 _)
  have hs0 : Hid (w.heap.size ≤ W0.heap.size) := hid hb0.out.size
  have hD1 := hid ((hD.keep hb0.out).keep hb1.out)
  have hp1 : Hid (W1.heap[w.heap.size]? = some (.cells #[.slice na N.length nc, .slice aa A.length ac] 25)) := hid (hs_keep hz0.out hb1.out)
  have GR := hid (rightD _ _ N A W1 hD1.out.nxt hD1.out.acc (by omega))
  rw [rgtB_of hr] at GR
  have GK := hid (fun u (hu : Below W1.heap.size W1 u) => kindsOfC _ _ N A u (hD1.out.keep hu) hr hA)
  have hrH := hid hr
  have hAcc : Hid (∀ i, i < N.length → (i : Int) < (A.length : Int)) := hid (fun i hi => by have := hr.len; omega)
  obtain ⟨iN, hiN, zN0, zN1, zN2⟩ := info_parts Tryz.infoNs
  obtain ⟨i0, hi0, z00, z01, z02⟩ := info_parts Tryz.info3
  obtain ⟨c0, c1, -⟩ := cells2m hp1.out
  have hmm := toldI_make
  clear hD hr hA
  go_enter Tryz.func10, Tryz.ntmps10
  go_wp2_with (first
    | (go_at_call 20; refine GR.out.mono ?_; rintro e w2 ⟨rfl, hb2⟩; have hp2 := hid (hs_keep hp1.out hb2); obtain ⟨d0, d1, -⟩ := cells2m hp2.out; have G2 := hid (GK.out w2 hb2); have hb2 := hid hb2)
    | (go_at_call 21; refine G2.out.mono ?_; rintro e w3 ⟨kv, K, rfl, hKv, hKA, hb3⟩; have hKA := hid hKA; obtain ⟨ka, kc, rfl⟩ := nums_shape' hKv; have hKv := hid hKv; have hb13 := hid (bl_step hb2.out hb3); obtain ⟨u3, u4, hins, hupd, hbu3, hbu4, hS0⟩ := make_start (w2 := w3) (K := K) (n := N.length) (knd_in hKA.out); have hS0 := hid hS0; have hbu3 := hid hbu3; have hbu4 := hid hbu4; have GO : Hid (∀ i u, i ≤ N.length → Below w3.heap.size w3 u → Calls Tryz.prog 22 #[.slice ka K.length kc, .int .i64 (inI N.length i)] u fun e w' => e = .returned (.int .i64 (knd K N.length i)) ∧ w' = u) := hid (fun i u hi hu => kofC _ K N.length i u (hKv.out.keep hu) hKA.out.len (by omega)); have hw3 := hid (al' w3 (.map #[] 0)); have hpos := hid hrH.out.pos; have G0 : Hid (Calls Tryz.prog 22 #[.slice ka K.length kc, .int .i64 0] (w3.alloc (.map #[] 0)) fun e w' => e = .returned (.int .i64 (knd K N.length 0)) ∧ w' = w3.alloc (.map #[] 0)) := hid (by (have h9 := GO.out 0 _ (Nat.zero_le _) hw3.out; rw [inI_some hpos.out] at h9; exact h9)); have Gn : Hid (Calls Tryz.prog 22 #[.slice ka K.length kc, .int .i64 (-1)] u3 fun e w' => e = .returned (.int .i64 (knd K N.length N.length)) ∧ w' = u3) := hid (by (have h9 := GO.out N.length _ (Nat.le_refl _) hbu3.out; rw [inI_none] at h9; exact h9)); obtain ⟨W5, hW5⟩ : ∃ W5, u4.alloc (.cells #[.int .i64 0] 3) = W5 := ⟨_, rfl⟩; obtain ⟨W6, hW6⟩ : ∃ W6, W5.alloc (.cells #[.slice none 0 0, .slice none 0 0] 25) = W6 := ⟨_, rfl⟩; rw [hW5, hW6] at hS0)
    | (go_at_call 22; refine Gn.out.mono ?_; rintro e u ⟨rfl, hu⟩; subst u)
    | (go_at_call 22; refine G0.out.mono ?_; rintro e u ⟨rfl, hu⟩; subst u))
  have hS1 : Hid (∃ (D F : Nat → Prop) (nv av : Value) (vs : List Value) (l : List (Int × Int)), MkA W5.heap.size w3.heap.size K N.length w3 W6 D F (.slice (some ⟨u4.heap.size, 0, none⟩) 1 1) nv av vs (stM (alK K N.length) N 0) l (nxM (alK K N.length) N 0) (acM (alK K N.length) N A 0)) := hid ⟨_, _, _, _, _, _, hS0.out⟩
  have hp3 : Hid (w3.heap[w.heap.size]? = some (.cells #[.slice na N.length nc, .slice aa A.length ac] 25)) := hid (hs_keep hp1.out hb13.out)
  have hz3 : Hid (w3.heap[W0.heap.size]? = some (.cells #[.slice none 0 0, .slice none 0 0] 25)) := hid (hs_keep hz1.out hb13.out)
  have hD3 := hid (hD1.out.keep hb13.out)
  have hbw3 := hid (bl_step (bl_step hb0.out hb1.out) hb13.out)
  have hal := hid (alK_AlB hKA.out)
  clear hmm hW5 hW6 G0 Gn hS0 hins hupd GR GK G2 c0 c1 d0 d1 hW0 hW1 hD1 hp1 hz1 hb13 hb2 hp2 hz0
  generalize u4.heap.size = sb at hS1 ⊢
  generalize W5.heap.size = ob at hS1 ⊢
  go_loopw [6, 8] (fun tv i wr => ∃ m : Nat, m ≤ N.length ∧ i = .int .i64 m ∧ Hid (∃ (D F : Nat → Prop) (nv av : Value) (vs : List Value) (l : List (Int × Int)), MkA ob w3.heap.size K N.length w3 wr D F tv nv av vs (stM (alK K N.length) N m) l (nxM (alK K N.length) N m) (acM (alK K N.length) N A m)) ∧ Hid (∀ j, j < m → j < (stM (alK K N.length) N j).length)) (fun _ i _ => 1000 - (intOf i).toNat)
  case atStart => exact ⟨0, by omega, rfl, hS1, hid (fun j hj => absurd hj (Nat.not_lt_zero _))⟩
  case round =>
    obtain ⟨m, hm, rfl, hSx, hon⟩ := hrel
    obtain ⟨D, F, nv, av, vs, l, hS⟩ := hSx.out
    have hS := hid hS
    clear hSx
    have hMet := hid (stM_met hal.out hrH.out m)
    have hfew : Hid ((stM (alK K N.length) N m).length ≤ N.length) := hid hMet.out.few
    have hsl : Hid ((SI (stM (alK K N.length) N m)).length = (stM (alK K N.length) N m).length) := hid (SI_len _)
    by_cases hlt : m < (stM (alK K N.length) N m).length
    · obtain ⟨g, tc, rfl, hgc⟩ := hS.out.s.at hlt
      have hltz : (m : Int) < ((SI (stM (alK K N.length) N m)).length : Int) := by have := hsl.out; omega
      have hm1 : m + 1 ≤ N.length := by have := hfew.out; omega
      have hi : (stM (alK K N.length) N m).getD m 0 < N.length := by
        rw [getD_el hlt]
        exact hMet.out.lt _ (List.getElem_mem hlt)
      have hq : Hid (∀ b, b ≤ 256 → RowMIs N A (nxA N ((stM (alK K N.length) N m).getD m 0)) (stM (alK K N.length) N m) b (rowM (alK K N.length) N.length (nxA N ((stM (alK K N.length) N m).getD m 0)) (stM (alK K N.length) N m) b)) := hid (fun b hb => rowM_is hal.out hMet.out b hb (fun c hc => nxA_le hrH.out.rgt _ (by omega)))
      have hcs := hid (rowM_cases (alK K N.length) N.length (nxA N ((stM (alK K N.length) N m).getD m 0)) (stM (alK K N.length) N m))
      have hSt1 : Hid (stM (alK K N.length) N (m + 1) = (rowM (alK K N.length) N.length (nxA N ((stM (alK K N.length) N m).getD m 0)) (stM (alK K N.length) N m) 256).1) := hid rfl
      have hNx1 : Hid (nxM (alK K N.length) N (m + 1) = nxM (alK K N.length) N m ++ [(rowM (alK K N.length) N.length (nxA N ((stM (alK K N.length) N m).getD m 0)) (stM (alK K N.length) N m) 256).2]) := hid rfl
      have hAc1 : Hid (acM (alK K N.length) N A (m + 1) = acM (alK K N.length) N A m ++ [A.getD ((stM (alK K N.length) N m).getD m 0) 0]) := hid rfl
      have hacl : (acM (alK K N.length) N A m).length ≤ 240 := by rw [acM_len]; omega
      have hvl : vs.length ≤ 240 := by rw [hS.out.s.df.nums.1, nxM_len]; omega
      obtain ⟨WO, hWO⟩ : ∃ x, x = wr := ⟨_, rfl⟩
      subst hWO
      obtain ⟨W7, hW7⟩ : ∃ W7, WO.alloc (.cells (madeCells #[.int .i64 0] 256) 3) = W7 := ⟨_, rfl⟩
      have hb7 : Hid (Below WO.heap.size WO W7) := by rw [← hW7]; exact hid (al' WO _)
      have hs7 : WO.heap.size < W7.heap.size := by rw [← hW7]; simp
      have ho7 : Own W7 WO.heap.size (.slice (some ⟨WO.heap.size, 0, none⟩) 256 256) (List.replicate 256 0) := by rw [← hW7]; exact made_ints WO 256 (by omega)
      have hL0 : Hid (∀ u, Below W7.heap.size W7 u → ∃ (D F : Nat → Prop) (nv av : Value) (vs : List Value) (l : List (Int × Int)), MkB ob w3.heap.size WO.heap.size K N.length w3 u D F (.slice (some ⟨g, 0, none⟩) (SI (stM (alK K N.length) N m)).length tc) nv av vs (rowM (alK K N.length) N.length (nxA N ((stM (alK K N.length) N m).getD m 0)) (stM (alK K N.length) N m) 0).1 l (nxM (alK K N.length) N m) (acM (alK K N.length) N A m) (rowN0 (rowM (alK K N.length) N.length (nxA N ((stM (alK K N.length) N m).getD m 0)) (stM (alK K N.length) N m) 0).2)) := hid (fun u hd => by
        have hlt0 : ∀ k, F k → k < WO.heap.size := hS.out.s.fL
        have hmk : MkB ob w3.heap.size WO.heap.size K N.length w3 W7 D (fun k => F k ∨ k = WO.heap.size) (.slice (some ⟨g, 0, none⟩) (SI (stM (alK K N.length) N m)).length tc) nv av vs (stM (alK K N.length) N m) l (nxM (alK K N.length) N m) (acM (alK K N.length) N A m) (List.replicate 256 0) :=
          ⟨⟨hS.out.s.newBlk hb7.out hs7, Or.inr rfl, fun e => by have := hlt0 _ (hS.out.s.sF _ e); omega, own_base ho7 hS.out.s.low.size⟩, own_map_kept hS.out.mp (hb7.out.block _ (hlt0 _ hS.out.mF)), Or.inl hS.out.mF, hS.out.mt, fun e => by have := hlt0 _ hS.out.mF; omega, hS.out.ok⟩
        exact ⟨_, _, _, _, _, _, hmk.keep hd⟩)
      obtain ⟨b1, o1, x, e1, hb1x, hc1, hN1⟩ := numss_get hD3.out.nxt hi
      subst e1
      obtain ⟨b2, o2, c2, e2, hb2x, hc2⟩ := nums_get hN1 (c := 0) (by rw [(hrH.out.rgt _ hi).1]; omega)
      rw [(hrH.out.rgt _ hi).1] at e2
      subst e2
      have hrowc : Hid (∀ b u, b < 256 → Below w3.heap.size w3 u → u.cell? ⟨b2, o2 + b, none⟩ = some (.int .i64 (inI N.length (nxA N ((stM (alK K N.length) N m).getD m 0) b)))) := hid (fun b u hb hu => by
        obtain ⟨b9, o9, c9, e9, hb9, hc9⟩ := nums_get hN1 (c := b) (by rw [(hrH.out.rgt _ hi).1]; exact hb)
        injection e9 with e9
        injection e9 with e9
        cases e9
        rw [nxA_some hrH.out.rgt hi hb]
        exact keep_cell hu hc9)
      have hdc : Hid (∀ u, Below w3.heap.size w3 u → u.cell? ⟨b1, o1 + (stM (alK K N.length) N m).getD m 0, none⟩ = some (.slice (some ⟨b2, o2, none⟩) 256 c2) ∧ u.cell? ⟨w.heap.size, 0, none⟩ = some (.slice (some ⟨b1, o1, none⟩) N.length nc) ∧ u.cell? ⟨w.heap.size, 1, none⟩ = some (.slice aa A.length ac)) := hid (fun u hu => by
        obtain ⟨q0, q1, -⟩ := cells2m (hs_keep hp3.out hu)
        exact ⟨keep_cell hu hc1, q0, q1⟩)
      obtain ⟨q2, q0, q1⟩ := hdc.out W7 (bl_step hS.out.s.low hb7.out)
      have q3 : W7.cell? ⟨g, m, none⟩ = some (.int .i64 (((stM (alK K N.length) N m).getD m 0 : Nat) : Int)) := keep_cell hb7.out hgc
      have hiz : (((stM (alK K N.length) N m).getD m 0 : Nat) : Int) < (N.length : Int) := by omega
      have hmk := make256
      clear hN1 hc1 hc2 hgc
      clear ho7 hs7
      have hget0 : Hid (∀ T : List Nat, (∃ U, T = stM (alK K N.length) N m ++ U) → T.getD m 0 = (stM (alK K N.length) N m).getD m 0) := hid (fun T hT => by
        obtain ⟨U, rfl⟩ := hT
        exact getD_left' hlt)
      generalize (stM (alK K N.length) N m).getD m 0 = i at *
      go_wp2_with fail
      go_quiet (fail)
      clear hmk q0 q1 q2 q3 hW7
      have hL1 := hid (hL0.out (W7.drewN nq) (belowN (Below.refl _ _)))
      go_wp2_with fail
      generalize W7.drewN nq = W8 at hL1 ⊢
      clear hL0 hb7 hS
      generalize WO.heap.size = rk at hL1 ⊢
      have hnx : Hid (∀ b, b < 256 → nxA N i b ≤ N.length) := hid (fun b hb => nxA_le hrH.out.rgt i hb)
      have hsubS : Hid (stM (alK K N.length) N m ≠ []) := hid (fun e => by rw [e] at hlt; exact absurd hlt (Nat.not_lt_zero _))
      have hq1 : Hid (∀ b, b ≤ 256 → (rowM (alK K N.length) N.length (nxA N i) (stM (alK K N.length) N m) b).2.length = b ∧ (rowM (alK K N.length) N.length (nxA N i) (stM (alK K N.length) N m) b).1.length ≤ N.length ∧ ∃ U, (rowM (alK K N.length) N.length (nxA N i) (stM (alK K N.length) N m) b).1 = stM (alK K N.length) N m ++ U) := hid (fun b hb => ⟨(hq.out b hb).len, (hq.out b hb).met.few, (hq.out b hb).pre⟩)
      clear hq
      generalize rowM (alK K N.length) N.length (nxA N i) (stM (alK K N.length) N m) = RM at *
      generalize (SI (stM (alK K N.length) N m)).length = sl0 at hL1 ⊢
      go_loopw [6, 44] (fun tv c wr => ∃ b : Nat, b ≤ 256 ∧ c = .int .i64 b ∧ Hid (∃ (D F : Nat → Prop) (nv av : Value) (vs : List Value) (l : List (Int × Int)), MkB ob w3.heap.size rk K N.length w3 wr D F tv nv av vs (RM b).1 l (nxM (alK K N.length) N m) (acM (alK K N.length) N A m) (rowN0 (RM b).2))) (fun _ c _ => 256 - (intOf c).toNat)
      case atStart => exact ⟨0, by omega, rfl, hL1⟩
      case round =>
        obtain ⟨b, hb, rfl, hLx⟩ := hrel
        obtain ⟨D, F, nv, av, vs, l, hL⟩ := hLx.out
        have hL := hid hL
        clear hLx
        obtain ⟨ta, tc, rfl⟩ := own_shape hL.out.L.s.st
        have hSl : Hid ((SI (RM b).1).length = (RM b).1.length) := hid (SI_len _)
        have hle : (SI (RM b).1).length ≤ 240 := by have := hSl.out; have := (hq1.out b hb).2.1; omega
        have hql : Hid ((RM b).2.length = b) := hid (hq1.out b hb).1
        by_cases hb256 : b < 256
        · have hbz : (b : Int) < 256 := by omega
          have hc := hrowc.out b wr hb256 hL.out.L.s.low
          have hto := hid (hnx.out b hb256)
          have GOb := hid (GO.out (nxA N i b) wr hto.out hL.out.L.s.low)
          have hkn := hid (knd_in hKA.out (nxA N i b))
          rcases hcs.out b with ⟨h, e⟩ | ⟨h, hm', e⟩ | ⟨h, hm', e⟩
          · have e1 := hid (congrArg Prod.fst e)
            have e2 := hid (congrArg Prod.snd e)
            have hlk := hL.out.look hto.out hkn.out (num_none (S := (RM b).1) h)
            obtain ⟨p0, p1⟩ := hL.out.L.cell hb256
            clear h e
            generalize nxA N i b = to at *
            generalize inI N.length to = y at *
            generalize knd K N.length to = kk at *
            go_wp2_with (go_at_call 22; refine GOb.out.mono ?_; rintro e u ⟨rfl, hu⟩; subst u)
            go_roundw
            case rel => exact ⟨b + 1, by omega, by go_num, hid ⟨_, _, _, _, _, _, by rw [e1.out, e2.out, ← rowN0_put hql.out hb256]; exact hL.out.put b (-1)⟩⟩
            case measure => simp [intOf]; omega
          · have e1 := hid (congrArg Prod.fst e)
            have e2 := hid (congrArg Prod.snd e)
            have hlk := hL.out.look hto.out hkn.out (num_old h hm')
            obtain ⟨p0, p1⟩ := hL.out.L.cell hb256
            clear h e
            generalize ((RM b).1.findIdx (alK K N.length (nxA N i b)) : Int) = z at *
            generalize nxA N i b = to at *
            generalize inI N.length to = y at *
            generalize knd K N.length to = kk at *
            go_wp2_with (go_at_call 22; refine GOb.out.mono ?_; rintro e u ⟨rfl, hu⟩; subst u)
            go_roundw
            case rel => exact ⟨b + 1, by omega, by go_num, hid ⟨_, _, _, _, _, _, by rw [e1.out, e2.out, ← rowN0_put hql.out hb256]; exact hL.out.put b _⟩⟩
            case measure => simp [intOf]; omega
          · have e1 := hid (congrArg Prod.fst e)
            have e2 := hid (congrArg Prod.snd e)
            obtain ⟨cc, u2, hlk, hup, hM2, hg2⟩ := hL.out.unmet hto.out hkn.out (num_new h hm') (by have := hSl.out; omega)
            have htn : Hid (nxA N i b < N.length) := hid (by
              rcases Nat.lt_or_ge (nxA N i b) N.length with h9 | h9
              · exact h9
              · have e9 : nxA N i b = N.length := by have := hto.out; omega
                rw [e9] at h
                unfold alK at h
                simp at h)
            rw [inI_some htn.out] at hc GOb
            have hd := hid h
            have hmn := hid hm'
            have hL2 := hid (((hL.out.L.other hL.out.mF hL.out.mt hL.out.mr (Kept.of_grown hg2)).keep (al' u2 (.cells #[.int .i64 ((nxA N i b : Nat) : Int)] 3))))
            have hM2 := hid hM2
            have hg2 := hid hg2
            have hsz2 := hid hL2.out.s.df.size
            clear h e hm'
            have hSz : Hid ((((RM b).1.length : Nat) : Int) = ((SI (RM b).1).length : Int)) := hid (by rw [hSl.out])
            rw [hSz.out] at hup
            go_wp2_with (first
              | (at_builtin; refine wpList_append_lies _ (by rfl) _ _ _ (by rfl) w3.heap.size 3 i0 (.int .i64 0) 1 8 Tryz.underlying23 hi0 z00 z01 z02 rfl (by decide) (.slice ta (SI (RM b).1).length tc) (SI (RM b).1).length (numCells (SI (RM b).1)) (by rfl) hL2.out.s.st ⟨u2.heap.size, 0, none⟩ 1 1 [.int .i64 ((nxA N i b : Nat) : Int)] (by rfl) (by rfl) (World.news_of_block (heap_new u2 (.cells #[.int .i64 ((nxA N i b : Nat) : Int)] 3))) (by simp [Value.oneCell']) (by omega) (by (unfold maxLen); omega) (by omega) hsz2.out (u2.alloc (.cells #[.int .i64 ((nxA N i b : Nat) : Int)] 3)).heap.size rfl ?_; intro g5 c5 w5 hown5 hgrow5 hat5 hlt5; obtain ⟨F5, L5⟩ := hL.out.push hd.out hmn.out hM2.out hg2.out hown5 hgrow5 hat5; have L5 := hid L5; obtain ⟨p0, p1⟩ := L5.out.L.cell hb256)
              | (go_at_call 22; refine GOb.out.mono ?_; rintro e u ⟨rfl, hu⟩; subst u))
            go_roundw
            case rel => exact ⟨b + 1, by omega, by go_num, hid ⟨_, _, _, _, _, _, by rw [e1.out, e2.out, hSz.out, ← rowN0_put hql.out hb256]; exact L5.out.put b _⟩⟩
            case measure => simp [intOf]; omega
        · have hbz : ¬ (b : Int) < 256 := by omega
          obtain rfl : b = 256 := by omega
          have hA1 : Hid (MkA ob w3.heap.size K N.length w3 wr D (fun k => F k ∧ k ≠ rk) (.slice ta (SI (RM 256).1).length tc) nv av vs (RM 256).1 l (nxM (alK K N.length) N m) (acM (alK K N.length) N A m)) := hid ⟨hL.out.L.s.drop (fun k hk => hk.1) (fun k e => ⟨hL.out.L.s.sF k e, fun e0 => hL.out.L.rt (by rw [e, e0])⟩), hL.out.mp, ⟨hL.out.mF, hL.out.mr⟩, hL.out.mt, hL.out.ok⟩
          have hrow : Hid (Nums wr (.slice (some ⟨rk, 0, none⟩) 256 256) (RM 256).2) := hid (by
            have h1 := hL.out.L.row
            rw [rowN0_full hql.out] at h1
            exact Nums.of_row h1)
          have hroff : Hid (Off (fun k => D k ∨ (F k ∧ k ≠ rk)) (.slice (some ⟨rk, 0, none⟩) 256 256)) := hid (fun ad q c e h0 hf => by
            injection e with e
            injection e with e
            subst e
            rcases hf with h1 | h1
            · exact hL.out.L.s.df.apart _ h1 hL.out.L.rF
            · exact h1.2 rfl)
          have hrup : Hid (Off (fun k => k < w3.heap.size) (.slice (some ⟨rk, 0, none⟩) 256 256)) := hid (fun ad q c e h0 hf => by
            injection e with e
            injection e with e
            subst e
            exact absurd hf (Nat.not_lt.2 (hL.out.L.s.fF _ hL.out.L.rF)))
          have hvl : vs.length ≤ 240 := by rw [hL.out.L.s.df.nums.1, nxM_len]; omega
          have hget : Hid ((RM 256).1.getD m 0 = i) := hid (hget0.out _ (hq1.out 256 (Nat.le_refl _)).2.2)
          have hmlt : m < (RM 256).1.length := by
            obtain ⟨U, hU⟩ := (hq1.out 256 (Nat.le_refl _)).2.2
            rw [hU, List.length_append]
            omega
          obtain ⟨na', nc', rfl⟩ := own_shape hA1.out.s.df.nxt
          obtain ⟨aa', ac', rfl⟩ := own_shape hA1.out.s.df.acc
          obtain ⟨d0, d1, f0, f1⟩ := cells2m hA1.out.s.df.blk
          have hal6 := hid (al' wr (.cells #[.slice (some ⟨rk, 0, none⟩) 256 256] 23))
          have S6 := hid (hA1.out.keep hal6.out)
          have N6 := hid (hrow.out.keep hal6.out)
          obtain ⟨d0', d1', f0', f1'⟩ := cells2m S6.out.s.df.blk
          obtain ⟨b3, o3, e3, hb3x, hc3⟩ := nums_cell hD3.out.acc i (by have := hAcc.out i hi; omega)
          subst e3
          have hiA : (i : Int) < (A.length : Int) := hAcc.out i hi
          have hac3 : Hid (∀ u, Below w3.heap.size w3 u → u.cell? ⟨b3, o3 + i, none⟩ = some (.int .i64 (A.getD i 0)) ∧ u.cell? ⟨w.heap.size, 1, none⟩ = some (.slice (some ⟨b3, o3, none⟩) A.length ac)) := hid (fun u hu => ⟨keep_cell hu hc3, (hdc.out u hu).2.2⟩)
          clear hL hc3 hb3x
          go_wp2_with (at_builtin; refine wpList_append_lies _ (by rfl) _ _ _ (by rfl) w3.heap.size 23 iN (.slice none 0 0) 1 24 Tryz.underlying22 hiN zN0 zN1 zN2 rfl (by decide) (.slice na' vs.length nc') vs.length vs (by rfl) S6.out.s.df.nxt ⟨wr.heap.size, 0, none⟩ 1 1 [.slice (some ⟨rk, 0, none⟩) 256 256] (by rfl) (by rfl) (World.news_of_block (heap_new wr (.cells #[.slice (some ⟨rk, 0, none⟩) 256 256] 23))) (by simp [Value.oneCell']) (by omega) (by (unfold maxLen); omega) (by omega) S6.out.s.df.size (wr.alloc (.cells #[.slice (some ⟨rk, 0, none⟩) 256 256] 23)).heap.size rfl ?_; intro g7 c7 w7 hown7 hgrow7 hat7 hlt7; obtain ⟨D7, S7⟩ := S6.out.row2 N6.out hroff.out hrup.out hown7 hgrow7 hat7; have S7 := hid S7; obtain ⟨x0, x1, y0, y1⟩ := cells2m (grown_blk hgrow7 S6.out.s.df.blk (fun e0 => (S6.out.s.df.nF _ e0).2.1 rfl)))
          have hall : Hid (∃ (D F : Nat → Prop) (vs' : List Value), MkA ob w3.heap.size K N.length w3 (w7.setCell ⟨ob, 0, none⟩ (.slice (some ⟨g7, 0, none⟩) (vs.length + 1) c7)) D F (.slice ta (SI (RM 256).1).length tc) (.slice (some ⟨g7, 0, none⟩) (vs.length + 1) c7) (.slice aa' (acM (alK K N.length) N A m).length ac') vs' (RM 256).1 l (nxM (alK K N.length) N (m + 1)) (acM (alK K N.length) N A m)) := hid ⟨_, _, _, by rw [hNx1.out]; exact S7.out⟩
          clear S7 d0 d1 f0 f1 d0' d1' f0' f1' x0 x1 y0 y1
          generalize w7.setCell ⟨ob, 0, none⟩ (.slice (some ⟨g7, 0, none⟩) (vs.length + 1) c7) = W9 at hall ⊢
          generalize Value.slice (some ⟨g7, 0, none⟩) (vs.length + 1) c7 = nv7 at hall ⊢
          obtain ⟨D7, F7, vs7, S7⟩ := hall.out
          have S7 := hid S7
          clear hall
          have hd7 : Below W9.heap.size W9 W9.drew := (Below.refl _ _).drew
          have Sd := hid (S7.out.keep hd7)
          clear hd7
          obtain ⟨b0', b1', g0', g1'⟩ := cells2m Sd.out.s.df.blk
          obtain ⟨tg, tc', etv, hgc⟩ := Sd.out.s.at hmlt
          injection etv with etv1 etv2 etv3
          subst etv1
          subst etv3
          rw [hget.out] at hgc
          obtain ⟨a3, a4⟩ := hac3.out W9.drew Sd.out.s.low
          have hmz : (m : Int) < ((SI (RM 256).1).length : Int) := by have := hSl.out; omega
          have S8 := hid (Sd.out.keep (al' W9.drew (.cells #[.int .i64 (A.getD i 0)] 3)))
          obtain ⟨e0', e1', h0', h1'⟩ := cells2m S8.out.s.df.blk
          have hsnA : Hid (∀ (w4 : World) (g4 c4 : Nat), w4.ownsRow w3.heap.size 3 1 (.slice (some ⟨g4, 0, none⟩) ((acM (alK K N.length) N A m).length + 1) c4) ((acM (alK K N.length) N A m).length + 1) (numCells (acM (alK K N.length) N A m) ++ [.int .i64 (A.getD i 0)]) → Own w4 w3.heap.size (.slice (some ⟨g4, 0, none⟩) ((acM (alK K N.length) N A m).length + 1) c4) (acM (alK K N.length) N A (m + 1))) := hid (fun w4 g4 c4 h => by
            have e1 : (acM (alK K N.length) N A m ++ [A.getD i 0]).length = (acM (alK K N.length) N A m).length + 1 := List.length_append
            unfold Own
            rw [hAc1.out, e1, numCells_snoc]
            exact h)
          generalize A.getD i 0 = an at *
          have e0q : (W9.alloc (.cells #[.int .i64 an] 3)).drew.cell? ⟨ob, 0, none⟩ = some nv7 := e0'
          have e1q : (W9.alloc (.cells #[.int .i64 an] 3)).drew.cell? ⟨ob, 1, none⟩ = some (.slice aa' (acM (alK K N.length) N A m).length ac') := e1'
          have h1q : (W9.alloc (.cells #[.int .i64 an] 3)).drew.frozen? ⟨ob, 1, none⟩ = false := h1'
          go_wp2_with fail
          apply collapse
          case h =>
            intro rest
            go_region_law (refine step_append_lies _ (by rfl) (.tmp 82) (.tmp 91) 23 (by rfl) w3.heap.size 3 i0 (.int .i64 0) 1 8 Tryz.underlying23 hi0 z00 z01 z02 rfl (by decide) (.slice aa' (acM (alK K N.length) N A m).length ac') (acM (alK K N.length) N A m).length (numCells (acM (alK K N.length) N A m)) (by rfl) S8.out.s.df.acc ⟨W9.drew.heap.size, 0, none⟩ 1 1 [.int .i64 an] (by rfl) (by rfl) (World.news_of_block (heap_new W9.drew (.cells #[.int .i64 an] 3))) (by simp [Value.oneCell']) (by omega) (by (unfold maxLen); omega) (by omega) S8.out.s.df.size (W9.drew.alloc (.cells #[.int .i64 an] 3)).heap.size rfl ?_; intro g9 c9 w9 hown9 hgrow9 hat9 hlt9; obtain ⟨D9, S9⟩ := S8.out.acc2 (hsnA.out _ _ _ hown9) hgrow9 hat9; have S9 := hid S9; obtain ⟨x0, x1, y0, y1⟩ := cells2m (grown_blk hgrow9 S8.out.s.df.blk (fun e0 => (S8.out.s.df.aF _ e0).2 rfl)))
            all_goals
              have hall : Hid (∃ (D F : Nat → Prop) (nv av : Value) (vs' : List Value) (l : List (Int × Int)), MkA ob w3.heap.size K N.length w3 (w9.setCell ⟨ob, 1, none⟩ (.slice (some ⟨g9, 0, none⟩) ((acM (alK K N.length) N A m).length + 1) c9)) D F (.slice (some ⟨tg, 0, none⟩) (SI (RM 256).1).length tc) nv av vs' (stM (alK K N.length) N (m + 1)) l (nxM (alK K N.length) N (m + 1)) (acM (alK K N.length) N A (m + 1))) := hid ⟨_, _, _, _, _, _, by rw [hSt1.out]; exact S9.out⟩
              generalize w9.setCell ⟨ob, 1, none⟩ (.slice (some ⟨g9, 0, none⟩) ((acM (alK K N.length) N A m).length + 1) c9) = Wn at hall ⊢
              generalize Value.slice (some ⟨g9, 0, none⟩) ((acM (alK K N.length) N A m).length + 1) c9 = av9 at hall ⊢
              revert hall
              revert Wn av9
              exact rest.out
          case pf =>
            intro Wn av9 hall
            have hon' : Hid (∀ j, j < m + 1 → j < (stM (alK K N.length) N j).length) := hid (fun j hj => by
              by_cases e : j = m
              · rw [e]; exact hlt
              · exact hon.out j (by omega))
            go_wp2
            go_roundw
            case rel => exact ⟨m + 1, hm1, by go_num, hall, hon'⟩
            case measure => simp [intOf]; omega
    · have hltz : ¬ (m : Int) < ((SI (stM (alK K N.length) N m)).length : Int) := by have := hsl.out; omega
      obtain ⟨ta, tc, rfl⟩ := own_shape hS.out.s.st
      obtain ⟨oa, oc, rfl⟩ := own_shape hS.out.s.df.nxt
      obtain ⟨pa, pc, rfl⟩ := own_shape hS.out.s.df.acc
      obtain ⟨b0, b1, -⟩ := cells2m hS.out.s.df.blk
      have hfn : Hid ((stM (alK K N.length) N m).length = m) := hid (by
        rcases Nat.eq_zero_or_pos m with e | e
        · have := hMet.out.pos; omega
        · have h3 := hon.out (m - 1) (by omega)
          obtain ⟨U, hU⟩ := stM_pre hal.out hrH.out (m - 1) 1
          rw [show m - 1 + 1 = m by omega] at hU
          have h4 := congrArg List.length hU
          rw [List.length_append] at h4
          omega)
      have hz8 : wr.heap[W0.heap.size]? = some (.cells #[.slice none 0 0, .slice none 0 0] 25) := hs_keep hz3.out hS.out.s.low
      obtain ⟨x0, x1, y0, y1⟩ := cells2m hz8
      have hfb : ((wr.setCell ⟨W0.heap.size, 0, none⟩ (.slice oa vs.length oc)).setCell ⟨W0.heap.size, 1, none⟩ (.slice pa (acM (alK K N.length) N A m).length pc)).heap[W0.heap.size]? = some (.cells #[.slice oa vs.length oc, .slice pa (acM (alK K N.length) N A m).length pc] 25 (0, 0)) := heap_setCell (heap_setCell hz8)
      obtain ⟨r0, r1, -⟩ := cells2m hfb
      have hrb : Hid (W0.heap.size < w3.heap.size) := hid (blk_lt hz3.out)
      have hobr : ob ≠ W0.heap.size := by
        have := hS.out.s.dF _ hS.out.s.df.inD
        have := hrb.out
        omega
      have hkf : Hid (Kept (oneBlk W0.heap.size) wr ((wr.setCell ⟨W0.heap.size, 0, none⟩ (.slice oa vs.length oc)).setCell ⟨W0.heap.size, 1, none⟩ (.slice pa (acM (alK K N.length) N A m).length pc))) := hid (((Kept.refl (oneBlk W0.heap.size) wr).setCell (a := ⟨W0.heap.size, 0, none⟩) (v := .slice oa vs.length oc) (fun _ => rfl)).setCell (a := ⟨W0.heap.size, 1, none⟩) (v := .slice pa (acM (alK K N.length) N A m).length pc) (fun _ => rfl))
      have hend : Hid (∀ u, Kept (oneBlk W0.heap.size) wr u → MkR N A (nxM (alK K N.length) N m) (acM (alK K N.length) N A m) ∧ Dfa u (.slice oa vs.length oc) (.slice pa (acM (alK K N.length) N A m).length pc) (nxM (alK K N.length) N m) (acM (alK K N.length) N A m) ∧ Below w.heap.size w u) := hid (fun u hu => by
        have hD' : ∀ k, D k → ¬ oneBlk W0.heap.size k := fun k hk e0 => by
          have e1 : k = W0.heap.size := e0
          have := hS.out.s.dF k hk
          have := hrb.out
          omega
        have hN' : NumsF (oneBlk W0.heap.size) wr vs (nxM (alK K N.length) N m) := ⟨hS.out.s.df.nums.1, fun j => ⟨(hS.out.s.df.nums.2 j).1, (hS.out.s.up j).sub (fun k e0 => by have e1 : k = W0.heap.size := e0; have := hrb.out; omega)⟩⟩
        have hbl0 := bl_step hbw3.out hS.out.s.low
        refine ⟨⟨_, m, hal.out, ⟨hfn.out, hon.out⟩, rfl, rfl⟩, ⟨numss_of (F := oneBlk W0.heap.size) (own_kept hS.out.s.df.nxt hu (fun k e0 => hD' k (hS.out.s.df.nF k e0).1)) (hN'.kept hu), Nums.of_row (own_kept hS.out.s.df.acc hu (fun k e0 => hD' k (hS.out.s.df.aF k e0).1))⟩, hbl0.trans (hu.below (fun k e0 => ?_) hbl0.size)⟩
        have e1 : k = W0.heap.size := e0
        have := hs0.out
        omega)
      clear hz8 hfb
      go_wp2
      obtain ⟨E1, E2, E3⟩ := hend.out _ hkf.out
      exact bodyPost_ret (v := .tuple #[.agg #[.slice oa vs.length oc, .slice pa (acM (alK K N.length) N A m).length pc], .int .i64 0]) (by simp [results, Tryz.results10, go_sem, r0, r1]) rfl ⟨_, _, rfl, _, _, E1, E2, E3⟩

end Go.Proofs.YtjelgphhlcecoaaGreatDoor
