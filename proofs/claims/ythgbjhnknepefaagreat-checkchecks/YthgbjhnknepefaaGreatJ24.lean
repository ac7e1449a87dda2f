/- Package check: Sound. Marks in memory; markEnds' inner function. slices.IndexFunc, ContainsFunc of markEnds' inner function. markReached's inner function, which calls itself. -/
import Derived.Test.YthgbjhnknepefaaGreatJ23
import Derived.Test.YthgbjhnknepefaaGreatJ15
namespace Go.Proofs.YthgbjhnknepefaaGreat
open Go.RowKit Go.Maps Go.Sort

theorem sound_parts (g : Gm) : SndG g ↔ sizeB g = true ∧ (g.rules.all fun r => rightB r.re) = true ∧ nms2B g = true ∧ levsB g = true ∧ startB g = true ∧ g.prods.all (pdB g) = true := by
  have hlv : levsB g = true ↔ LevOK g := ⟨fun h => Classical.byContradiction fun hn => (by rw [levsB_no hn] at h; cases h), levsB_yes⟩
  rw [hlv]
  unfold sizeB nms2B
  simp only [Bool.and_eq_true, decide_eq_true_eq, List.all_eq_true]
  constructor
  · intro h
    refine ⟨⟨⟨h.rules, h.nonts⟩, h.prods⟩, h.right, ⟨h.named, h.once⟩, ⟨h.levels, h.lev⟩, ?_, h.prod⟩
    unfold startB
    split
    · rename_i h0
      exact decide_eq_true (h.none h0)
    · rename_i h0
      have := h.start (by omega)
      unfold ntmB
      rw [decide_eq_true this.1, decide_eq_true this.2]
      rfl
  · rintro ⟨⟨⟨h1, h2⟩, h3⟩, h4, ⟨h5, h6⟩, h7, h8, h9⟩
    unfold startB at h8
    refine ⟨h1, h2, h3, h4, h5, h6, h7.len, h7.lev, fun h0 => ?_, fun h0 => ?_, h9⟩
    · rw [if_pos h0] at h8
      exact of_decide_eq_true h8
    · rw [if_neg (by omega)] at h8
      unfold ntmB at h8
      rw [Bool.and_eq_true] at h8
      exact ⟨of_decide_eq_true h8.1, of_decide_eq_true h8.2⟩
theorem soundB_is (g : Gm) : soundB g = (sizeB g && (g.rules.all fun r => rightB r.re) && nms2B g && levsB g && startB g && g.prods.all (pdB g)) := by
  by_cases h : SndG g
  · rw [soundB_yes h]
    obtain ⟨h1, h2, h3, h4, h5, h6⟩ := (sound_parts g).1 h
    rw [h1, h2, h3, h4, h5, h6]
    rfl
  · rw [soundB_no h]
    symm
    refine Bool.eq_false_iff.2 fun h9 => h ((sound_parts g).2 ?_)
    simp only [Bool.and_eq_true] at h9
    exact ⟨h9.1.1.1.1.1, h9.1.1.1.1.2, h9.1.1.1.2, h9.1.1.2, h9.1.2, h9.2⟩
set_option maxRecDepth 20000 in
set_option maxHeartbeats 16000000 in
theorem soundP (g : Gm) (rv nv lv pv : Value) (w : World) (hV : GmV w rv nv lv pv g) (hb : BndG g) (hnl : ∀ t ∈ g.allN, t.length ≤ 1000000) :
    Calls Tryz.prog 11 #[gmA rv nv lv pv g.start] w fun e w' => e = .returned (.bool (soundB g)) ∧ Below w.heap.size w w' := by
  have hB1 := al' w (.cells #[rv, nv, lv, pv, .int .i64 g.start] 27)
  have k1 := heap_new w (.cells #[rv, nv, lv, pv, .int .i64 g.start] 27)
  obtain ⟨W, hW⟩ : ∃ x, w.alloc (.cells #[rv, nv, lv, pv, .int .i64 g.start] 27) = x := ⟨_, rfl⟩
  rw [hW] at hB1 k1
  have hB := hid hB1
  have hk1 := hid (fun u (hu : Below W.heap.size W u) => cells5m (hs_keep k1 hu))
  have hr := hb.rules
  have hn := hb.nonts
  have hlv := hb.levels
  have hpr := hb.prods
  have G0 := hid (fun u (hu : Below W.heap.size W u) => sizeC rv nv lv pv g g.start u (hV.keep (bl_step hB1 hu)))
  have G1 := hid (fun u (hu : Below W.heap.size W u) => rulesC rv nv lv pv g g.start u (hV.keep (bl_step hB1 hu)) hr)
  have G2 : Hid (sizeB g = true → ∀ u (_ : Below W.heap.size W u), Calls Tryz.prog 27 #[gmA rv nv lv pv g.start] u fun e w' => e = .returned (.bool (nms2B g)) ∧ Below u.heap.size u w') := hid (fun hs u hu => by
    unfold sizeB at hs
    simp only [Bool.and_eq_true, decide_eq_true_eq] at hs
    exact namesP rv nv lv pv g g.start u (hV.keep (bl_step hB1 hu)) (by omega) (by omega) hnl)
  have G3 := hid (fun u (hu : Below W.heap.size W u) => levelsC rv nv lv pv g g.start u (hV.keep (bl_step hB1 hu)) hr hlv)
  have G4 := hid (fun u (hu : Below W.heap.size W u) => startK3 rv nv lv pv g u (hV.keep (bl_step hB1 hu)) hr hn)
  have G5 := hid (fun u (hu : Below W.heap.size W u) => prodsC rv nv lv pv g g.start u (hV.keep (bl_step hB1 hu)) hb hr hn hpr)
  obtain ⟨x0, x1, x2, x3, x4⟩ := hk1.out W (Below.refl _ _)
  rw [soundB_is]
  have hcells : Hid (Below W.heap.size W W) := hid (Below.refl _ _)
  clear hV hB1 k1 hb hnl hr hn hlv hpr
  generalize g.start = st at *
  generalize sizeB g = B0 at *
  generalize (g.rules.all fun r => rightB r.re) = B1 at *
  generalize nms2B g = B2 at *
  generalize levsB g = B3 at *
  generalize startB g = B4 at *
  generalize g.prods.all (pdB g) = B5 at *
  cases B0 with
  | false =>
    go_enter Tryz.func11, Tryz.ntmps11
    go_wp2_with (first
    | (go_at_call 25; refine (G0.out _ hcells.out).mono ?_; clear G0; rintro e w1 ⟨rfl, hc1⟩; have h1 := hid (bl_step hcells.out hc1); obtain ⟨y0a, y0b, y0c, y0d, y0e⟩ := hk1.out w1 h1.out; clear hc1))
    go_ret
    exact ⟨by simp, bl_step hB.out h1.out⟩
  | true =>
    have GX := hid (fun u (hu : Below W.heap.size W u) => G2.out rfl u hu)
    clear G2
    cases B1 with
    | false =>
      go_enter Tryz.func11, Tryz.ntmps11
      go_wp2_with (first
    | (go_at_call 25; refine (G0.out _ hcells.out).mono ?_; clear G0; rintro e w1 ⟨rfl, hc1⟩; have h1 := hid (bl_step hcells.out hc1); obtain ⟨y0a, y0b, y0c, y0d, y0e⟩ := hk1.out w1 h1.out; clear hc1)
    | (go_at_call 26; refine (G1.out _ h1.out).mono ?_; clear G1; rintro e w2 ⟨rfl, hc2⟩; have h2 := hid (bl_step h1.out hc2); obtain ⟨y1a, y1b, y1c, y1d, y1e⟩ := hk1.out w2 h2.out; clear hc2))
      go_ret
      exact ⟨by simp, bl_step hB.out h2.out⟩
    | true =>
      cases B2 with
      | false =>
        go_enter Tryz.func11, Tryz.ntmps11
        go_wp2_with (first
    | (go_at_call 25; refine (G0.out _ hcells.out).mono ?_; clear G0; rintro e w1 ⟨rfl, hc1⟩; have h1 := hid (bl_step hcells.out hc1); obtain ⟨y0a, y0b, y0c, y0d, y0e⟩ := hk1.out w1 h1.out; clear hc1)
    | (go_at_call 26; refine (G1.out _ h1.out).mono ?_; clear G1; rintro e w2 ⟨rfl, hc2⟩; have h2 := hid (bl_step h1.out hc2); obtain ⟨y1a, y1b, y1c, y1d, y1e⟩ := hk1.out w2 h2.out; clear hc2)
    | (go_at_call 27; refine (GX.out _ h2.out).mono ?_; clear GX; rintro e w3 ⟨rfl, hc3⟩; have h3 := hid (bl_step h2.out hc3); obtain ⟨y2a, y2b, y2c, y2d, y2e⟩ := hk1.out w3 h3.out; clear hc3))
        go_ret
        exact ⟨by simp, bl_step hB.out h3.out⟩
      | true =>
        cases B3 with
        | false =>
          go_enter Tryz.func11, Tryz.ntmps11
          go_wp2_with (first
    | (go_at_call 25; refine (G0.out _ hcells.out).mono ?_; clear G0; rintro e w1 ⟨rfl, hc1⟩; have h1 := hid (bl_step hcells.out hc1); obtain ⟨y0a, y0b, y0c, y0d, y0e⟩ := hk1.out w1 h1.out; clear hc1)
    | (go_at_call 26; refine (G1.out _ h1.out).mono ?_; clear G1; rintro e w2 ⟨rfl, hc2⟩; have h2 := hid (bl_step h1.out hc2); obtain ⟨y1a, y1b, y1c, y1d, y1e⟩ := hk1.out w2 h2.out; clear hc2)
    | (go_at_call 27; refine (GX.out _ h2.out).mono ?_; clear GX; rintro e w3 ⟨rfl, hc3⟩; have h3 := hid (bl_step h2.out hc3); obtain ⟨y2a, y2b, y2c, y2d, y2e⟩ := hk1.out w3 h3.out; clear hc3)
    | (go_at_call 28; refine (G3.out _ h3.out).mono ?_; clear G3; rintro e w4 ⟨rfl, hc4⟩; have h4 := hid (bl_step h3.out hc4); obtain ⟨y3a, y3b, y3c, y3d, y3e⟩ := hk1.out w4 h4.out; clear hc4))
          go_ret
          exact ⟨by simp, bl_step hB.out h4.out⟩
        | true =>
          cases B4 with
          | false =>
            go_enter Tryz.func11, Tryz.ntmps11
            go_wp2_with (first
    | (go_at_call 25; refine (G0.out _ hcells.out).mono ?_; clear G0; rintro e w1 ⟨rfl, hc1⟩; have h1 := hid (bl_step hcells.out hc1); obtain ⟨y0a, y0b, y0c, y0d, y0e⟩ := hk1.out w1 h1.out; clear hc1)
    | (go_at_call 26; refine (G1.out _ h1.out).mono ?_; clear G1; rintro e w2 ⟨rfl, hc2⟩; have h2 := hid (bl_step h1.out hc2); obtain ⟨y1a, y1b, y1c, y1d, y1e⟩ := hk1.out w2 h2.out; clear hc2)
    | (go_at_call 27; refine (GX.out _ h2.out).mono ?_; clear GX; rintro e w3 ⟨rfl, hc3⟩; have h3 := hid (bl_step h2.out hc3); obtain ⟨y2a, y2b, y2c, y2d, y2e⟩ := hk1.out w3 h3.out; clear hc3)
    | (go_at_call 28; refine (G3.out _ h3.out).mono ?_; clear G3; rintro e w4 ⟨rfl, hc4⟩; have h4 := hid (bl_step h3.out hc4); obtain ⟨y3a, y3b, y3c, y3d, y3e⟩ := hk1.out w4 h4.out; clear hc4)
    | (go_at_call 29; refine (G4.out _ h4.out).mono ?_; clear G4; rintro e w5 ⟨rfl, hc5⟩; have h5 := hid (bl_step h4.out hc5); obtain ⟨y4a, y4b, y4c, y4d, y4e⟩ := hk1.out w5 h5.out; clear hc5))
            go_ret
            exact ⟨by simp, bl_step hB.out h5.out⟩
          | true =>
            cases B5 with
            | false =>
              go_enter Tryz.func11, Tryz.ntmps11
              go_wp2_with (first
    | (go_at_call 25; refine (G0.out _ hcells.out).mono ?_; clear G0; rintro e w1 ⟨rfl, hc1⟩; have h1 := hid (bl_step hcells.out hc1); obtain ⟨y0a, y0b, y0c, y0d, y0e⟩ := hk1.out w1 h1.out; clear hc1)
    | (go_at_call 26; refine (G1.out _ h1.out).mono ?_; clear G1; rintro e w2 ⟨rfl, hc2⟩; have h2 := hid (bl_step h1.out hc2); obtain ⟨y1a, y1b, y1c, y1d, y1e⟩ := hk1.out w2 h2.out; clear hc2)
    | (go_at_call 27; refine (GX.out _ h2.out).mono ?_; clear GX; rintro e w3 ⟨rfl, hc3⟩; have h3 := hid (bl_step h2.out hc3); obtain ⟨y2a, y2b, y2c, y2d, y2e⟩ := hk1.out w3 h3.out; clear hc3)
    | (go_at_call 28; refine (G3.out _ h3.out).mono ?_; clear G3; rintro e w4 ⟨rfl, hc4⟩; have h4 := hid (bl_step h3.out hc4); obtain ⟨y3a, y3b, y3c, y3d, y3e⟩ := hk1.out w4 h4.out; clear hc4)
    | (go_at_call 29; refine (G4.out _ h4.out).mono ?_; clear G4; rintro e w5 ⟨rfl, hc5⟩; have h5 := hid (bl_step h4.out hc5); obtain ⟨y4a, y4b, y4c, y4d, y4e⟩ := hk1.out w5 h5.out; clear hc5)
    | (go_at_call 30; refine (G5.out _ h5.out).mono ?_; clear G5; rintro e w6 ⟨rfl, hc6⟩; have h6 := hid (bl_step h5.out hc6); obtain ⟨y5a, y5b, y5c, y5d, y5e⟩ := hk1.out w6 h6.out; clear hc6))
              go_ret
              exact ⟨by simp, bl_step hB.out h6.out⟩
            | true =>
              go_enter Tryz.func11, Tryz.ntmps11
              go_wp2_with (first
    | (go_at_call 25; refine (G0.out _ hcells.out).mono ?_; clear G0; rintro e w1 ⟨rfl, hc1⟩; have h1 := hid (bl_step hcells.out hc1); obtain ⟨y0a, y0b, y0c, y0d, y0e⟩ := hk1.out w1 h1.out; clear hc1)
    | (go_at_call 26; refine (G1.out _ h1.out).mono ?_; clear G1; rintro e w2 ⟨rfl, hc2⟩; have h2 := hid (bl_step h1.out hc2); obtain ⟨y1a, y1b, y1c, y1d, y1e⟩ := hk1.out w2 h2.out; clear hc2)
    | (go_at_call 27; refine (GX.out _ h2.out).mono ?_; clear GX; rintro e w3 ⟨rfl, hc3⟩; have h3 := hid (bl_step h2.out hc3); obtain ⟨y2a, y2b, y2c, y2d, y2e⟩ := hk1.out w3 h3.out; clear hc3)
    | (go_at_call 28; refine (G3.out _ h3.out).mono ?_; clear G3; rintro e w4 ⟨rfl, hc4⟩; have h4 := hid (bl_step h3.out hc4); obtain ⟨y3a, y3b, y3c, y3d, y3e⟩ := hk1.out w4 h4.out; clear hc4)
    | (go_at_call 29; refine (G4.out _ h4.out).mono ?_; clear G4; rintro e w5 ⟨rfl, hc5⟩; have h5 := hid (bl_step h4.out hc5); obtain ⟨y4a, y4b, y4c, y4d, y4e⟩ := hk1.out w5 h5.out; clear hc5)
    | (go_at_call 30; refine (G5.out _ h5.out).mono ?_; clear G5; rintro e w6 ⟨rfl, hc6⟩; have h6 := hid (bl_step h5.out hc6); obtain ⟨y5a, y5b, y5c, y5d, y5e⟩ := hk1.out w6 h6.out; clear hc6))
              go_ret
              exact ⟨by simp, bl_step hB.out h6.out⟩

end Go.Proofs.YthgbjhnknepefaaGreat
namespace Go.Proofs.YthgbjhnknepefaaGreat
open Go.RowKit Go.Maps Go.Sort

/-- the first nonterminal in a block of its own, the marks' slice in one, the marks in one -/
structure MkM (w : World) (fb sb mb tm : Nat) (L : List Bool) : Prop where
  first : w.heap[fb]? = some (.cells #[.int .i64 ((tm : Int) + 1)] 3)
  sl : w.heap[sb]? = some (.cells #[.slice (some ⟨mb, 0, none⟩) L.length L.length] 77)
  row : w.heap[mb]? = some (.cells (L.map Value.bool).toArray 4)
  fm : fb ≠ mb
  sm : sb ≠ mb
theorem MkM.keep {w u : World} {fb sb mb tm : Nat} {L : List Bool} (h : MkM w fb sb mb tm L) (hu : Below w.heap.size w u) : MkM u fb sb mb tm L := ⟨hs_keep h.first hu, hs_keep h.sl hu, hs_keep h.row hu, h.fm, h.sm⟩
theorem MkM.c0 {w : World} {fb sb mb tm : Nat} {L : List Bool} (h : MkM w fb sb mb tm L) : w.cell? ⟨fb, 0, none⟩ = some (.int .i64 ((tm : Int) + 1)) ∧ w.cell? ⟨sb, 0, none⟩ = some (.slice (some ⟨mb, 0, none⟩) L.length L.length) := ⟨blk_cell h.first rfl, blk_cell h.sl rfl⟩
theorem MkM.at {w : World} {fb sb mb tm : Nat} {L : List Bool} (h : MkM w fb sb mb tm L) {j : Nat} (hj : j < L.length) : w.cell? ⟨mb, j, none⟩ = some (.bool L[j]) := blk_cell h.row (by simp [hj])
theorem MkM.free {w : World} {fb sb mb tm : Nat} {L : List Bool} (h : MkM w fb sb mb tm L) (j : Nat) : w.frozen? ⟨mb, j, none⟩ = false := blk_frozen h.row j
theorem MkM.set {w : World} {fb sb mb tm : Nat} {L : List Bool} (h : MkM w fb sb mb tm L) (j : Nat) : MkM (w.setCell ⟨mb, j, none⟩ (.bool true)) fb sb mb tm (L.set j true) := by
  have hk : Kept (oneBlk mb) w (w.setCell ⟨mb, j, none⟩ (.bool true)) := set_kept
  refine ⟨hk.blk h.first h.fm, ?_, ?_, h.fm, h.sm⟩
  · rw [List.length_set]
    exact hk.blk h.sl h.sm
  · rw [heap_setCell h.row]
    simp [List.map_set]
/-- has a symbol no mark, and is it a nonterminal? -/
def opnB (tm : Nat) (L : List Bool) (s : Int) : Bool := decide ((tm : Int) < s) && !(L.getD (s - (tm : Int) - 1).toNat false)
set_option maxRecDepth 20000 in
set_option maxHeartbeats 8000000 in
theorem openC (fb sb mb tm : Nat) (L : List Bool) (s : Int) (w : World) (h : MkM w fb sb mb tm L) (_ht : tm ≤ 1000) (hL : L.length ≤ 1000) (hs : s ≤ (tm : Int) + (L.length : Int)) :
    Calls Tryz.prog 57 #[.int .i64 s, ptr0 fb, ptr0 sb] w fun e w' => e = .returned (.bool (opnB tm L s)) ∧ w' = w := by
  obtain ⟨c0, c1⟩ := h.c0
  unfold opnB
  by_cases hg : (tm : Int) + 1 ≤ s
  · rw [decide_eq_true (show (tm : Int) < s by omega)]
    have hj : (s - (tm : Int) - 1).toNat < L.length := by omega
    have c2 := h.at hj
    have hgd : L.getD (s - (tm : Int) - 1).toNat false = L[(s - (tm : Int) - 1).toNat] := by rw [List.getD_eq_getElem?_getD, List.getElem?_eq_getElem hj]; rfl
    rw [hgd]
    generalize L[(s - (tm : Int) - 1).toNat] = b at *
    obtain ⟨j, hj2⟩ : ∃ j : Nat, (s - (tm : Int) - 1).toNat = j := ⟨_, rfl⟩
    rw [hj2] at c2 hj
    have hsj : s = (tm : Int) + 1 + (j : Int) := by omega
    clear hgd h
    subst hsj
    generalize L.length = N at *
    have hsub : (tm : Int) + 1 + (j : Int) - ((tm : Int) + 1) = (j : Int) := by omega
    go_enter Tryz.func57, Tryz.ntmps57
    go_wp2
    go_ret
    exact ⟨by cases b <;> rfl, rfl⟩
  · rw [decide_eq_false (show ¬ (tm : Int) < s by omega)]
    go_enter Tryz.func57, Tryz.ntmps57
    go_wp2
    go_ret
    exact ⟨rfl, rfl⟩

end Go.Proofs.YthgbjhnknepefaaGreat
namespace Go.Proofs.YthgbjhnknepefaaGreat
open Go.RowKit Go.Maps Go.Sort

abbrev opnV (fb sb : Nat) : Value := .func (.func 57) #[] #[ptr0 fb, ptr0 sb]
set_option maxRecDepth 20000 in
set_option maxHeartbeats 8000000 in
theorem idxOpen (fb sb mb tm : Nat) (L : List Bool) (v : Value) (l : List Int) (w : World) (h : MkM w fb sb mb tm L) (hN : Nums w v l) (ht : tm ≤ 1000) (hL : L.length ≤ 1000) (hll : l.length ≤ 1000) (hs : ∀ s ∈ l, s ≤ (tm : Int) + (L.length : Int)) :
    Calls Tryz.prog 76 #[v, opnV fb sb] w fun e w' => ∃ i : Int, e = .returned (.int .i64 i) ∧ decide (0 ≤ i) = l.any (opnB tm L) ∧ w' = w := by
  obtain ⟨va, vc, rfl, -⟩ := id hN
  have hNm : Hid (∀ k (hk : k < l.length), ∃ b o, va = some ⟨b, o, none⟩ ∧ w.cell? ⟨b, o + k, none⟩ = some (.int .i64 l[k])) := hid (fun k hk => by
    obtain ⟨b, o, cap, e, _, _, hc⟩ := hN.at (by omega)
    injection e with e1 _ _
    exact ⟨b, o, e1, hc k hk⟩)
  have G := hid (fun k (hk : k < l.length) => openC fb sb mb tm L l[k] w h ht hL (hs _ (List.getElem_mem hk)))
  have hyes : Hid (∀ k (hk : k < l.length), opnB tm L l[k] = true → l.any (opnB tm L) = true) := hid (fun k hk h => List.any_eq_true.2 ⟨_, List.getElem_mem hk, h⟩)
  have hno : Hid ((∀ k (hk : k < l.length), opnB tm L l[k] = false) → l.any (opnB tm L) = false) := hid (fun h => by
    rw [List.any_eq_false]
    intro x hx
    obtain ⟨k, hk, rfl⟩ := List.getElem_of_mem hx
    rw [h k hk]
    decide)
  generalize l.any (opnB tm L) = R at *
  obtain ⟨n, hn⟩ : ∃ n, Hid (l.length = n) := ⟨_, hid rfl⟩
  rw [hn.out] at hll ⊢
  clear h hN hs
  go_enter Tryz.func76, Tryz.ntmps76
  go_wp2
  go_loopw [8] (fun i wr => ∃ k : Nat, k ≤ n ∧ i = .int .i64 (k : Int) ∧ Hid (∀ j (hj : j < l.length), j < k → opnB tm L l[j] = false) ∧ wr = w) (fun i _ => n - (intOf i).toNat)
  case atStart => exact ⟨0, Nat.zero_le _, rfl, hid (fun _ _ h => absurd h (Nat.not_lt_zero _)), rfl⟩
  case round =>
    obtain ⟨k, hk, rfl, hI, rfl⟩ := hrel
    by_cases hlt : k < n
    · have hltz : (k : Int) < (n : Int) := by omega
      have hkl : k < l.length := by rw [hn.out]; exact hlt
      obtain ⟨b, o, rfl, c0⟩ := hNm.out k hkl
      have G1 := hid (G.out k hkl)
      have hy := hid (hyes.out k hkl)
      have hmore : Hid (opnB tm L l[k] = false → ∀ j (hj : j < l.length), j < k + 1 → opnB tm L l[j] = false) := hid (fun h j hj h9 => by
        rcases Nat.lt_or_ge j k with h8 | h8
        · exact hI.out j hj h8
        · obtain rfl : j = k := by omega
          exact h)
      clear hI hyes hno hNm G
      generalize l[k] = s at *
      cases hb : opnB tm L s with
      | false =>
        have hm9 := hid (hmore.out hb)
        rw [hb] at G1
        clear hmore hy hb
        go_wp2_with (go_at_call 57; refine G1.out.mono ?_; clear G1; rintro e w4 ⟨rfl, hc4⟩; subst w4)
        go_roundw
        case rel => exact ⟨k + 1, by omega, by go_num, hm9, by first | rfl | trivial⟩
        case measure => simp [intOf]; omega
      | true =>
        obtain rfl := hy.out hb
        rw [hb] at G1
        clear hmore hy hb
        go_wp2_with (go_at_call 57; refine G1.out.mono ?_; clear G1; rintro e w4 ⟨rfl, hc4⟩; subst w4)
        go_ret
        exact ⟨_, rfl, decide_eq_true (by omega), rfl⟩
    · have hltz : ¬ (k : Int) < (n : Int) := by omega
      obtain rfl := hno.out (fun j hj => hI.out j hj (by rw [hn.out] at hj; omega))
      go_wp2
      go_ret
      exact ⟨_, rfl, by decide, rfl⟩
set_option maxRecDepth 20000 in
set_option maxHeartbeats 8000000 in
theorem hasOpen (fb sb mb tm : Nat) (L : List Bool) (v : Value) (l : List Int) (w : World) (h : MkM w fb sb mb tm L) (hN : Nums w v l) (ht : tm ≤ 1000) (hL : L.length ≤ 1000) (hll : l.length ≤ 1000) (hs : ∀ s ∈ l, s ≤ (tm : Int) + (L.length : Int)) :
    Calls Tryz.prog 58 #[v, opnV fb sb] w fun e w' => e = .returned (.bool (l.any (opnB tm L))) ∧ w' = w := by
  have G := hid (idxOpen fb sb mb tm L v l w h hN ht hL hll hs)
  generalize l.any (opnB tm L) = R at *
  obtain ⟨va, vc, rfl, -⟩ := id hN
  generalize l.length = n at *
  clear h
  go_enter Tryz.func58, Tryz.ntmps58
  go_wp2_with (go_at_call 76; refine G.out.mono ?_; clear G; rintro e w4 ⟨i, rfl, hi, hc4⟩; subst w4)
  go_ret
  exact ⟨by first | (rw [← hi]; rfl) | (rw [← hi]; simp), rfl⟩

end Go.Proofs.YthgbjhnknepefaaGreat
namespace Go.Proofs.YthgbjhnknepefaaGreat
open Go.RowKit Go.Maps Go.Sort

abbrev mrkV (fb sb gb kb : Nat) : Value := .func (.func 56) #[] #[ptr0 fb, ptr0 sb, ptr0 gb, ptr0 kb]
/-- what stays while marks are put -/
structure MkE (w0 w : World) (fb sb gb kb mb : Nat) (rv nv lv pv : Value) (st : Int) : Prop where
  low : Below w0.heap.size w0 w
  grm : w.heap[gb]? = some (.cells #[rv, nv, lv, pv, .int .i64 st] 27)
  fn : w.heap[kb]? = some (.cells #[mrkV fb sb gb kb] 94)
  gm : gb ≠ mb
  km : kb ≠ mb
  m0 : w0.heap.size ≤ mb
theorem MkE.keep {w0 w u : World} {fb sb gb kb mb : Nat} {rv nv lv pv : Value} {st : Int} (h : MkE w0 w fb sb gb kb mb rv nv lv pv st) (hu : Kept (oneBlk mb) w u) : MkE w0 u fb sb gb kb mb rv nv lv pv st :=
  ⟨h.low.trans (hu.below (fun k e => by rw [show k = mb from e]; exact h.m0) h.low.size), hu.blk h.grm h.gm, hu.blk h.fn h.km, h.gm, h.km, h.m0⟩
/-- what a call leaves -/
abbrev MkA (g : Gm) (fb sb mb : Nat) (L : List Bool) (s : Int) (w : World) : Ending → World → Prop := fun e w' => e = .returned (.tuple #[]) ∧ ∃ L', MkM w' fb sb mb g.terms L' ∧ MkPost g L L' s ∧ Kept (oneBlk mb) w w'
set_option maxRecDepth 20000 in
set_option maxHeartbeats 16000000 in
theorem markStep (g : Gm) (hg : SndG g) (w0 : World) (fb sb gb kb mb : Nat) (rv nv lv pv : Value) (st : Int) (hV : GmV w0 rv nv lv pv g) (L : List Bool) (s : Int) (w : World) (hLn : L.length = g.nonts.length) (hM : MkM w fb sb mb g.terms L) (hE : MkE w0 w fb sb gb kb mb rv nv lv pv st) (hsa : s ≤ (g.all : Int))
    (H : ∀ (C : List Bool) (r : Int) (u : World), offN C + 1 ≤ offN L → C.length = g.nonts.length → MkM u fb sb mb g.terms C → MkE w0 u fb sb gb kb mb rv nv lv pv st → r ≤ (g.all : Int) → Calls Tryz.prog 56 #[.int .i64 r, ptr0 fb, ptr0 sb, ptr0 gb, ptr0 kb] u (MkA g fb sb mb C r u)) :
    Calls Tryz.prog 56 #[.int .i64 s, ptr0 fb, ptr0 sb, ptr0 gb, ptr0 kb] w (MkA g fb sb mb L s w) := by
  obtain ⟨c0, c1⟩ := hM.c0
  have hr := hg.rules
  have hn := hg.nonts
  have hp := hg.prods
  have ht := terms_le g
  have hall : g.all = g.terms + g.nonts.length := rfl
  by_cases hg1 : s < (g.terms : Int) + 1
  · have hpost : Hid (MkA g fb sb mb L s w (.returned (.tuple #[])) w) := hid ⟨rfl, L, hM, MkPost.idle (fun h => by omega), Kept.refl _ _⟩
    generalize MkA g fb sb mb L s w = Q at *
    clear H hV hM hE hall
    generalize g.terms = tm at *
    go_enter Tryz.func56, Tryz.ntmps56
    go_wp2
    refine bodyPost_ret (results_none rfl _ _ _) rfl ?_
    exact hpost.out
  · have hj : (s - (g.terms : Int) - 1).toNat < L.length := by omega
    have c2 := hM.at hj
    obtain ⟨j, hj2⟩ : ∃ j : Nat, (s - (g.terms : Int) - 1).toNat = j := ⟨_, rfl⟩
    have hsj : s = (g.terms : Int) + 1 + (j : Int) := by omega
    have hjL : j < L.length := by omega
    have c2' : w.cell? ⟨mb, j, none⟩ = some (.bool L[j]) := hM.at hjL
    clear c2
    cases hb : L[j] with
    | true =>
      rw [hb] at c2'
      have hpost : Hid (MkA g fb sb mb L s w (.returned (.tuple #[])) w) := hid ⟨rfl, L, hM, MkPost.idle (fun h => ⟨h, by rw [hj2, List.getElem?_eq_getElem hjL, hb]⟩), Kept.refl _ _⟩
      generalize MkA g fb sb mb L s w = Q at *
      clear H hV hM hE hall hb
      generalize g.terms = tm at *
      generalize L.length = N at *
      have hsub : s - ((tm : Int) + 1) = (j : Int) := by omega
      go_enter Tryz.func56, Tryz.ntmps56
      go_wp2
      refine bodyPost_ret (results_none rfl _ _ _) rfl ?_
      exact hpost.out
    | false =>
      rw [hb] at c2'
      have hmore := mrk_count (tm := g.terms) (s := s) (L := L) (by rw [hj2, List.getElem?_eq_getElem hjL, hb])
      rw [hj2] at hmore
      have hM1 := hM.set j
      have hI0 := MkL.start (g := g) (L := L) (s := s) (by omega) (by omega)
      rw [hj2] at hI0
      have hK1 : Kept (oneBlk mb) w (w.setCell ⟨mb, j, none⟩ (.bool true)) := set_kept
      have hfz := hM.free j
      obtain ⟨w1, hw1⟩ : ∃ x, w.setCell ⟨mb, j, none⟩ (.bool true) = x := ⟨_, rfl⟩
      rw [hw1] at hM1 hK1
      obtain ⟨pa, pc, rfl⟩ := hV.prods.shape
      have hgc : Hid (∀ u, Kept (oneBlk mb) w u → u.cell? ⟨gb, 3, none⟩ = some (.slice pa g.prods.length pc)) := hid (fun u hu => blk_cell (hE.keep hu).grm rfl)
      have hfc : Hid (∀ u, Kept (oneBlk mb) w u → u.cell? ⟨kb, 0, none⟩ = some (mrkV fb sb gb kb)) := hid (fun u hu => blk_cell (hE.keep hu).fn rfl)
      have hKp : Hid (∀ u, Kept (oneBlk mb) w u → ∀ i (hi : i < g.prods.length), ∃ b o q1 q3, pa = some ⟨b, o, none⟩ ∧ u.cell? ⟨b, o + i * 3, none⟩ = some (.int .i64 g.prods[i].left) ∧ u.cell? ⟨b, o + i * 3 + 1, none⟩ = some (.slice q1 g.prods[i].right.length q3) ∧ u.cell? ⟨b, o + i * 3 + 2, none⟩ = some (.int .i64 g.prods[i].prec) ∧ ∀ u', Kept (oneBlk mb) w u' → ∀ k (hk : k < g.prods[i].right.length), ∃ b' o', q1 = some ⟨b', o', none⟩ ∧ u'.cell? ⟨b', o' + k, none⟩ = some (.int .i64 g.prods[i].right[k])) := hid (fun u hu i hi => by
        obtain ⟨b0, o0, e0, hb0, v, h0, h1, h2, hN⟩ := hV.prods.at hi
        obtain ⟨q1, q3, rfl, -⟩ := id hN
        have hu0 := (hE.keep hu).low
        refine ⟨b0, o0, q1, q3, e0, keep_cell hu0 h0, keep_cell hu0 h1, keep_cell hu0 h2, fun u' hu' k hk => ?_⟩
        obtain ⟨b', o', cap, e', _, _, hc⟩ := (hN.keep (hE.keep hu').low).at (by omega)
        injection e' with e1 _ _
        exact ⟨b', o', e1, hc k hk⟩)
      have hcall : Hid (∀ u (C : List Bool) i (hi : i < g.prods.length) k (hk : k < g.prods[i].right.length), Kept (oneBlk mb) w u → MkM u fb sb mb g.terms C → MkL g L C s i k → offN C + 1 ≤ offN L → Calls Tryz.prog 56 #[.int .i64 g.prods[i].right[k], ptr0 fb, ptr0 sb, ptr0 gb, ptr0 kb] u (MkA g fb sb mb C g.prods[i].right[k] u)) := hid (fun u C i hi k hk hu hMu hI hoff => by
        refine H C g.prods[i].right[k] u hoff (hI.len.trans hLn) hMu (hE.keep hu) ?_
        have := hg.prod _ (List.getElem_mem hi)
        unfold pdB at this
        simp only [Bool.and_eq_true, decide_eq_true_eq, List.all_eq_true] at this
        exact (this.2 _ (List.getElem_mem hk)).2)
      have hfin : Hid (∀ u (C : List Bool) i k, g.prods.length ≤ i → Kept (oneBlk mb) w u → MkM u fb sb mb g.terms C → MkL g L C s i k → MkA g fb sb mb L s w (.returned (.tuple #[])) u) := hid (fun u C i k hi hu hMu hI => ⟨rfl, C, hMu, hI.post hi (by omega), hu⟩)
      have hstep : Hid (∀ (C C' : List Bool) i (hi : i < g.prods.length) k (hk : k < g.prods[i].right.length), MkL g L C s i k → g.prods[i].left = s → offN C + 1 ≤ offN L → MkPost g C C' g.prods[i].right[k] → MkL g L C' s i (k + 1) ∧ offN C' + 1 ≤ offN L) := hid (fun C C' i hi k hk hI hl hoff hP => ⟨hI.sym hi hk hl hP, by have := offN_le hP.len hP.sub; omega⟩)
      have hnext : Hid (∀ (C : List Bool) i (hi : i < g.prods.length) k, MkL g L C s i k → (g.prods[i].left = s → g.prods[i].right.length ≤ k) → MkL g L C s (i + 1) 0) := hid (fun C i hi k hI h => hI.next hi h)
      have hrl : Hid (∀ i (hi : i < g.prods.length), g.prods[i].right.length ≤ 8) := hid (fun i hi => by
        have := hg.prod _ (List.getElem_mem hi)
        unfold pdB at this
        simp only [Bool.and_eq_true, decide_eq_true_eq] at this
        exact this.1.1.1.2)
      generalize MkA g fb sb mb L s w = Q at *
      have hI0 := hid hI0
      have hM1 := hid hM1
      have hK1 := hid hK1
      have hoff0 := hid (show offN (L.set j true) + 1 ≤ offN L by omega)
      have g1 := hgc.out w1 hK1.out
      have hsub : s - ((g.terms : Int) + 1) = (j : Int) := by omega
      obtain ⟨pn, hpn⟩ : ∃ n, Hid (g.prods.length = n) := ⟨_, hid rfl⟩
      rw [hpn.out] at hp g1 hgc
      have htz : g.terms ≤ 16 := by omega
      have hN16 : L.length ≤ 16 := by omega
      obtain ⟨tm, htm⟩ : ∃ n, Hid (g.terms = n) := ⟨_, hid rfl⟩
      clear H hV hM hE hall hb hg hmore hr hn ht hj hLn
      rw [htm.out] at c0 hg1 hsj hsub htz
      generalize L.length = N at c1 hjL hN16
      clear hj2
      go_enter Tryz.func56, Tryz.ntmps56
      go_wp2
      clear hw1 g1 c0 c1 c2' hfz
      go_loopw [29] (fun x wr => ∃ (i : Nat) (C : List Bool), i ≤ pn ∧ x = .int .i64 (i : Int) ∧ Hid (MkM wr fb sb mb g.terms C) ∧ Hid (MkL g L C s i 0) ∧ Hid (offN C + 1 ≤ offN L) ∧ Hid (Kept (oneBlk mb) w wr)) (fun x _ => pn - (intOf x).toNat)
      case atStart => exact ⟨0, _, Nat.zero_le _, rfl, hM1, hI0, hoff0, hK1⟩
      case round =>
        obtain ⟨i, C, hi, rfl, hMw, hI, hoff, hK⟩ := hrel
        by_cases hlt : i < pn
        · have hltz : (i : Int) < (pn : Int) := by omega
          have hil : i < g.prods.length := by rw [hpn.out]; exact hlt
          obtain ⟨b, o, q1, q3, rfl, d0, d1, d2, hsy0⟩ := hKp.out wr hK.out i hil
          have hsy := hid hsy0
          clear hsy0
          have hal := al' wr (.cells #[.int .i64 g.prods[i].left, .slice q1 g.prods[i].right.length q3, .int .i64 g.prods[i].prec] 43)
          have hMa := hid (hMw.out.keep hal)
          have hKa := hid (hK.out.trans (Kept.of_below hal))
          have hR8 := hrl.out i hil
          by_cases hle : g.prods[i].left = s
          · have hlez : (g.prods[i].left != (tm : Int) + 1 + (j : Int)) = false := by rw [hle, hsj]; simp
            have hle9 := hid hle
            clear hle
            obtain ⟨rl, hrl9⟩ : ∃ n, Hid (g.prods[i].right.length = n) := ⟨_, hid rfl⟩
            rw [hrl9.out] at d1 hR8 hal hMa hKa
            clear hMw hK hal
            obtain ⟨v1, hv1⟩ : ∃ x, Hid (g.prods[i].left = x) := ⟨_, hid rfl⟩
            obtain ⟨v3, hv3⟩ : ∃ x, Hid (g.prods[i].prec = x) := ⟨_, hid rfl⟩
            rw [hv1.out] at d0 hlez hMa hKa
            rw [hv3.out] at d2 hMa hKa
            go_wp2
            clear d0 d1 d2 hlez
            obtain ⟨wa, hwa⟩ : ∃ x, wr.alloc (.cells #[.int .i64 v1, .slice q1 rl q3, .int .i64 v3] 43) = x := ⟨_, rfl⟩
            rw [hwa] at hMa hKa ⊢
            clear hwa
            go_loopw [40] (fun x wr => ∃ (k : Nat) (C : List Bool), k ≤ rl ∧ x = .int .i64 (k : Int) ∧ Hid (MkM wr fb sb mb g.terms C) ∧ Hid (MkL g L C s i k) ∧ Hid (offN C + 1 ≤ offN L) ∧ Hid (Kept (oneBlk mb) w wr)) (fun x _ => rl - (intOf x).toNat)
            case atStart => exact ⟨0, C, Nat.zero_le _, rfl, hMa, hI, hoff, hKa⟩
            case round =>
              obtain ⟨k, C2, hk, rfl, hM2, hI2, hoff2, hK2⟩ := hrel
              by_cases hlt2 : k < rl
              · have hltz2 : (k : Int) < (rl : Int) := by omega
                have hkl : k < g.prods[i].right.length := by rw [hrl9.out]; exact hlt2
                obtain ⟨b', o', rfl, e0⟩ := hsy.out wr hK2.out k hkl
                have e1 := hfc.out wr hK2.out
                have G := hid (hcall.out wr C2 i hil k hkl hK2.out hM2.out hI2.out hoff2.out)
                have hst9 := hid (fun C' hP => hstep.out C2 C' i hil k hkl hI2.out hle9.out hoff2.out hP)
                generalize g.prods[i].right[k] = r at *
                go_wp2_with (go_at_call 56; refine G.out.mono ?_; clear G; rintro e w4 ⟨rfl, C3, hM3, hP3, hK3⟩; obtain ⟨hI3, hoff3⟩ := hst9.out C3 hP3; have hM3 := hid hM3; have hI3 := hid hI3; have hoff3 := hid hoff3; have hK3 := hid (hK2.out.trans hK3); clear hP3)
                go_roundw
                case rel => exact ⟨k + 1, C3, by omega, by go_num, hM3, hI3, hoff3, hK3⟩
                case measure => simp [intOf]; omega
              · have hltz2 : ¬ (k : Int) < (rl : Int) := by omega
                have hI9 := hid (hnext.out C2 i hil k hI2.out (fun _ => by rw [hrl9.out]; omega))
                go_wp2
                go_roundw
                case rel => exact ⟨i + 1, C2, by omega, by go_num, hM2, hI9, hoff2, hK2⟩
                case measure => simp [intOf]; omega
          · have hlez : (g.prods[i].left != (tm : Int) + 1 + (j : Int)) = true := bne_iff_ne.2 (fun h => hle (h.trans hsj.symm))
            have hI9 := hid (hnext.out C i hil 0 hI.out (fun h => absurd h hle))
            clear hI hMw hK hal hsy
            generalize g.prods[i].left = v1 at *
            generalize g.prods[i].right.length = v2 at *
            generalize g.prods[i].prec = v3 at *
            go_wp2
            go_roundw
            case rel => exact ⟨i + 1, C, by omega, by go_num, hMa, hI9, hoff, hKa⟩
            case measure => simp [intOf]; omega
        · have hltz : ¬ (i : Int) < (pn : Int) := by omega
          have hend := hid (hfin.out wr C i 0 (by rw [hpn.out]; omega) hK.out hMw.out hI.out)
          go_wp2
          refine bodyPost_ret (results_none rfl _ _ _) rfl ?_
          exact hend.out
set_option maxRecDepth 20000 in
theorem markC (g : Gm) (hg : SndG g) (w0 : World) (fb sb gb kb mb : Nat) (rv nv lv pv : Value) (st : Int) (hV : GmV w0 rv nv lv pv g) : ∀ (f : Nat) (L : List Bool) (s : Int) (w : World), offN L ≤ f → L.length = g.nonts.length → MkM w fb sb mb g.terms L → MkE w0 w fb sb gb kb mb rv nv lv pv st → s ≤ (g.all : Int) →
    Calls Tryz.prog 56 #[.int .i64 s, ptr0 fb, ptr0 sb, ptr0 gb, ptr0 kb] w (MkA g fb sb mb L s w) := by
  intro f
  induction f with
  | zero =>
    intro L s w hf hLn hM hE hsa
    exact markStep g hg w0 fb sb gb kb mb rv nv lv pv st hV L s w hLn hM hE hsa (fun C r u hC => by omega)
  | succ f ih =>
    intro L s w hf hLn hM hE hsa
    exact markStep g hg w0 fb sb gb kb mb rv nv lv pv st hV L s w hLn hM hE hsa (fun C r u hC hCn hM' hE' hr => ih C r u (by omega) hCn hM' hE' hr)

end Go.Proofs.YthgbjhnknepefaaGreat
