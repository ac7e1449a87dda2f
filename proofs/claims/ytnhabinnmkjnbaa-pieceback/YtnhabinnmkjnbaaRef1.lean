/- The document's text (topiaryref02.Text) as it lies in memory; its Undo, its Redo. -/
import Derived.Test.YtnhabinnmkjnbaaRef0
import Derived.Test.YtnhabinnmkjnbaaRefA2
import Derived.Deep.DrawnRows
namespace Go.Proofs.Ytnhabinnmkjnbaa
open Go.RowKit
attribute [local go_sem ↓] Go.wp_at_zero Go.wp_at_succ

structure RefAt (w : World) (xb : Nat) (bv av : Value) (bs : List ByteArray) (now : ByteArray) (fw : List ByteArray) : Prop where
  head : w.heap[xb]? = some (.cells #[bv, .string now, av] 32 (0, 0))
  before : rowAt w bv bs.reverse
  after : rowAt w av fw.reverse
  bNe : ∀ k, bv.ownBlock = some k → k ≠ xb
  aNe : ∀ k, av.ownBlock = some k → k ≠ xb
  apart : ∀ k, bv.ownBlock = some k → av.ownBlock ≠ some k

theorem three {w : World} {b : Nat} {x y z : Value} {T : TypeId} (h : w.heap[b]? = some (.cells #[x, y, z] T (0, 0))) :
    w.cell? ⟨b, 0, none⟩ = some x ∧ w.cell? ⟨b, 1, none⟩ = some y ∧ w.cell? ⟨b, 2, none⟩ = some z ∧ w.frozen? ⟨b, 0, none⟩ = false ∧ w.frozen? ⟨b, 1, none⟩ = false ∧ w.frozen? ⟨b, 2, none⟩ = false :=
  ⟨blk_cell h rfl, blk_cell h rfl, blk_cell h rfl, blk_frozen h 0, blk_frozen h 1, blk_frozen h 2⟩

/-- a row without its last text -/
theorem rowAt.init {w : World} {g o cap : Nat} {xs : List ByteArray} {x : ByteArray} (h : rowAt w (.slice (some ⟨g, o, none⟩) (xs.length + 1) cap) (xs ++ [x])) : rowAt w (.slice (some ⟨g, o, none⟩) xs.length cap) xs := by
  rcases h with ⟨h1, _⟩ | ⟨g', o', cap', cur, h1, h2, h3, h4, h5, h6⟩
  · cases h1
  · simp only [List.length_append, List.length_singleton] at h1 h3 h6
    cases h1
    refine .inr ⟨g, o, cap, cur, rfl, h2, by omega, h4, h5, ?_⟩
    have e := congrArg (fun l => l.take xs.length) h6
    simp only [List.take_take] at e
    rw [Nat.min_eq_left (by omega)] at e
    rw [e]
    simp [strs]
theorem rowAt.shape {w : World} {v : Value} {xs : List ByteArray} (h : rowAt w v xs) (hx : 0 < xs.length) : ∃ g o cap, v = .slice (some ⟨g, o, none⟩) xs.length cap ∧ xs.length ≤ cap ∧ cap ≤ maxLen := by
  rcases h with ⟨_, rfl⟩ | ⟨g, o, cap, cur, rfl, _, h3, h4, _⟩
  · exact absurd hx (Nat.lt_irrefl _)
  · exact ⟨g, o, cap, rfl, h3, h4⟩

set_option maxHeartbeats 2000000 in
theorem undoR {w : World} {xb : Nat} {bv av : Value} {bs fw : List ByteArray} {b now : ByteArray} (h : RefAt w xb bv av (b :: bs) now fw) (hb : bs.length ≤ 100) (hf : fw.length ≤ 100) :
    Calls Try.prog 24 #[.pointer (some ⟨xb, 0, none⟩)] w fun e w' => e = .returned (.int .i64 0) ∧ ∃ bv' av', RefAt w' xb bv' av' bs b (now :: fw) ∧ (∀ k, bv'.ownBlock = some k → bv.ownBlock = some k) ∧ (∀ k, av'.ownBlock = some k → av.ownBlock = some k ∨ w.heap.size ≤ k) ∧ Kept (fun k => k = xb ∨ bv.ownBlock = some k ∨ av.ownBlock = some k) w w' := by
  obtain ⟨H, h1, h2, n1, n2, hap⟩ := h
  have hS : rowAt w bv (bs.reverse ++ [b]) := by have := h1; rwa [List.reverse_cons] at this
  have hT : rowAt w av fw.reverse := h2
  have sNe : ∀ k, bv.ownBlock = some k → k ≠ xb := n1
  have tNe : ∀ k, av.ownBlock = some k → k ≠ xb := n2
  have stNe : ∀ k, bv.ownBlock = some k → av.ownBlock ≠ some k := hap
  clear h1 h2 n1 n2 hap
  have hxl : xb < w.heap.size := blk_lt H
  obtain ⟨g, o, cap, rfl, hc1, hc2⟩ := hS.shape (by simp)
  have hl : (bs.reverse ++ [b]).length = bs.length + 1 := by simp
  rw [hl] at hS hc1 H sNe stNe ⊢
  have hg : g < w.heap.size := (hS.lt rfl).1
  have hgx : g ≠ xb := sNe g rfl
  have hgt : av.ownBlock ≠ some g := stNe g rfl
  have hcb : w.cell? ⟨g, o + bs.length, none⟩ = some (.string b) := by
    have hS' := hS
    rw [← hl] at hS'
    have := hS'.cell bs.length (by rw [hl]; omega)
    rw [this]
    simp
  have hI : rowAt w (.slice (some ⟨g, o, none⟩) bs.length cap) bs.reverse := by
    have := hS
    rw [show bs.length + 1 = bs.reverse.length + 1 by simp] at this
    have := this.init
    rwa [List.length_reverse] at this
  have hmc : (bs.length : Int) ≤ (cap : Int) := by omega
  have hmx : cap ≤ 9223372036854775807 := by unfold maxLen at hc2; omega
  have hfl : fw.reverse.length = fw.length := List.length_reverse
  obtain ⟨ta, tc, hta⟩ := hT.form
  have HT := hid hT
  have HS := hid hS
  have HI := hid hI
  have HN := hid tNe
  have Q : Hid (∀ o, rowAt (w.drew.alloc o) av fw.reverse) := fun o => (show rowAt w.drew av fw.reverse from hT).alloc o
  have N4 : (w.drew.alloc (.cells #[.string now] 9)).cell? ⟨w.heap.size, 0, none⟩ = some (.string now) := blk_cell (heap_alloc_new w.drew _) rfl
  obtain ⟨q0, q1, q2, f0, f1, f2⟩ := three H
  have Q0 : ∀ x, (w.alloc x).cell? ⟨xb, 0, none⟩ = some (.slice (some ⟨g, o, none⟩) (bs.length + 1) cap) := fun x => (three (blk_alloc H x)).1
  have Q1 : ∀ x, (w.alloc x).cell? ⟨xb, 1, none⟩ = some (.string now) := fun x => (three (blk_alloc H x)).2.1
  have Q2 : ∀ x, (w.alloc x).cell? ⟨xb, 2, none⟩ = some av := fun x => (three (blk_alloc H x)).2.2.1
  have HH := hid H
  have hcbH := hid hcb
  clear hT hS hI tNe sNe stNe H hcb hta
  go_enter Try.func24, Try.ntmps24
  go_wp2
  go_region_law ((first
    | (refine step_append_row (by rfl) (.tmp 15) (.tmp 20) (by rfl) av fw.reverse now (by rfl) (by exact Q.out _) ⟨w.heap.size, 0, none⟩ (by rfl) (by exact N4) rfl (by omega) (w.heap.size + 1) (by simp) ?_; intro d off cap2 w5 hrow5 hgrow hat hlt; have H5 := grow_blk hgrow (by exact blk_alloc HH.out _) (fun e => HN.out xb e rfl); obtain ⟨v0, v1, v2, u0, u1, u2⟩ := three H5; have vb : w5.cell? ⟨g, o + bs.length, none⟩ = some (.string b) := ((World.cell?_of_block (a := ⟨g, o + bs.length, none⟩) ((hgrow.block g (by (simp; omega)) (fun e => hgt e.symm)).trans (Below.heap_alloc w.drew _ g hg))).trans hcbH.out); rw [hfl] at hrow5 ⊢)
    | fail))
  all_goals
    go_wp2
    go_ret
    obtain ⟨V5, hV5⟩ : ∃ V5, V5 = w5 := ⟨_, rfl⟩
    have K5 : Kept (fun k => k = xb ∨ (Value.slice (some ⟨g, o, none⟩) (bs.length + 1) cap).ownBlock = some k ∨ av.ownBlock = some k) w w5 := Kept.grown (by first | exact (Kept.refl _ w).drew.alloc | exact (Kept.refl _ w).alloc.drew) hgrow (fun k _ e => .inr (.inr e))
    have KF : Kept (oneBlk xb) w5 (((w5.setCell ⟨xb, 2, none⟩ (.slice (some ⟨d, off, none⟩) (fw.length + 1) cap2)).setCell ⟨xb, 1, none⟩ (.string b)).setCell ⟨xb, 0, none⟩ (.slice (some ⟨g, o, none⟩) bs.length cap)) := (((Kept.refl (oneBlk xb) w5).setCell (a := ⟨xb, 2, none⟩) fun _ => rfl).setCell (a := ⟨xb, 1, none⟩) fun _ => rfl).setCell (a := ⟨xb, 0, none⟩) fun _ => rfl
    have hdx : d ≠ xb := by
      rcases hat with e | e
      · exact HN.out d e
      · omega
    have hdg : d ≠ g := by
      rcases hat with e | e
      · exact fun e2 => hgt (e2 ▸ e)
      · omega
    have r1 : rowAt w5 (.slice (some ⟨g, o, none⟩) bs.length cap) bs.reverse := HI.out.keep fun k e => by
      have e' : g = k := Option.some.inj e
      subst e'
      exact (hgrow.block g (by simp; omega) (fun e => hgt e.symm)).trans (Below.heap_alloc w.drew _ g hg)
    have F1 := r1.keep (fun k e => KF.block k (r1.lt e).1 (fun e2 => hgx ((Option.some.inj e).trans e2)))
    have F2 := hrow5.keep (fun k e => KF.block k (hrow5.lt e).1 (fun e2 => hdx ((Option.some.inj e).trans e2)))
    have HF := heap_setCell (o := 0) (v := (.slice (some ⟨g, o, none⟩) bs.length cap)) (heap_setCell (o := 1) (v := .string b) (heap_setCell (o := 2) (v := (.slice (some ⟨d, off, none⟩) (fw.length + 1) cap2)) H5))
    rw [← List.reverse_cons] at F2
    refine ⟨rfl, (.slice (some ⟨g, o, none⟩) bs.length cap), (.slice (some ⟨d, off, none⟩) (fw.length + 1) cap2), ⟨HF, F1, F2, ?_, ?_, ?_⟩, ?_, ?_, K5.step KF (fun k _ e => .inl e)⟩
    · exact fun k e e2 => hgx ((Option.some.inj e).trans e2)
    · exact fun k e e2 => hdx ((Option.some.inj e).trans e2)
    · exact fun k e e2 => hdg ((Option.some.inj e2).trans (Option.some.inj e).symm)
    · exact fun k e => e
    · intro k e
      have e' : d = k := Option.some.inj e
      subst e'
      rcases hat with e2 | e2
      · exact .inl e2
      · exact .inr (by omega)

set_option maxHeartbeats 2000000 in
theorem redoR {w : World} {xb : Nat} {bv av : Value} {bs fw : List ByteArray} {b now : ByteArray} (h : RefAt w xb bv av fw now (b :: bs)) (hb : bs.length ≤ 100) (hf : fw.length ≤ 100) :
    Calls Try.prog 25 #[.pointer (some ⟨xb, 0, none⟩)] w fun e w' => e = .returned (.int .i64 0) ∧ ∃ bv' av', RefAt w' xb bv' av' (now :: fw) b bs ∧ (∀ k, av'.ownBlock = some k → av.ownBlock = some k) ∧ (∀ k, bv'.ownBlock = some k → bv.ownBlock = some k ∨ w.heap.size ≤ k) ∧ Kept (fun k => k = xb ∨ bv.ownBlock = some k ∨ av.ownBlock = some k) w w' := by
  obtain ⟨H, h1, h2, n1, n2, hap⟩ := h
  have hS : rowAt w av (bs.reverse ++ [b]) := by have := h2; rwa [List.reverse_cons] at this
  have hT : rowAt w bv fw.reverse := h1
  have sNe : ∀ k, av.ownBlock = some k → k ≠ xb := n2
  have tNe : ∀ k, bv.ownBlock = some k → k ≠ xb := n1
  have stNe : ∀ k, av.ownBlock = some k → bv.ownBlock ≠ some k := fun k e e2 => hap k e2 e
  clear h1 h2 n1 n2 hap
  have hxl : xb < w.heap.size := blk_lt H
  obtain ⟨g, o, cap, rfl, hc1, hc2⟩ := hS.shape (by simp)
  have hl : (bs.reverse ++ [b]).length = bs.length + 1 := by simp
  rw [hl] at hS hc1 H sNe stNe ⊢
  have hg : g < w.heap.size := (hS.lt rfl).1
  have hgx : g ≠ xb := sNe g rfl
  have hgt : bv.ownBlock ≠ some g := stNe g rfl
  have hcb : w.cell? ⟨g, o + bs.length, none⟩ = some (.string b) := by
    have hS' := hS
    rw [← hl] at hS'
    have := hS'.cell bs.length (by rw [hl]; omega)
    rw [this]
    simp
  have hI : rowAt w (.slice (some ⟨g, o, none⟩) bs.length cap) bs.reverse := by
    have := hS
    rw [show bs.length + 1 = bs.reverse.length + 1 by simp] at this
    have := this.init
    rwa [List.length_reverse] at this
  have hmc : (bs.length : Int) ≤ (cap : Int) := by omega
  have hmx : cap ≤ 9223372036854775807 := by unfold maxLen at hc2; omega
  have hfl : fw.reverse.length = fw.length := List.length_reverse
  obtain ⟨ta, tc, hta⟩ := hT.form
  have HT := hid hT
  have HS := hid hS
  have HI := hid hI
  have HN := hid tNe
  have Q : Hid (∀ o, rowAt (w.drew.alloc o) bv fw.reverse) := fun o => (show rowAt w.drew bv fw.reverse from hT).alloc o
  have N4 : (w.drew.alloc (.cells #[.string now] 9)).cell? ⟨w.heap.size, 0, none⟩ = some (.string now) := blk_cell (heap_alloc_new w.drew _) rfl
  obtain ⟨q0, q1, q2, f0, f1, f2⟩ := three H
  have Q0 : ∀ x, (w.alloc x).cell? ⟨xb, 0, none⟩ = some bv := fun x => (three (blk_alloc H x)).1
  have Q1 : ∀ x, (w.alloc x).cell? ⟨xb, 1, none⟩ = some (.string now) := fun x => (three (blk_alloc H x)).2.1
  have Q2 : ∀ x, (w.alloc x).cell? ⟨xb, 2, none⟩ = some (.slice (some ⟨g, o, none⟩) (bs.length + 1) cap) := fun x => (three (blk_alloc H x)).2.2.1
  have HH := hid H
  have hcbH := hid hcb
  clear hT hS hI tNe sNe stNe H hcb hta
  go_enter Try.func25, Try.ntmps25
  go_wp2
  go_region_law ((first
    | (refine step_append_row (by rfl) (.tmp 15) (.tmp 20) (by rfl) bv fw.reverse now (by rfl) (by exact Q.out _) ⟨w.heap.size, 0, none⟩ (by rfl) (by exact N4) rfl (by omega) (w.heap.size + 1) (by simp) ?_; intro d off cap2 w5 hrow5 hgrow hat hlt; have H5 := grow_blk hgrow (by exact blk_alloc HH.out _) (fun e => HN.out xb e rfl); obtain ⟨v0, v1, v2, u0, u1, u2⟩ := three H5; have vb : w5.cell? ⟨g, o + bs.length, none⟩ = some (.string b) := ((World.cell?_of_block (a := ⟨g, o + bs.length, none⟩) ((hgrow.block g (by (simp; omega)) (fun e => hgt e.symm)).trans (Below.heap_alloc w.drew _ g hg))).trans hcbH.out); rw [hfl] at hrow5 ⊢)
    | fail))
  all_goals
    go_wp2
    go_ret
    obtain ⟨V5, hV5⟩ : ∃ V5, V5 = w5 := ⟨_, rfl⟩
    have K5 : Kept (fun k => k = xb ∨ bv.ownBlock = some k ∨ (Value.slice (some ⟨g, o, none⟩) (bs.length + 1) cap).ownBlock = some k) w w5 := Kept.grown (by first | exact (Kept.refl _ w).drew.alloc | exact (Kept.refl _ w).alloc.drew) hgrow (fun k _ e => .inr (.inl e))
    have KF : Kept (oneBlk xb) w5 (((w5.setCell ⟨xb, 0, none⟩ (.slice (some ⟨d, off, none⟩) (fw.length + 1) cap2)).setCell ⟨xb, 1, none⟩ (.string b)).setCell ⟨xb, 2, none⟩ (.slice (some ⟨g, o, none⟩) bs.length cap)) := (((Kept.refl (oneBlk xb) w5).setCell (a := ⟨xb, 0, none⟩) fun _ => rfl).setCell (a := ⟨xb, 1, none⟩) fun _ => rfl).setCell (a := ⟨xb, 2, none⟩) fun _ => rfl
    have hdx : d ≠ xb := by
      rcases hat with e | e
      · exact HN.out d e
      · omega
    have hdg : d ≠ g := by
      rcases hat with e | e
      · exact fun e2 => hgt (e2 ▸ e)
      · omega
    have r1 : rowAt w5 (.slice (some ⟨g, o, none⟩) bs.length cap) bs.reverse := HI.out.keep fun k e => by
      have e' : g = k := Option.some.inj e
      subst e'
      exact (hgrow.block g (by simp; omega) (fun e => hgt e.symm)).trans (Below.heap_alloc w.drew _ g hg)
    have F1 := r1.keep (fun k e => KF.block k (r1.lt e).1 (fun e2 => hgx ((Option.some.inj e).trans e2)))
    have F2 := hrow5.keep (fun k e => KF.block k (hrow5.lt e).1 (fun e2 => hdx ((Option.some.inj e).trans e2)))
    have HF := heap_setCell (o := 2) (v := (.slice (some ⟨g, o, none⟩) bs.length cap)) (heap_setCell (o := 1) (v := .string b) (heap_setCell (o := 0) (v := (.slice (some ⟨d, off, none⟩) (fw.length + 1) cap2)) H5))
    rw [← List.reverse_cons] at F2
    refine ⟨rfl, (.slice (some ⟨d, off, none⟩) (fw.length + 1) cap2), (.slice (some ⟨g, o, none⟩) bs.length cap), ⟨HF, F2, F1, ?_, ?_, ?_⟩, ?_, ?_, K5.step KF (fun k _ e => .inl e)⟩
    · exact fun k e e2 => hdx ((Option.some.inj e).trans e2)
    · exact fun k e e2 => hgx ((Option.some.inj e).trans e2)
    · exact fun k e e2 => hdg ((Option.some.inj e).trans (Option.some.inj e2).symm)
    · exact fun k e => e
    · intro k e
      have e' : d = k := Option.some.inj e
      subst e'
      rcases hat with e2 | e2
      · exact .inl e2
      · exact .inr (by omega)

end Go.Proofs.Ytnhabinnmkjnbaa
