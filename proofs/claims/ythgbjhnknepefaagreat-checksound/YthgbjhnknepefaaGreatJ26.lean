/- Package check: markReached. Package check: markEnds. append of a slice of numbers to a slice of the call's own; copied, slices.Grow, slices.Concat. Package check: slices.Index of marks, marked. -/
import Derived.Test.YthgbjhnknepefaaGreatJ24
import Derived.Test.YthgbjhnknepefaaGreatJ25
import Derived.Test.YthgbjhnknepefaaGreatJ10
import Derived.Laws.EntriesVeiled
import Derived.Deep.LoopGhost
import Derived.Laws.AppendOwnNone
import Derived.Laws.OwnMore
namespace Go.Proofs.YthgbjhnknepefaaGreat
open Go.RowKit Go.Maps Go.Sort

/-- a slice of marks of the call's own -/
def MkV (w : World) (v : Value) (L : List Bool) : Prop := ∃ mb, v = .slice (some ⟨mb, 0, none⟩) L.length L.length ∧ w.heap[mb]? = some (.cells (L.map Value.bool).toArray 4)
theorem MkV.keep {w u : World} {v : Value} {L : List Bool} (h : MkV w v L) (hu : Below w.heap.size w u) : MkV u v L := by
  obtain ⟨mb, e, hb⟩ := h
  exact ⟨mb, e, hs_keep hb hu⟩
theorem made_bools (N : Nat) : madeCells #[.bool false] N = ((List.replicate N false).map Value.bool).toArray := by
  apply Array.ext
  · simp [size_madeCells]
  · intro i h1 h2
    simp [madeCells, Nat.mod_one]
theorem mk_made (W2 : World) (fb tm N : Nat) (hf : W2.heap[fb]? = some (.cells #[.int .i64 ((tm : Int) + 1)] 3)) :
    MkM ((W2.alloc (.cells (madeCells #[.bool false] N) 4)).alloc (.cells #[.slice (some ⟨W2.heap.size, 0, none⟩) N N] 77)) fb (W2.heap.size + 1) W2.heap.size tm (List.replicate N false) := by
  have hlt := blk_lt hf
  have h1 := two_blocks W2 (.cells (madeCells #[.bool false] N) 4) (.cells #[.slice (some ⟨W2.heap.size, 0, none⟩) N N] 77)
  refine ⟨?_, ?_, ?_, by omega, by omega⟩
  · exact hs_keep hf (bl_step (al' W2 _) (al' _ _))
  · rw [List.length_replicate]
    exact h1.2
  · rw [← made_bools]
    exact h1.1
theorem rch_all {g : Gm} (hg : SndG g) {L' : List Bool} (h : MkPost g (List.replicate g.nonts.length false) L' g.start) (n : Int) : Mrk g.terms L' n ↔ Rch g n := by
  rcases Nat.eq_zero_or_pos g.nonts.length with h0 | h0
  · constructor
    · intro hn
      have h1 := h.len
      rw [List.length_replicate, h0] at h1
      have h2 := hn.2
      rw [List.eq_nil_of_length_eq_zero h1] at h2
      cases h2
    · intro hn
      have := hn.range hg
      unfold Gm.all at this
      omega
  · exact h.all (hg.start h0).1 n
set_option maxRecDepth 20000 in
set_option maxHeartbeats 16000000 in
theorem markR (g : Gm) (hg : SndG g) (rv nv lv pv : Value) (w : World) (hV : GmV w rv nv lv pv g) :
    Calls Tryz.prog 35 #[gmA rv nv lv pv g.start] w fun e w' => ∃ v L, e = .returned v ∧ MkV w' v L ∧ L.length = g.nonts.length ∧ (∀ n, Mrk g.terms L n ↔ Rch g n) ∧ Below w.heap.size w w' := by
  have hr := hg.rules
  have hn := hg.nonts
  obtain ⟨na, nc, rfl⟩ := hV.nonts.shape
  have hB1 := al' w (.cells #[rv, .slice na g.nonts.length nc, lv, pv, .int .i64 g.start] 27)
  have k1 := heap_new w (.cells #[rv, .slice na g.nonts.length nc, lv, pv, .int .i64 g.start] 27)
  obtain ⟨W, hW⟩ : ∃ x, w.alloc (.cells #[rv, .slice na g.nonts.length nc, lv, pv, .int .i64 g.start] 27) = x := ⟨_, rfl⟩
  rw [hW] at hB1 k1
  have G := hid (firstC rv _ lv pv g g.start W (hV.keep hB1) (by omega))
  obtain ⟨x0, x1, x2, x3, x4⟩ := cells5m k1
  have hst : g.start ≤ (g.all : Int) := by
    rcases Nat.eq_zero_or_pos g.nonts.length with h0 | h0
    · have := hg.none h0; omega
    · exact (hg.start h0).2
  have hmain : Hid (∀ w1, Below W.heap.size W w1 → ∀ W2, w1.alloc (.cells #[.int .i64 ((g.terms : Int) + 1)] 3) = W2 → ∀ W4, (W2.alloc (.cells (madeCells #[.bool false] g.nonts.length) 4)).alloc (.cells #[.slice (some ⟨W2.heap.size, 0, none⟩) g.nonts.length g.nonts.length] 77) = W4 → ∀ W5, W4.alloc (.cells #[mrkV w1.heap.size (W2.heap.size + 1) w.heap.size W4.heap.size] 94) = W5 →
      W5.cell? ⟨W4.heap.size, 0, none⟩ = some (mrkV w1.heap.size (W2.heap.size + 1) w.heap.size W4.heap.size) ∧ W5.cell? ⟨w.heap.size, 4, none⟩ = some (.int .i64 g.start) ∧
      Calls Tryz.prog 56 #[.int .i64 g.start, ptr0 w1.heap.size, ptr0 (W2.heap.size + 1), ptr0 w.heap.size, ptr0 W4.heap.size] W5 fun e w' => e = .returned (.tuple #[]) ∧ ∃ L, w'.cell? ⟨W2.heap.size + 1, 0, none⟩ = some (.slice (some ⟨W2.heap.size, 0, none⟩) L.length L.length) ∧ MkV w' (.slice (some ⟨W2.heap.size, 0, none⟩) L.length L.length) L ∧ L.length = g.nonts.length ∧ (∀ n, Mrk g.terms L n ↔ Rch g n) ∧ Below w.heap.size w w') := hid (fun w1 h1 W2 e2 W4 e4 W5 e5 => by
    have hB2 : Below w1.heap.size w1 W2 := by rw [← e2]; exact al' w1 _
    have z2 : W2.heap.size = w1.heap.size + 1 := by rw [← e2]; exact World.size_alloc ..
    have hf : W2.heap[w1.heap.size]? = some (.cells #[.int .i64 ((g.terms : Int) + 1)] 3) := by rw [← e2]; exact heap_new w1 _
    have hB4 : Below W2.heap.size W2 W4 := by rw [← e4]; exact bl_step (al' W2 _) (al' _ _)
    have z4 : W4.heap.size = W2.heap.size + 2 := by rw [← e4, World.size_alloc, World.size_alloc]
    have hM4 := mk_made W2 w1.heap.size g.terms g.nonts.length hf
    rw [e4] at hM4
    have hB5 : Below W4.heap.size W4 W5 := by rw [← e5]; exact al' W4 _
    have h5 : W5.heap[W4.heap.size]? = some (.cells #[mrkV w1.heap.size (W2.heap.size + 1) w.heap.size W4.heap.size] 94) := by rw [← e5]; exact heap_new W4 _
    have hM5 := hM4.keep hB5
    have hBW : Below W.heap.size W W5 := bl_step (bl_step (bl_step h1 hB2) hB4) hB5
    have hBw : Below w.heap.size w W5 := bl_step hB1 hBW
    have zW : w.heap.size < W.heap.size := blk_lt k1
    have z1 : W.heap.size ≤ w1.heap.size := h1.size
    have hk5 := hs_keep k1 hBW
    have hE : MkE w W5 w1.heap.size (W2.heap.size + 1) w.heap.size W4.heap.size W2.heap.size rv (.slice na g.nonts.length nc) lv pv g.start := ⟨hBw, hk5, h5, by omega, by omega, by omega⟩
    refine ⟨blk_cell h5 rfl, blk_cell hk5 rfl, ?_⟩
    refine (markC g hg w _ _ _ _ _ _ _ _ _ _ hV _ (List.replicate g.nonts.length false) g.start W5 (Nat.le_refl _) (List.length_replicate ..) hM5 hE hst).mono ?_
    rintro e w' ⟨rfl, L', hM', hP', hK'⟩
    refine ⟨rfl, L', hM'.c0.2, ⟨_, rfl, hM'.row⟩, by rw [hP'.len, List.length_replicate], rch_all hg hP', ?_⟩
    exact (hE.keep hK').low)
  have ht := terms_le g
  have hmk := run_make_row' (P := Tryz.prog) 77 4 (.bool false) 1 Tryz.underlying77 Tryz.infoB4 rfl .i64 .i64 g.nonts.length (by omega) (by omega)
  have hx1 := hid (fun u (hu : Below W.heap.size W u) => keep_cell hu x1)
  have hx4 := hid (fun u (hu : Below W.heap.size W u) => keep_cell hu x4)
  clear hV hB1 k1 hst hg
  obtain ⟨tm, htm⟩ : ∃ n, Hid (g.terms = n) := ⟨_, hid rfl⟩
  obtain ⟨nn, hnn⟩ : ∃ n, Hid (g.nonts.length = n) := ⟨_, hid rfl⟩
  obtain ⟨st, hst⟩ : ∃ n, Hid (g.start = n) := ⟨_, hid rfl⟩
  rw [htm.out] at G ht hmain ⊢
  rw [hnn.out] at G hn hW x1 hmain hmk hx1 ⊢
  rw [hst.out] at G hW x4 hmain hx4 ⊢
  go_enter Tryz.func35, Tryz.ntmps35
  go_wp2_with (first
    | (go_at_call 36; refine G.out.mono ?_; clear G; rintro e w1 ⟨rfl, hc1⟩
       have hx1 := hx1.out w1 hc1
       obtain ⟨W2, hW2⟩ : ∃ x, w1.alloc (.cells #[.int .i64 ((tm : Int) + 1)] 3) = x := ⟨_, rfl⟩
       have hx2 := keep_cell (show Below w1.heap.size w1 W2 by rw [← hW2]; exact al' w1 _) hx1
       obtain ⟨W4, hW4⟩ : ∃ x, (W2.alloc (.cells (madeCells #[.bool false] nn) 4)).alloc (.cells #[.slice (some ⟨W2.heap.size, 0, none⟩) nn nn] 77) = x := ⟨_, rfl⟩
       obtain ⟨W5, hW5⟩ : ∃ x, W4.alloc (.cells #[mrkV w1.heap.size (W2.heap.size + 1) w.heap.size W4.heap.size] 94) = x := ⟨_, rfl⟩
       obtain ⟨y0, y1, G1⟩ := hmain.out w1 hc1 W2 hW2 W4 hW4 W5 hW5
       have G2 := hid G1
       clear G1 hmain hc1)
    | (go_at_call 56; refine G2.out.mono ?_; clear G2; rintro e w9 ⟨rfl, L, hs9, hV9, hL9, hR9, hB9⟩
       have hend := hid (And.intro hV9 (And.intro hL9 (And.intro hR9 hB9)))
       clear hV9 hL9 hR9 hB9))
  go_ret
  exact ⟨_, L, rfl, hend.out.1, hend.out.2.1, hend.out.2.2.1, hend.out.2.2.2⟩

end Go.Proofs.YthgbjhnknepefaaGreat
namespace Go.Proofs.YthgbjhnknepefaaGreat
open Go.RowKit Go.Maps Go.Sort

set_option maxRecDepth 20000 in
set_option maxHeartbeats 16000000 in
theorem markE (g : Gm) (hg : SndG g) (rv nv lv pv : Value) (w : World) (hV : GmV w rv nv lv pv g) :
    Calls Tryz.prog 37 #[gmA rv nv lv pv g.start] w fun e w' => ∃ v L, e = .returned v ∧ MkV w' v L ∧ L.length = g.nonts.length ∧ (∀ n, Mrk g.terms L n ↔ Ends g n) ∧ Below w.heap.size w w' := by
  have hr := hg.rules
  have hn := hg.nonts
  have hp := hg.prods
  obtain ⟨na, nc, rfl⟩ := hV.nonts.shape
  obtain ⟨pa, pc, rfl⟩ := hV.prods.shape
  have hB1 := al' w (.cells #[rv, .slice na g.nonts.length nc, lv, .slice pa g.prods.length pc, .int .i64 g.start] 27)
  have k1 := heap_new w (.cells #[rv, .slice na g.nonts.length nc, lv, .slice pa g.prods.length pc, .int .i64 g.start] 27)
  obtain ⟨W, hW⟩ : ∃ x, w.alloc (.cells #[rv, .slice na g.nonts.length nc, lv, .slice pa g.prods.length pc, .int .i64 g.start] 27) = x := ⟨_, rfl⟩
  rw [hW] at hB1 k1
  have G := hid (firstC rv _ lv _ g g.start W (hV.keep hB1) (by omega))
  obtain ⟨x0, x1, x2, x3, x4⟩ := cells5m k1
  have ht := terms_le g
  have hmain : Hid (∀ w1, Below W.heap.size W w1 → ∀ W2, w1.alloc (.cells #[.int .i64 ((g.terms : Int) + 1)] 3) = W2 → ∀ W4, (W2.alloc (.cells (madeCells #[.bool false] g.nonts.length) 4)).alloc (.cells #[.slice (some ⟨W2.heap.size, 0, none⟩) g.nonts.length g.nonts.length] 77) = W4 →
      MkM W4 w1.heap.size (W2.heap.size + 1) W2.heap.size g.terms (List.replicate g.nonts.length false) ∧
      (∀ u, Kept (oneBlk W2.heap.size) W4 u → Below w.heap.size w u ∧ u.cell? ⟨w.heap.size, 3, none⟩ = some (.slice pa g.prods.length pc))) := hid (fun w1 h1 W2 e2 W4 e4 => by
    have hB2 : Below w1.heap.size w1 W2 := by rw [← e2]; exact al' w1 _
    have z2 : W2.heap.size = w1.heap.size + 1 := by rw [← e2]; exact World.size_alloc ..
    have hf : W2.heap[w1.heap.size]? = some (.cells #[.int .i64 ((g.terms : Int) + 1)] 3) := by rw [← e2]; exact heap_new w1 _
    have hB4 : Below W2.heap.size W2 W4 := by rw [← e4]; exact bl_step (al' W2 _) (al' _ _)
    have z4 : W4.heap.size = W2.heap.size + 2 := by rw [← e4, World.size_alloc, World.size_alloc]
    have hM4 := mk_made W2 w1.heap.size g.terms g.nonts.length hf
    rw [e4] at hM4
    have hBW : Below W.heap.size W W4 := bl_step (bl_step h1 hB2) hB4
    have hBw : Below w.heap.size w W4 := bl_step hB1 hBW
    have zW : w.heap.size < W.heap.size := blk_lt k1
    have z1 : W.heap.size ≤ w1.heap.size := h1.size
    refine ⟨hM4, fun u hu => ⟨hBw.trans (hu.below (fun k e => by rw [show k = W2.heap.size from e]; omega) (by omega)), ?_⟩⟩
    exact blk_cell (hu.blk (hs_keep k1 hBW) (fun e => by have : w.heap.size = W2.heap.size := e; omega)) rfl)
  have hmk := run_make_row' (P := Tryz.prog) 77 4 (.bool false) 1 Tryz.underlying77 Tryz.infoB4 rfl .i64 .i64 g.nonts.length (by omega) (by omega)
  have hx1 := hid (fun u (hu : Below W.heap.size W u) => keep_cell hu x1)
  have hKp : Hid (∀ u, Below w.heap.size w u → ∀ i (hi : i < g.prods.length), ∃ b o q1 q3, pa = some ⟨b, o, none⟩ ∧ u.cell? ⟨b, o + i * 3, none⟩ = some (.int .i64 g.prods[i].left) ∧ u.cell? ⟨b, o + i * 3 + 1, none⟩ = some (.slice q1 g.prods[i].right.length q3) ∧ u.cell? ⟨b, o + i * 3 + 2, none⟩ = some (.int .i64 g.prods[i].prec) ∧ Nums u (.slice q1 g.prods[i].right.length q3) g.prods[i].right) := hid (fun u hu i hi => by
    obtain ⟨b0, o0, e0, hb0, v, h0, h1, h2, hN⟩ := (hV.keep hu).prods.at hi
    obtain ⟨q1, q3, rfl, -⟩ := id hN
    exact ⟨b0, o0, q1, q3, e0, h0, h1, h2, hN⟩)
  have hpd : Hid (∀ i (hi : i < g.prods.length), (g.terms : Int) < g.prods[i].left ∧ g.prods[i].left ≤ (g.terms : Int) + (g.nonts.length : Int) ∧ g.prods[i].right.length ≤ 8 ∧ ∀ s ∈ g.prods[i].right, s ≤ (g.terms : Int) + (g.nonts.length : Int)) := hid (fun i hi => by
    have := hg.prod _ (List.getElem_mem hi)
    unfold pdB Gm.all at this
    simp only [Bool.and_eq_true, decide_eq_true_eq, List.all_eq_true] at this
    refine ⟨this.1.1.1.1.1, by omega, this.1.1.1.2, fun s hs => ?_⟩
    have := (this.2 s hs).2
    omega)
  have hall : Hid (∀ (C0 C : List Bool) i, EnL g C0 C i false → g.prods.length ≤ i → ∀ n, Mrk g.terms C n ↔ Ends g n) := hid (fun C0 C i h hi n => h.all hg hi n)
  clear hV hB1 k1 hg
  obtain ⟨tm, htm⟩ : ∃ n, Hid (g.terms = n) := ⟨_, hid rfl⟩
  obtain ⟨nn, hnn⟩ : ∃ n, Hid (g.nonts.length = n) := ⟨_, hid rfl⟩
  obtain ⟨pn, hpn⟩ : ∃ n, Hid (g.prods.length = n) := ⟨_, hid rfl⟩
  obtain ⟨st, hst⟩ : ∃ n, Hid (g.start = n) := ⟨_, hid rfl⟩
  rw [htm.out] at G ht hmain hpd hall ⊢
  rw [hnn.out] at G hn hW x1 hmain hmk hx1 hpd ⊢
  rw [hst.out] at G hW x4 ⊢
  rw [hpn.out] at G hW x3 hmain hp ⊢
  go_enter Tryz.func37, Tryz.ntmps37
  go_wp2_with (first
    | (go_at_call 36; refine G.out.mono ?_; clear G; rintro e w1 ⟨rfl, hc1⟩
       have hx1 := hx1.out w1 hc1
       obtain ⟨W2, hW2⟩ : ∃ x, w1.alloc (.cells #[.int .i64 ((tm : Int) + 1)] 3) = x := ⟨_, rfl⟩
       have hx2 := keep_cell (show Below w1.heap.size w1 W2 by rw [← hW2]; exact al' w1 _) hx1
       obtain ⟨W4, hW4⟩ : ∃ x, (W2.alloc (.cells (madeCells #[.bool false] nn) 4)).alloc (.cells #[.slice (some ⟨W2.heap.size, 0, none⟩) nn nn] 77) = x := ⟨_, rfl⟩
       obtain ⟨hM9, hL9⟩ := hmain.out w1 hc1 W2 hW2 W4 hW4
       have hM0 := hid hM9
       have hlow := hid hL9
       clear hM9 hL9 hmain hc1))
  clear hW hW2 hW4 hmk x0 x1 x2 x3 x4 hx1 hx2
  generalize w1.heap.size = fb at *
  generalize W2.heap.size + 1 = sb at *
  generalize W2.heap.size = mb at *
  go_loopg [6] (nn + 2) (fun gk mo wr => ∃ (b : Bool) (C : List Bool), mo = .bool b ∧ Hid (MkM wr fb sb mb tm C) ∧ Hid (C.length = g.nonts.length ∧ ∀ n, Mrk g.terms C n → Ends g n) ∧ Hid (b = false → ∀ n, Mrk tm C n ↔ Ends g n) ∧ Hid (Kept (oneBlk mb) W4 wr) ∧ Hid (offN C + (if b then 1 else 0) ≤ gk))
  case atStart => exact ⟨true, List.replicate nn false, rfl, hM0, hid ⟨by rw [List.length_replicate, hnn.out], fun n h => absurd h (mrk_none n)⟩, hid (fun e => by cases e), hid (Kept.refl _ _), hid (by have : offN (List.replicate nn false) ≤ nn := Nat.le_trans List.count_le_length (by rw [List.length_replicate]; exact Nat.le_refl _); simp; omega)⟩
  case round =>
    obtain ⟨b, C0, rfl, hM, hC, hd, hK, hgk⟩ := hrel
    obtain ⟨hl9, g3⟩ := hlow.out wr hK.out
    obtain ⟨-, c1⟩ := hM.out.c0
    have hCl : C0.length = nn := by rw [hC.out.1, hnn.out]
    cases b with
    | false =>
      have hlw := hid hl9
      have hend := hid (hd.out rfl)
      have hrow := hid hM.out.row
      have hCl9 := hid hC.out.1
      clear hl9 g3 hC hd hCl hM
      go_wp2
      go_ret
      exact ⟨_, C0, rfl, ⟨_, rfl, hrow.out⟩, by rw [← hnn.out]; exact hCl9.out, hend.out, hlw.out⟩
    | true =>
      have hE0 := hid (EnL.start hC.out.1 hC.out.2)
      clear hd hC hl9 hCl c1
      go_wp2_with fail
      clear g3
      go_loopw [6, 20] (fun mo x wr => ∃ (b : Bool) (C : List Bool) (i : Nat), i ≤ pn ∧ mo = .bool b ∧ x = .int .i64 (i : Int) ∧ Hid (MkM wr fb sb mb tm C) ∧ Hid (EnL g C0 C i b) ∧ Hid (Kept (oneBlk mb) W4 wr)) (fun _ x _ => pn - (intOf x).toNat)
      case atStart => exact ⟨false, C0, 0, Nat.zero_le _, rfl, rfl, hM, hE0, hK⟩
      case round =>
        clear hM hE0 hK
        obtain ⟨b, C, i, hi, rfl, rfl, hM, hE, hK⟩ := hrel
        by_cases hlt : i < pn
        · have hltz : (i : Int) < (pn : Int) := by omega
          have hil : i < g.prods.length := by rw [hpn.out]; exact hlt
          obtain ⟨hl9, -⟩ := hlow.out wr hK.out
          obtain ⟨pb, po, q1, q3, rfl, d0, d1, d2, hN⟩ := hKp.out wr hl9 i hil
          obtain ⟨hp1, hp2, hp3, hp4⟩ := hpd.out i hil
          have hCl : C.length = nn := by rw [hE.out.len, hnn.out]
          have hal := al' wr (.cells #[.int .i64 g.prods[i].left, .slice q1 g.prods[i].right.length q3, .int .i64 g.prods[i].prec] 43)
          have hMa := hid (hM.out.keep hal)
          have hKa := hid (hK.out.trans (Kept.of_below hal))
          have G1 := hid (openC fb sb mb tm C g.prods[i].left _ hMa.out (by omega) (by omega) (by rw [hCl]; exact hp2))
          have G2 := hid (hasOpen fb sb mb tm C _ g.prods[i].right _ hMa.out (hN.keep hal) (by omega) (by omega) (by omega) (by rw [hCl]; exact hp4))
          have hskip : Hid ((opnB tm C g.prods[i].left = true → g.prods[i].right.any (opnB tm C) = true) → EnL g C0 C (i + 1) b) := hid (fun h => hE.out.skip hil (by rw [htm.out]; exact h))
          obtain ⟨j, hj⟩ : ∃ j : Nat, (g.prods[i].left - (tm : Int) - 1).toNat = j := ⟨_, rfl⟩
          have hjl : j < C.length := by omega
          have hC16 : C.length ≤ 16 := by omega
          have hsub : g.prods[i].left - ((tm : Int) + 1) = (j : Int) := by omega
          have hmark : Hid (opnB tm C g.prods[i].left = true → g.prods[i].right.any (opnB tm C) = false → EnL g C0 (C.set j true) (i + 1) true) := hid (fun h1 h2 => hE.out.mark hil (by rw [htm.out]; exact h1) (by rw [htm.out]; exact h2) (by rw [htm.out]; exact hj) hjl)
          clear hl9 hN hal hM hK hE hCl hj hp1 hp2 hp4
          generalize g.prods[i].right.length = v2 at *
          generalize g.prods[i].left = v1 at *
          generalize g.prods[i].prec = v3 at *
          generalize g.prods[i].right.any (opnB tm C) = R at *
          cases ho : opnB tm C v1 with
          | false =>
            rw [ho] at G1 hskip
            have hI9 := hid (hskip.out (fun h => by cases h))
            clear hskip hmark G2 ho
            go_wp2_with (go_at_call 57; refine G1.out.mono ?_; clear G1; rintro e w4 ⟨rfl, hc4⟩; subst w4)
            go_roundw
            case rel => exact ⟨b, C, i + 1, by omega, rfl, by go_num, hMa, hI9, hKa⟩
            case measure => simp [intOf]; omega
          | true =>
            rw [ho] at G1 hskip hmark
            cases R with
            | true =>
              have hI9 := hid (hskip.out (fun _ => rfl))
              clear hskip hmark ho
              go_wp2_with (first
                | (go_at_call 57; refine G1.out.mono ?_; clear G1; rintro e w4 ⟨rfl, hc4⟩; subst w4)
                | (go_at_call 58; refine G2.out.mono ?_; clear G2; rintro e w5 ⟨rfl, hc5⟩; subst w5))
              go_roundw
              case rel => exact ⟨b, C, i + 1, by omega, rfl, by go_num, hMa, hI9, hKa⟩
              case measure => simp [intOf]; omega
            | false =>
              have hI9 := hid (hmark.out rfl rfl)
              have e0 : (wr.alloc (.cells #[.int .i64 v1, .slice q1 v2 q3, .int .i64 v3] 43)).cell? ⟨wr.heap.size, 0, none⟩ = some (.int .i64 v1) := blk_cell (heap_new wr _) rfl
              have e1 : (wr.alloc (.cells #[.int .i64 v1, .slice q1 v2 q3, .int .i64 v3] 43)).cell? ⟨wr.heap.size, 1, none⟩ = some (.slice q1 v2 q3) := blk_cell (heap_new wr _) rfl
              obtain ⟨wa, hwa⟩ : ∃ x, wr.alloc (.cells #[.int .i64 v1, .slice q1 v2 q3, .int .i64 v3] 43) = x := ⟨_, rfl⟩
              rw [hwa] at G1 G2 hMa hKa e0 e1
              obtain ⟨y0, y1⟩ := hMa.out.c0
              have hfz := hMa.out.free j
              have y2 := hMa.out.at hjl
              generalize C[j] = cb at y2
              have hM9 := hid (hMa.out.set j)
              have hK9 := hid (hKa.out.trans (set_kept (rb := mb) (o := j) (v := .bool true)))
              clear hskip hmark ho
              go_wp2_with (first
                | (go_at_call 57; refine G1.out.mono ?_; clear G1; rintro e w4 ⟨rfl, hc4⟩; subst w4)
                | (go_at_call 58; refine G2.out.mono ?_; clear G2; rintro e w5 ⟨rfl, hc5⟩; subst w5))
              go_roundw
              case rel => exact ⟨true, _, i + 1, by omega, rfl, by go_num, hM9, hI9, hK9⟩
              case measure => simp [intOf]; omega
        · have hltz : ¬ (i : Int) < (pn : Int) := by omega
          have hall9 : Hid (b = false → ∀ n, Mrk tm C n ↔ Ends g n) := hid (fun e => by subst e; exact hall.out C0 C i hE.out (by rw [hpn.out]; omega))
          have hcnt : Hid (offN C + (if b then 1 else 0) < gk) := hid (by have h1 := hE.out.cnt; have h2 := hgk.out; simp at h2; omega)
          have hC9 := hid (And.intro hE.out.len hE.out.snd)
          go_wp2
          go_roundg (offN C + (if b then 1 else 0))
          case measure => exact hcnt.out
          case rel => exact ⟨b, C, rfl, hM, hC9, hall9, hK, hid (Nat.le_refl _)⟩

end Go.Proofs.YthgbjhnknepefaaGreat
namespace Go.Proofs.YthgbjhnknepefaaGreat
open Go.RowKit

theorem Nums.parts {w : World} {v : Value} {l : List Int} (h : Nums w v l) : (v = .slice none 0 0 ∧ l = []) ∨ ∃ ad cap, v = .slice (some ad) l.length cap ∧ ∀ j u, (numCells l)[j]? = some u → w.cell? (ad.add j) = some u := by
  by_cases h0 : l = []
  · subst h0
    rcases h.empty with rfl | ⟨a, cap, rfl⟩
    · exact Or.inl ⟨rfl, rfl⟩
    · exact Or.inr ⟨a, cap, rfl, fun j u hu => by simp [numCells] at hu⟩
  · obtain ⟨b, o, cap, rfl, hcap, hb, hc⟩ := h.at (List.length_pos_iff.2 h0)
    exact Or.inr ⟨_, cap, rfl, Nums.news hc⟩

set_option maxRecDepth 20000 in
theorem wp_app {ops : Array Oper} {rest : List Oper} {o : Oper} {a : Act} {Q : Exit → Act → World → Prop} (w : World) (hgd : o.guard = none) (s x : Operand)
    (ho : o.op = .call { callee := .builtin .append, args := #[s, x], argTypes := #[38, 38] })
    (B : Nat) (l1 l2 : List Int) (v vx : Value) (hs : a.eval s = v) (hx : a.eval x = vx) (hown : Own w B v l1) (hN : Nums w vx l2) (hl : l1.length + l2.length ≤ 4000000) (hB : B ≤ w.heap.size)
    (h : ∀ v' w', Own w' B v' (l1 ++ l2) → Below B w w' → wpList Tryz.prog ops Q rest (a.put o.dst v') w') : wpList Tryz.prog ops Q (o :: rest) a w := by
  obtain ⟨i0, hi, hz0, hz1, hz2⟩ := info_parts Tryz.info3
  rcases hN.parts with ⟨rfl, rfl⟩ | ⟨ad, cap, rfl, hnews⟩
  · refine wpList_append_own_none hgd s x 38 ho B 3 i0 1 Tryz.underlying38 hi v _ _ hs hown hx ?_
    rw [List.append_nil] at h
    exact h v w hown ((Below.refl _ w).mono hB)
  · refine wpList_append_own w hgd s x 38 ho B 3 i0 (.int .i64 0) 1 8 Tryz.underlying38 hi hz0 hz1 hz2 rfl (by decide) v _ _ hs hown ad l2.length cap (numCells l2) hx (by rw [numCells_len]; omega) hnews (numCells_one l2) (by unfold maxLen; omega) (by omega) hB ?_
    intro v' w' hO hg _
    refine h v' w' ?_ (below_app0 hown ((Below.refl _ w).mono hB) hB hg)
    unfold Own
    rw [numCells_app, List.length_append]
    exact hO

end Go.Proofs.YthgbjhnknepefaaGreat
namespace Go.Proofs.YthgbjhnknepefaaGreat
open Go.RowKit Go.Maps Go.Sort

/-- the place of the first mark that isn't put -/
def IdxF (L : List Bool) (i : Int) : Prop := (i = -1 ∧ ∀ j (hj : j < L.length), L[j] = true) ∨ ∃ k : Nat, i = (k : Int) ∧ ∃ hk : k < L.length, L[k] = false ∧ ∀ j (hj : j < L.length), j < k → L[j] = true
set_option maxRecDepth 20000 in
set_option maxHeartbeats 8000000 in
theorem idxFalse (v : Value) (L : List Bool) (w : World) (h : MkV w v L) (hL : L.length ≤ 1000) :
    Calls Tryz.prog 34 #[v, .bool false] w fun e w' => ∃ i : Int, e = .returned (.int .i64 i) ∧ IdxF L i ∧ w' = w := by
  obtain ⟨mb, rfl, hb⟩ := h
  have hc : Hid (∀ k (hk : k < L.length), w.cell? ⟨mb, k, none⟩ = some (.bool L[k])) := hid (fun k hk => blk_cell hb (by simp [hk]))
  have hno : Hid ((∀ j (hj : j < L.length), L[j] = true) → IdxF L (-1)) := hid (fun h => .inl ⟨rfl, h⟩)
  have hyes : Hid (∀ k (hk : k < L.length), L[k] = false → (∀ j (hj : j < L.length), j < k → L[j] = true) → IdxF L (k : Int)) := hid (fun k hk h1 h2 => .inr ⟨k, rfl, hk, h1, h2⟩)
  generalize IdxF L = Q at *
  obtain ⟨n, hn⟩ : ∃ n, Hid (L.length = n) := ⟨_, hid rfl⟩
  rw [hn.out] at hL ⊢
  clear hb
  go_enter Tryz.func34, Tryz.ntmps34
  go_wp2
  go_loopw [8] (fun i wr => ∃ k : Nat, k ≤ n ∧ i = .int .i64 (k : Int) ∧ Hid (∀ j (hj : j < L.length), j < k → L[j] = true) ∧ wr = w) (fun i _ => n - (intOf i).toNat)
  case atStart => exact ⟨0, Nat.zero_le _, rfl, hid (fun _ _ h => absurd h (Nat.not_lt_zero _)), rfl⟩
  case round =>
    obtain ⟨k, hk, rfl, hI, rfl⟩ := hrel
    by_cases hlt : k < n
    · have hltz : (k : Int) < (n : Int) := by omega
      have hkl : k < L.length := by rw [hn.out]; exact hlt
      have c0 := hc.out k hkl
      have hy := hid (fun h => hyes.out k hkl h hI.out)
      have hmore : Hid (L[k] = true → ∀ j (hj : j < L.length), j < k + 1 → L[j] = true) := hid (fun h j hj h9 => by
        rcases Nat.lt_or_ge j k with h8 | h8
        · exact hI.out j hj h8
        · obtain rfl : j = k := by omega
          exact h)
      clear hI hyes hno hc
      generalize L[k] = b at *
      cases b with
      | true =>
        have hm9 := hid (hmore.out rfl)
        clear hmore hy
        go_wp2
        go_roundw
        case rel => exact ⟨k + 1, by omega, by go_num, hm9, by first | rfl | trivial⟩
        case measure => simp [intOf]; omega
      | false =>
        have hy9 := hid (hy.out rfl)
        clear hmore hy
        go_wp2
        go_ret
        exact ⟨_, rfl, hy9.out, rfl⟩
    · have hltz : ¬ (k : Int) < (n : Int) := by omega
      have hno9 := hid (hno.out (fun j hj => hI.out j hj (by rw [hn.out] at hj; omega)))
      go_wp2
      go_ret
      exact ⟨_, rfl, hno9.out, rfl⟩
set_option maxRecDepth 20000 in
set_option maxHeartbeats 16000000 in
theorem markedC (g : Gm) (rv nv lv pv : Value) (st : Int) (v : Value) (L : List Bool) (w : World) (hV : GmV w rv nv lv pv g) (hl : g.rules.length ≤ 1000) (h : MkV w v L) (hL : L.length ≤ 1000) :
    Calls Tryz.prog 39 #[gmA rv nv lv pv st, v] w fun e w' => ∃ v', e = .returned v' ∧ Own w' w.heap.size v' (mksL g.terms L L.length) ∧ Below w.heap.size w w' := by
  obtain ⟨mb, rfl, hb⟩ := h
  have hB1 := al' w (.cells #[rv, nv, lv, pv, .int .i64 st] 27)
  have k1 := heap_new w (.cells #[rv, nv, lv, pv, .int .i64 st] 27)
  obtain ⟨W, hW⟩ : ∃ x, w.alloc (.cells #[rv, nv, lv, pv, .int .i64 st] 27) = x := ⟨_, rfl⟩
  rw [hW] at hB1 k1
  have hB := hid hB1
  have hk1 := hid (fun u (hu : Below W.heap.size W u) => cells5m (hs_keep k1 hu))
  have hc : Hid (∀ u, Below W.heap.size W u → ∀ k (hk : k < L.length), u.cell? ⟨mb, k, none⟩ = some (.bool L[k])) := hid (fun u hu k hk => blk_cell (hs_keep hb (bl_step hB1 hu)) (by simp [hk]))
  have G0 := hid (fun u (hu : Below W.heap.size W u) => firstC rv nv lv pv g st u (hV.keep (bl_step hB1 hu)) hl)
  have ht := terms_le g
  have hsz : w.heap.size ≤ W.heap.size := hB1.size
  generalize g.terms = tm at *
  have hs1 : Hid (∀ k (hk : k < L.length), L[k] = true → mksL tm L (k + 1) = mksL tm L k ++ [(tm : Int) + 1 + (k : Int)]) := hid (fun k hk h => by
    show mksL tm L k ++ _ = _
    rw [List.getD_eq_getElem?_getD, List.getElem?_eq_getElem hk, h]
    rfl)
  have hs2 : Hid (∀ k (hk : k < L.length), L[k] = false → mksL tm L (k + 1) = mksL tm L k) := hid (fun k hk h => by
    show mksL tm L k ++ _ = _
    rw [List.getD_eq_getElem?_getD, List.getElem?_eq_getElem hk, h]
    exact List.append_nil _)
  have hlen := hid (fun k => mksL_len tm L k)
  have hst0 : Hid (Own W W.heap.size (.slice none 0 0) (mksL tm L 0)) := hid (World.ownsRow_nil _ _ _ _)
  generalize mksL tm L = F at *
  obtain ⟨n, hn⟩ : ∃ n, Hid (L.length = n) := ⟨_, hid rfl⟩
  rw [hn.out] at hL ⊢
  clear hb hV hB1 k1
  go_enter Tryz.func39, Tryz.ntmps39
  go_wp2
  clear hW
  go_loopw [5, 10] (fun v i wr => ∃ k : Nat, k ≤ n ∧ i = .int .i64 (k : Int) ∧ Hid (Own wr W.heap.size v (F k)) ∧ Hid (Below W.heap.size W wr)) (fun _ i _ => n - (intOf i).toNat)
  case atStart => exact ⟨0, Nat.zero_le _, rfl, hst0, hid (Below.refl _ _)⟩
  case round =>
    obtain ⟨k, hk, rfl, hO, hbl⟩ := hrel
    by_cases hlt : k < n
    · have hltz : (k : Int) < (n : Int) := by omega
      have hkl : k < L.length := by rw [hn.out]; exact hlt
      have c0 := hc.out wr hbl.out k hkl
      obtain ⟨y0, y1, y2, y3, y4⟩ := hk1.out wr hbl.out
      have e1 := hs1.out k hkl
      have e2 := hs2.out k hkl
      have hlF := hlen.out k
      generalize L[k] = b at *
      cases b with
      | false =>
        have hO9 := hid hO.out
        rw [← e2 rfl] at hO9
        clear e1 e2 hO y0 y1 y2 y3 y4
        go_wp2
        go_roundw
        case rel => exact ⟨k + 1, by omega, by go_num, hO9, hbl⟩
        case measure => simp [intOf]; omega
      | true =>
        have e9 := hid (e1 rfl)
        have G := hid (G0.out wr hbl.out)
        clear e1 e2
        go_wp2_with (first
          | (go_at_call 36; refine G.out.mono ?_; clear G; rintro e w3 ⟨rfl, hc3⟩
             have hal := al' w3 (.cells #[.int .i64 ((tm : Int) + 1 + (k : Int))] 3)
             have hOa := hid (own_below (own_below hO.out hc3) hal)
             have hDa := hid (Nums.of_row (Own.lit1 w3 ((tm : Int) + 1 + (k : Int))))
             have hBa := hid (bl_step (bl_step hbl.out hc3) hal)
             clear hal hc3)
          | (at_builtin; refine wp_app _ rfl _ _ rfl W.heap.size (F k) [(tm : Int) + 1 + (k : Int)] _ _ rfl rfl hOa.out hDa.out (by simp; omega) hBa.out.size ?_; intro v4 w4 hO4 hb4; have hO9 := hid hO4; have hb9 := hid (hBa.out.trans hb4); clear hO4 hb4))
        go_roundw
        case rel => exact ⟨k + 1, by omega, by go_num, hid (by rw [e9.out]; exact hO9.out), hb9⟩
        case measure => simp [intOf]; omega
    · have hltz : ¬ (k : Int) < (n : Int) := by omega
      obtain rfl : k = n := by omega
      go_wp2
      go_ret
      exact ⟨_, rfl, own_base hO.out hsz, bl_step hB.out hbl.out⟩

end Go.Proofs.YthgbjhnknepefaaGreat
