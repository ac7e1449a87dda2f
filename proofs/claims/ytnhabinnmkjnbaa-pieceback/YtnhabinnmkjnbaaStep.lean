/- The contract of step, from the one list to the other. -/
import Derived.Test.YtnhabinnmkjnbaaEdit
namespace Go.Proofs.Ytnhabinnmkjnbaa
open Go.RowKit
attribute [local go_sem ↓] Go.wp_at_zero Go.wp_at_succ

set_option maxHeartbeats 400000 in
theorem undoNo {tb pb : Nat} {ps : List ByteArray} {uv rv : Value} {us rs : List Ed} {w : World} (h : TextAt w tb pb ps uv rv us rs) (h0 : us = []) :
    Calls Try.prog 30 #[.pointer (some ⟨tb, 0, none⟩), .pointer (some ⟨tb, 3, none⟩), .pointer (some ⟨tb, 4, none⟩)] w fun e w' => e = .returned (.int .i64 4) ∧ w' = w := by
  subst h0
  obtain ⟨ua, uc, rfl⟩ : ∃ ua uc, uv = .slice ua 0 uc := by
    rcases Joins.ownsRow_forms h.undo with ⟨rfl, h0⟩ | ⟨g, cap, rfl⟩
    · exact ⟨none, 0, rfl⟩
    · exact ⟨_, _, rfl⟩
  have c3 : w.cell? ⟨tb, 3, none⟩ = some (.slice ua 0 uc) := blk_cell h.head rfl
  clear h
  go_enter Try.func30, Try.ntmps30
  go_wp2
  go_ret
  exact ⟨rfl, rfl⟩

set_option maxHeartbeats 4000000 in
theorem undoOk {tb pb : Nat} {ps : List ByteArray} {uv rv : Value} {us rs fs0 : List Ed} {w : World} (h : TextAt w tb pb ps uv rv us rs) (t : ByteArray) (a n : Nat) (hus : us = fs0 ++ [⟨a, n, t⟩]) (_hu : us.length ≤ 32) (hr : rs.length ≤ 32)
    (ht : t.size ≤ 1000000) (hf : a + n ≤ total ps) (hm : total ps - n + t.size ≤ 4000) :
    Calls Try.prog 30 #[.pointer (some ⟨tb, 0, none⟩), .pointer (some ⟨tb, 3, none⟩), .pointer (some ⟨tb, 4, none⟩)] w fun e w' => e = .returned (.int .i64 0) ∧
      (∃ pb' uv' rv', TextAt w' tb pb' [(joinB ps).extract 0 a, t, (joinB ps).extract (a + n) (joinB ps).size] uv' rv' fs0 (rs ++ [backE (joinB ps) t a n]) ∧ w.heap.size ≤ pb' ∧
        (∀ k, uv'.ownBlock = some k → uv.ownBlock = some k ∨ w.heap.size ≤ k) ∧ (∀ k, rv'.ownBlock = some k → rv.ownBlock = some k ∨ w.heap.size ≤ k)) ∧
      Kept (fun k => k = tb ∨ uv.ownBlock = some k ∨ rv.ownBlock = some k) w w' := by
  obtain ⟨i0, hi, hz0, hz1, hz2⟩ := info_parts info34
  have GC : Hid (∀ (u : World) (_ : TextAt u tb pb ps uv rv us rs), _) := fun u hu => changeOk hu t a n ht hf hm
  obtain ⟨s, hs⟩ : ∃ s, joinB ps = s := ⟨_, rfl⟩
  rw [hs] at GC ⊢
  unfold backA at GC
  obtain ⟨g, cap, hv, _, hgl⟩ := h.undo.form (by rw [hus]; simp)
  obtain ⟨L, hL⟩ : ∃ L, fs0.length = L := ⟨_, rfl⟩
  have hlen : us.length = L + 1 := by rw [hus, ← hL]; simp
  rw [hlen] at hv
  have hcap : L + 1 ≤ cap ∧ cap ≤ 9223372036854775807 := by
    rcases h.undo.2 with ⟨h1, _⟩ | ⟨g', cap', cur, h1, _, h3, h4, h5, _⟩
    · rw [hv] at h1; cases h1
    · rw [hv] at h1
      injection h1 with e1 e2 e3
      unfold maxLen at h5
      exact ⟨by omega, by omega⟩
  obtain ⟨hc1, hc2⟩ := hcap
  have htb : tb < w.heap.size := blk_lt h.head
  have HT : Hid (TextAt w tb pb ps uv rv us rs) := h
  have e0 : w.cell? ⟨tb, 3, none⟩ = some (.slice (some ⟨g, 0, none⟩) (L + 1) cap) := by rw [← hv]; exact blk_cell h.head rfl
  have HCELL : w.cell? ⟨g, L * 3, none⟩ = some (.int .i64 a) ∧ w.cell? ⟨g, L * 3 + 1, none⟩ = some (.int .i64 n) ∧ w.cell? ⟨g, L * 3 + 2, none⟩ = some (.string t) := by
    have hl2 : L < us.length := by omega
    obtain ⟨k0, k1, k2⟩ := edCells_at us L hl2
    have eL : us[L]'hl2 = ⟨a, n, t⟩ := by
      subst hL
      simp only [hus, List.getElem_concat_length]
    rw [eL] at k0 k1 k2
    have c := h.undo.cells (g := g) (by rw [hv]; rfl)
    have c0 := c _ _ k0
    have c1 := c _ _ k1
    have c2 := c _ _ k2
    rw [add_off, Nat.zero_add] at c0 c1 c2
    exact ⟨c0, c1, c2⟩
  obtain ⟨g0, g1, g2⟩ := HCELL
  have HAp : Hid (∀ k, uv.ownBlock = some k → rv.ownBlock = some k → False) := h.apart
  have hfg : Hid (uv.ownBlock = some g) := by unfold Hid; rw [hv]; rfl
  have hgp : Hid (g ≠ pb) := (h.undoNe g hfg.out).2
  have HTl : Hid (∀ k, rv.ownBlock = some k → k < w.heap.size ∧ k ≠ tb) := fun k e => ⟨(own_lt h.redo e).1, (h.redoNe k e).1⟩
  have hgt : g ≠ tb := (h.undoNe g (by rw [hv]; rfl)).1
  have HVal : Hid (uv = .slice (some ⟨g, 0, none⟩) (L + 1) cap) := hv
  have HDel : Hid (∀ u : World, u.ownsRow 0 34 3 uv us.length (edCells us) → Calls Try.prog 39 #[.slice (some ⟨g, 0, none⟩) (L + 1) cap, .int .i64 L, .int .i64 ((L : Int) + 1)] u fun e w' => e = .returned (.slice (some ⟨g, 0, none⟩) L cap) ∧
      w'.ownsRow 0 34 3 (.slice (some ⟨g, 0, none⟩) L cap) fs0.length (edCells fs0) ∧ Kept (oneBlk g) u w') := by
    intro u hu2
    rw [hv] at hu2
    have k := deleteIs g cap L (L + 1) us u (by rw [hlen] at hu2 ⊢; exact hu2) (by omega) (by omega)
    have e1 : us.take L ++ us.drop (L + 1) = fs0 := by
      subst hL
      rw [hus]
      simp
    rw [e1, hlen] at k
    simp only [Nat.sub_self, Nat.add_zero] at k
    rw [hL]
    exact_mod_cast k
  clear h hs hf hm hus hlen hv
  go_enter Try.func30, Try.ntmps30
  go_wp2_with (first
    | (go_at_call 28; refine (GC.out _ HT.out).mono ?_; rintro e w1 ⟨rfl, ⟨pb1, ht1, hp1⟩, hk1⟩; have T2 : Hid (TextAt w1 tb pb1 _ uv rv us rs) := ht1; have z1 := hk1.size; have B2 := heap_alloc_new w1 (.cells #[.int .i64 a, .int .i64 t.size, .string (s.extract a (a + n))] 34); have H2 := blk_alloc ht1.head (.cells #[.int .i64 a, .int .i64 t.size, .string (s.extract a (a + n))] 34); obtain ⟨q3, q4, q5, q6⟩ := five H2; clear ht1; rw [HVal.out] at q3)
    | (go_at_call 39; refine (HDel.out _ (T2.out.undo.alloc _)).mono ?_; rintro e w2 ⟨rfl, ho2, hk2⟩; have H3 := hk2.blk H2 (Ne.symm hgt); obtain ⟨r3, r4, r5, r6⟩ := five H3))
  obtain ⟨X, hX⟩ : ∃ X, X = w2.setCell ⟨tb, 3, none⟩ (.slice (some ⟨g, 0, none⟩) L cap) := ⟨_, rfl⟩
  rw [← hX]
  have KX : Kept (oneBlk tb) w2 X := by rw [hX]; exact (Kept.refl (oneBlk tb) w2).setCell (a := ⟨tb, 3, none⟩) fun _ => rfl
  have H4 := heap_setCell (o := 3) (v := .slice (some ⟨g, 0, none⟩) L cap) H3
  rw [← hX] at H4
  have z2 := hk2.size
  have z3 := KX.size
  simp only [World.size_alloc] at z2
  have hbg : w1.heap.size ≠ g := by omega
  have B4 := KX.blk (hk2.blk B2 hbg) (by show ¬ w1.heap.size = tb; omega)
  have hpg : pb1 ≠ g := (T2.out.undoNe g hfg.out).2.symm
  have P4 := KX.blk (hk2.blk (blk_alloc T2.out.row (.cells #[.int .i64 a, .int .i64 t.size, .string (s.extract a (a + n))] 34)) hpg) T2.out.rowNe
  have O4 : X.ownsRow 0 34 3 (.slice (some ⟨g, 0, none⟩) L cap) fs0.length (edCells fs0) := own_keep ho2 (fun k e => KX.block k (own_lt ho2 e).1 (fun e2 => hgt (by simp [Value.ownBlock] at e; exact e.trans e2)))
  have R4 : X.ownsRow 0 34 3 rv rs.length (edCells rs) := by
    have r1 := T2.out.redo.alloc (.cells #[.int .i64 a, .int .i64 t.size, .string (s.extract a (a + n))] 34)
    have r2 : w2.ownsRow 0 34 3 rv rs.length (edCells rs) := own_keep r1 (fun k e => hk2.block k (own_lt r1 e).1 (fun e2 => HAp.out k (by rw [hfg.out]; exact congrArg some (Eq.symm e2)) e))
    exact own_keep r2 (fun k e => KX.block k (own_lt r2 e).1 (HTl.out k e).2)
  have U5 : Hid (∀ o, (X.drew.alloc o).ownsRow 0 34 3 rv rs.length (edCells rs)) := fun o => (show X.drew.ownsRow 0 34 3 rv rs.length (edCells rs) from R4).alloc o
  have N5 : Hid (∀ j u, (edCells [backE s t a n])[j]? = some u → (X.drew.alloc (.cells #[.int .i64 a, .int .i64 t.size, .string (s.extract a (a + n))] 34)).cell? ((⟨X.heap.size, 0, none⟩ : Addr).add j) = some u) :=
    World.news_of_block (cs := #[.int .i64 a, .int .i64 t.size, .string (s.extract a (a + n))]) (heap_alloc_new X.drew _)
  have hone : Hid (∀ u ∈ edCells [backE s t a n], u.oneCell' = true) := edCells_one _
  have hKX : Hid (Kept (oneBlk tb) w2 X) := KX
  have HO4 : Hid (X.ownsRow 0 34 3 (.slice (some ⟨g, 0, none⟩) L cap) fs0.length (edCells fs0)) := O4
  have HB : Hid (X.heap[w1.heap.size]? = _) := B4
  have HP : Hid (X.heap[pb1]? = _) := P4
  have HH : Hid (X.heap[tb]? = _) := H4
  obtain ⟨p0, p1, p2⟩ := cells3 B4
  obtain ⟨x3, x4, x5, x6⟩ := five (x0 := .slice (some ⟨pb1, 0, none⟩) _ _) (T := 61) H4
  have Q3 : ∀ o, (X.alloc o).cell? ⟨tb, 4, none⟩ = some rv := fun o => (five (x0 := .slice (some ⟨pb1, 0, none⟩) _ _) (T := 61) (blk_alloc H4 o)).2.1
  clear hX O4 R4 B4 P4 H4 KX B2 H2 H3 q3 q4 q5 q6 r3 r4 r5 r6 g0 g1 g2 e0
  go_region_law ((first
    | (refine step_append_lies _ (by rfl) (.tmp 42) (.tmp 44) 50 (by rfl) 0 34 i0 (.agg #[.int .i64 0, .int .i64 0, .string ⟨#[]⟩]) 3 32 Try.underlying50 hi hz0 hz1 hz2 rfl (by decide) rv rs.length (edCells rs) (by rfl) (U5.out _) ⟨X.heap.size, 0, none⟩ 1 1 (edCells [backE s t a n]) (by rfl) (by rfl) N5.out hone.out (by omega) (by (unfold maxLen); omega) (by omega) (Nat.zero_le _) (X.heap.size + 1) (by simp) ?_; intro d cap2 w5 hown5 hgrow hat hlt; have H5 := grow_blk hgrow (by exact blk_alloc HH.out _) (fun e => (HTl.out tb e).2 rfl); have P5 := grow_blk hgrow (by exact blk_alloc HP.out _) (fun e => (T2.out.redoNe _ e).2 rfl); obtain ⟨v3, v4, v5, v6⟩ := five (x0 := .slice (some ⟨pb1, 0, none⟩) _ _) (T := 61) H5)))
  all_goals
    go_wp2
    go_ret
    have hXz := hKX.out.size
    have hgX : g < X.heap.size := by omega
    have hdt : d ≠ tb := by
      rcases hat with e | e
      · exact (HTl.out d e).2
      · omega
    have hdg : d ≠ g := by
      rcases hat with e | e
      · exact fun e2 => HAp.out d (by rw [e2]; exact hfg.out) e
      · omega
    have O5 : w5.ownsRow 0 34 3 (.slice (some ⟨g, 0, none⟩) L cap) fs0.length (edCells fs0) := own_keep HO4.out (fun k e => by
      simp [Value.ownBlock] at e
      subst e
      exact (hgrow.block g (by simp; omega) (fun e => HAp.out g hfg.out e.symm)).trans (Below.heap_alloc X.drew _ g hgX))
    have K2 : Kept (fun k => k = tb ∨ uv.ownBlock = some k ∨ rv.ownBlock = some k) w w2 := ((((Kept.refl _ w).step hk1 (fun k _ e => .inl e)).alloc).step hk2 (fun k _ e => .inr (.inl (by rw [show k = g from e]; exact hfg.out))))
    have KX : Kept (fun k => k = tb ∨ uv.ownBlock = some k ∨ rv.ownBlock = some k) w X := K2.step hKX.out (fun k _ e => .inl e)
    have K5 : Kept (fun k => k = tb ∨ uv.ownBlock = some k ∨ rv.ownBlock = some k) w w5 := Kept.grown (by first | exact KX.drew.alloc | exact KX.alloc.drew) hgrow (fun k _ e => .inr (.inr e))
    have KF : Kept (oneBlk tb) w5 (w5.setCell ⟨tb, 4, none⟩ (.slice (some ⟨d, 0, none⟩) (rs.length + 1) cap2)) := (Kept.refl (oneBlk tb) w5).setCell (a := ⟨tb, 4, none⟩) fun _ => rfl
    have F1 := own_keep O5 (fun k e => KF.block k (own_lt O5 e).1 (fun e2 => hgt (by simp [Value.ownBlock] at e; exact e.trans e2)))
    have F2 := own_keep hown5 (fun k e => KF.block k (own_lt hown5 e).1 (fun e2 => hdt (by simp [Value.ownBlock] at e; exact e.trans e2)))
    rw [← edCells_append] at F2
    have hlen2 : (rs ++ [backE s t a n]).length = rs.length + 1 := by simp
    have hd1 : ∀ k, (Value.slice (some ⟨d, 0, none⟩) (rs.length + 1) cap2).ownBlock = some k → rv.ownBlock = some k ∨ w.heap.size ≤ k := fun k e => by
      simp [Value.ownBlock] at e
      subst e
      rcases hat with e2 | e2
      · exact .inl e2
      · right; omega
    have hg1 : ∀ k, (Value.slice (some ⟨g, 0, none⟩) L cap).ownBlock = some k → uv.ownBlock = some k ∨ w.heap.size ≤ k := fun k e => .inl (by rw [hfg.out]; simp [Value.ownBlock] at e; rw [e])
    have HF := heap_setCell (o := 4) (v := .slice (some ⟨d, 0, none⟩) (rs.length + 1) cap2) H5
    have hne : ∀ k, (Value.slice (some ⟨d, 0, none⟩) (rs.length + 1) cap2).ownBlock = some k → (Value.slice (some ⟨g, 0, none⟩) L cap).ownBlock = some k → False := fun k e1 e2 => by
      simp [Value.ownBlock] at e1 e2
      omega
    exact ⟨rfl, ⟨pb1, _, _, ⟨HF, KF.blk P5 T2.out.rowNe, F1, (by rw [hlen2]; exact F2), (fun k e1 e2 => hne k e2 e1), T2.out.small, T2.out.few⟩, by omega, hg1, hd1⟩, K5.setCell (a := ⟨tb, 4, none⟩) fun _ => .inl rfl⟩

set_option maxHeartbeats 400000 in
theorem redoNo {tb pb : Nat} {ps : List ByteArray} {uv rv : Value} {us rs : List Ed} {w : World} (h : TextAt w tb pb ps uv rv us rs) (h0 : rs = []) :
    Calls Try.prog 30 #[.pointer (some ⟨tb, 0, none⟩), .pointer (some ⟨tb, 4, none⟩), .pointer (some ⟨tb, 3, none⟩)] w fun e w' => e = .returned (.int .i64 4) ∧ w' = w := by
  subst h0
  obtain ⟨ua, uc, rfl⟩ : ∃ ua uc, rv = .slice ua 0 uc := by
    rcases Joins.ownsRow_forms h.redo with ⟨rfl, h0⟩ | ⟨g, cap, rfl⟩
    · exact ⟨none, 0, rfl⟩
    · exact ⟨_, _, rfl⟩
  have c3 : w.cell? ⟨tb, 4, none⟩ = some (.slice ua 0 uc) := blk_cell h.head rfl
  clear h
  go_enter Try.func30, Try.ntmps30
  go_wp2
  go_ret
  exact ⟨rfl, rfl⟩

set_option maxHeartbeats 4000000 in
theorem redoOk {tb pb : Nat} {ps : List ByteArray} {uv rv : Value} {us rs fs0 : List Ed} {w : World} (h : TextAt w tb pb ps uv rv us rs) (t : ByteArray) (a n : Nat) (hus : rs = fs0 ++ [⟨a, n, t⟩]) (_hu : rs.length ≤ 32) (hr : us.length ≤ 32)
    (ht : t.size ≤ 1000000) (hf : a + n ≤ total ps) (hm : total ps - n + t.size ≤ 4000) :
    Calls Try.prog 30 #[.pointer (some ⟨tb, 0, none⟩), .pointer (some ⟨tb, 4, none⟩), .pointer (some ⟨tb, 3, none⟩)] w fun e w' => e = .returned (.int .i64 0) ∧
      (∃ pb' uv' rv', TextAt w' tb pb' [(joinB ps).extract 0 a, t, (joinB ps).extract (a + n) (joinB ps).size] uv' rv' (us ++ [backE (joinB ps) t a n]) fs0 ∧ w.heap.size ≤ pb' ∧
        (∀ k, uv'.ownBlock = some k → uv.ownBlock = some k ∨ w.heap.size ≤ k) ∧ (∀ k, rv'.ownBlock = some k → rv.ownBlock = some k ∨ w.heap.size ≤ k)) ∧
      Kept (fun k => k = tb ∨ uv.ownBlock = some k ∨ rv.ownBlock = some k) w w' := by
  obtain ⟨i0, hi, hz0, hz1, hz2⟩ := info_parts info34
  have GC : Hid (∀ (u : World) (_ : TextAt u tb pb ps uv rv us rs), _) := fun u hu => changeOk hu t a n ht hf hm
  obtain ⟨s, hs⟩ : ∃ s, joinB ps = s := ⟨_, rfl⟩
  rw [hs] at GC ⊢
  unfold backA at GC
  obtain ⟨g, cap, hv, _, hgl⟩ := h.redo.form (by rw [hus]; simp)
  obtain ⟨L, hL⟩ : ∃ L, fs0.length = L := ⟨_, rfl⟩
  have hlen : rs.length = L + 1 := by rw [hus, ← hL]; simp
  rw [hlen] at hv
  have hcap : L + 1 ≤ cap ∧ cap ≤ 9223372036854775807 := by
    rcases h.redo.2 with ⟨h1, _⟩ | ⟨g', cap', cur, h1, _, h3, h4, h5, _⟩
    · rw [hv] at h1; cases h1
    · rw [hv] at h1
      injection h1 with e1 e2 e3
      unfold maxLen at h5
      exact ⟨by omega, by omega⟩
  obtain ⟨hc1, hc2⟩ := hcap
  have htb : tb < w.heap.size := blk_lt h.head
  have HT : Hid (TextAt w tb pb ps uv rv us rs) := h
  have e0 : w.cell? ⟨tb, 4, none⟩ = some (.slice (some ⟨g, 0, none⟩) (L + 1) cap) := by rw [← hv]; exact blk_cell h.head rfl
  have HCELL : w.cell? ⟨g, L * 3, none⟩ = some (.int .i64 a) ∧ w.cell? ⟨g, L * 3 + 1, none⟩ = some (.int .i64 n) ∧ w.cell? ⟨g, L * 3 + 2, none⟩ = some (.string t) := by
    have hl2 : L < rs.length := by omega
    obtain ⟨k0, k1, k2⟩ := edCells_at rs L hl2
    have eL : rs[L]'hl2 = ⟨a, n, t⟩ := by
      subst hL
      simp only [hus, List.getElem_concat_length]
    rw [eL] at k0 k1 k2
    have c := h.redo.cells (g := g) (by rw [hv]; rfl)
    have c0 := c _ _ k0
    have c1 := c _ _ k1
    have c2 := c _ _ k2
    rw [add_off, Nat.zero_add] at c0 c1 c2
    exact ⟨c0, c1, c2⟩
  obtain ⟨g0, g1, g2⟩ := HCELL
  have HAp : Hid (∀ k, rv.ownBlock = some k → uv.ownBlock = some k → False) := (fun k e1 e2 => h.apart k e2 e1)
  have hfg : Hid (rv.ownBlock = some g) := by unfold Hid; rw [hv]; rfl
  have hgp : Hid (g ≠ pb) := (h.redoNe g hfg.out).2
  have HTl : Hid (∀ k, uv.ownBlock = some k → k < w.heap.size ∧ k ≠ tb) := fun k e => ⟨(own_lt h.undo e).1, (h.undoNe k e).1⟩
  have hgt : g ≠ tb := (h.redoNe g (by rw [hv]; rfl)).1
  have HVal : Hid (rv = .slice (some ⟨g, 0, none⟩) (L + 1) cap) := hv
  have HDel : Hid (∀ u : World, u.ownsRow 0 34 3 rv rs.length (edCells rs) → Calls Try.prog 39 #[.slice (some ⟨g, 0, none⟩) (L + 1) cap, .int .i64 L, .int .i64 ((L : Int) + 1)] u fun e w' => e = .returned (.slice (some ⟨g, 0, none⟩) L cap) ∧
      w'.ownsRow 0 34 3 (.slice (some ⟨g, 0, none⟩) L cap) fs0.length (edCells fs0) ∧ Kept (oneBlk g) u w') := by
    intro u hu2
    rw [hv] at hu2
    have k := deleteIs g cap L (L + 1) rs u (by rw [hlen] at hu2 ⊢; exact hu2) (by omega) (by omega)
    have e1 : rs.take L ++ rs.drop (L + 1) = fs0 := by
      subst hL
      rw [hus]
      simp
    rw [e1, hlen] at k
    simp only [Nat.sub_self, Nat.add_zero] at k
    rw [hL]
    exact_mod_cast k
  clear h hs hf hm hus hlen hv
  go_enter Try.func30, Try.ntmps30
  go_wp2_with (first
    | (go_at_call 28; refine (GC.out _ HT.out).mono ?_; rintro e w1 ⟨rfl, ⟨pb1, ht1, hp1⟩, hk1⟩; have T2 : Hid (TextAt w1 tb pb1 _ uv rv us rs) := ht1; have z1 := hk1.size; have B2 := heap_alloc_new w1 (.cells #[.int .i64 a, .int .i64 t.size, .string (s.extract a (a + n))] 34); have H2 := blk_alloc ht1.head (.cells #[.int .i64 a, .int .i64 t.size, .string (s.extract a (a + n))] 34); obtain ⟨q3, q4, q5, q6⟩ := five H2; clear ht1; rw [HVal.out] at q4)
    | (go_at_call 39; refine (HDel.out _ (T2.out.redo.alloc _)).mono ?_; rintro e w2 ⟨rfl, ho2, hk2⟩; have H3 := hk2.blk H2 (Ne.symm hgt); obtain ⟨r3, r4, r5, r6⟩ := five H3))
  obtain ⟨X, hX⟩ : ∃ X, X = w2.setCell ⟨tb, 4, none⟩ (.slice (some ⟨g, 0, none⟩) L cap) := ⟨_, rfl⟩
  rw [← hX]
  have KX : Kept (oneBlk tb) w2 X := by rw [hX]; exact (Kept.refl (oneBlk tb) w2).setCell (a := ⟨tb, 4, none⟩) fun _ => rfl
  have H4 := heap_setCell (o := 4) (v := .slice (some ⟨g, 0, none⟩) L cap) H3
  rw [← hX] at H4
  have z2 := hk2.size
  have z3 := KX.size
  simp only [World.size_alloc] at z2
  have hbg : w1.heap.size ≠ g := by omega
  have B4 := KX.blk (hk2.blk B2 hbg) (by show ¬ w1.heap.size = tb; omega)
  have hpg : pb1 ≠ g := (T2.out.redoNe g hfg.out).2.symm
  have P4 := KX.blk (hk2.blk (blk_alloc T2.out.row (.cells #[.int .i64 a, .int .i64 t.size, .string (s.extract a (a + n))] 34)) hpg) T2.out.rowNe
  have O4 : X.ownsRow 0 34 3 (.slice (some ⟨g, 0, none⟩) L cap) fs0.length (edCells fs0) := own_keep ho2 (fun k e => KX.block k (own_lt ho2 e).1 (fun e2 => hgt (by simp [Value.ownBlock] at e; exact e.trans e2)))
  have R4 : X.ownsRow 0 34 3 uv us.length (edCells us) := by
    have r1 := T2.out.undo.alloc (.cells #[.int .i64 a, .int .i64 t.size, .string (s.extract a (a + n))] 34)
    have r2 : w2.ownsRow 0 34 3 uv us.length (edCells us) := own_keep r1 (fun k e => hk2.block k (own_lt r1 e).1 (fun e2 => HAp.out k (by rw [hfg.out]; exact congrArg some (Eq.symm e2)) e))
    exact own_keep r2 (fun k e => KX.block k (own_lt r2 e).1 (HTl.out k e).2)
  have U5 : Hid (∀ o, (X.drew.alloc o).ownsRow 0 34 3 uv us.length (edCells us)) := fun o => (show X.drew.ownsRow 0 34 3 uv us.length (edCells us) from R4).alloc o
  have N5 : Hid (∀ j u, (edCells [backE s t a n])[j]? = some u → (X.drew.alloc (.cells #[.int .i64 a, .int .i64 t.size, .string (s.extract a (a + n))] 34)).cell? ((⟨X.heap.size, 0, none⟩ : Addr).add j) = some u) :=
    World.news_of_block (cs := #[.int .i64 a, .int .i64 t.size, .string (s.extract a (a + n))]) (heap_alloc_new X.drew _)
  have hone : Hid (∀ u ∈ edCells [backE s t a n], u.oneCell' = true) := edCells_one _
  have hKX : Hid (Kept (oneBlk tb) w2 X) := KX
  have HO4 : Hid (X.ownsRow 0 34 3 (.slice (some ⟨g, 0, none⟩) L cap) fs0.length (edCells fs0)) := O4
  have HB : Hid (X.heap[w1.heap.size]? = _) := B4
  have HP : Hid (X.heap[pb1]? = _) := P4
  have HH : Hid (X.heap[tb]? = _) := H4
  obtain ⟨p0, p1, p2⟩ := cells3 B4
  obtain ⟨x3, x4, x5, x6⟩ := five (x0 := .slice (some ⟨pb1, 0, none⟩) _ _) (T := 61) H4
  have Q3 : ∀ o, (X.alloc o).cell? ⟨tb, 3, none⟩ = some uv := fun o => (five (x0 := .slice (some ⟨pb1, 0, none⟩) _ _) (T := 61) (blk_alloc H4 o)).1
  clear hX O4 R4 B4 P4 H4 KX B2 H2 H3 q3 q4 q5 q6 r3 r4 r5 r6 g0 g1 g2 e0
  go_region_law ((first
    | (refine step_append_lies _ (by rfl) (.tmp 42) (.tmp 44) 50 (by rfl) 0 34 i0 (.agg #[.int .i64 0, .int .i64 0, .string ⟨#[]⟩]) 3 32 Try.underlying50 hi hz0 hz1 hz2 rfl (by decide) uv us.length (edCells us) (by rfl) (U5.out _) ⟨X.heap.size, 0, none⟩ 1 1 (edCells [backE s t a n]) (by rfl) (by rfl) N5.out hone.out (by omega) (by (unfold maxLen); omega) (by omega) (Nat.zero_le _) (X.heap.size + 1) (by simp) ?_; intro d cap2 w5 hown5 hgrow hat hlt; have H5 := grow_blk hgrow (by exact blk_alloc HH.out _) (fun e => (HTl.out tb e).2 rfl); have P5 := grow_blk hgrow (by exact blk_alloc HP.out _) (fun e => (T2.out.undoNe _ e).2 rfl); obtain ⟨v3, v4, v5, v6⟩ := five (x0 := .slice (some ⟨pb1, 0, none⟩) _ _) (T := 61) H5)))
  all_goals
    go_wp2
    go_ret
    have hXz := hKX.out.size
    have hgX : g < X.heap.size := by omega
    have hdt : d ≠ tb := by
      rcases hat with e | e
      · exact (HTl.out d e).2
      · omega
    have hdg : d ≠ g := by
      rcases hat with e | e
      · exact fun e2 => HAp.out d (by rw [e2]; exact hfg.out) e
      · omega
    have O5 : w5.ownsRow 0 34 3 (.slice (some ⟨g, 0, none⟩) L cap) fs0.length (edCells fs0) := own_keep HO4.out (fun k e => by
      simp [Value.ownBlock] at e
      subst e
      exact (hgrow.block g (by simp; omega) (fun e => HAp.out g hfg.out e.symm)).trans (Below.heap_alloc X.drew _ g hgX))
    have K2 : Kept (fun k => k = tb ∨ uv.ownBlock = some k ∨ rv.ownBlock = some k) w w2 := ((((Kept.refl _ w).step hk1 (fun k _ e => .inl e)).alloc).step hk2 (fun k _ e => .inr (.inr (by rw [show k = g from e]; exact hfg.out))))
    have KX : Kept (fun k => k = tb ∨ uv.ownBlock = some k ∨ rv.ownBlock = some k) w X := K2.step hKX.out (fun k _ e => .inl e)
    have K5 : Kept (fun k => k = tb ∨ uv.ownBlock = some k ∨ rv.ownBlock = some k) w w5 := Kept.grown (by first | exact KX.drew.alloc | exact KX.alloc.drew) hgrow (fun k _ e => .inr (.inl e))
    have KF : Kept (oneBlk tb) w5 (w5.setCell ⟨tb, 3, none⟩ (.slice (some ⟨d, 0, none⟩) (us.length + 1) cap2)) := (Kept.refl (oneBlk tb) w5).setCell (a := ⟨tb, 3, none⟩) fun _ => rfl
    have F1 := own_keep O5 (fun k e => KF.block k (own_lt O5 e).1 (fun e2 => hgt (by simp [Value.ownBlock] at e; exact e.trans e2)))
    have F2 := own_keep hown5 (fun k e => KF.block k (own_lt hown5 e).1 (fun e2 => hdt (by simp [Value.ownBlock] at e; exact e.trans e2)))
    rw [← edCells_append] at F2
    have hlen2 : (us ++ [backE s t a n]).length = us.length + 1 := by simp
    have hd1 : ∀ k, (Value.slice (some ⟨d, 0, none⟩) (us.length + 1) cap2).ownBlock = some k → uv.ownBlock = some k ∨ w.heap.size ≤ k := fun k e => by
      simp [Value.ownBlock] at e
      subst e
      rcases hat with e2 | e2
      · exact .inl e2
      · right; omega
    have hg1 : ∀ k, (Value.slice (some ⟨g, 0, none⟩) L cap).ownBlock = some k → rv.ownBlock = some k ∨ w.heap.size ≤ k := fun k e => .inl (by rw [hfg.out]; simp [Value.ownBlock] at e; rw [e])
    have HF := heap_setCell (o := 3) (v := .slice (some ⟨d, 0, none⟩) (us.length + 1) cap2) H5
    have hne : ∀ k, (Value.slice (some ⟨d, 0, none⟩) (us.length + 1) cap2).ownBlock = some k → (Value.slice (some ⟨g, 0, none⟩) L cap).ownBlock = some k → False := fun k e1 e2 => by
      simp [Value.ownBlock] at e1 e2
      omega
    exact ⟨rfl, ⟨pb1, _, _, ⟨HF, KF.blk P5 T2.out.rowNe, (by rw [hlen2]; exact F2), F1, (fun k e1 e2 => hne k e1 e2), T2.out.small, T2.out.few⟩, by omega, hd1, hg1⟩, K5.setCell (a := ⟨tb, 3, none⟩) fun _ => .inl rfl⟩

end Go.Proofs.Ytnhabinnmkjnbaa
