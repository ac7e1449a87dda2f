/- The contract of Edit. -/
import Derived.Test.YtnhabinnmkjnbaaDel
import Derived.Deep.DrawnRows
namespace Go.Proofs.Ytnhabinnmkjnbaa
open Go.RowKit
attribute [local go_sem ↓] Go.wp_at_zero Go.wp_at_succ

/-- a call at a step of a region that draws its order -/
theorem step_call {P : Program} {ops : Array Oper} {o : Oper} {a : Act} {w : World} {K : Act → World → Prop} {Q : Exit → Act → World → Prop} {E : Prop} (hgd : o.guard = none) (f : FuncId) (args : Array Value)
    (hrun : (execOp a.eval o).run P w = .ok (.enter f args) w) {R : Ending → World → Prop} (hc : Calls P f args w R) (h : ∀ e w', R e w' → ∃ v, e = .returned v ∧ K (a.put o.dst v) w') :
    if Region.wanted o (yielded ops a.tmps) = true then Oper.wp P o a w K Q else E := by
  have hw : Region.wanted o (yielded ops a.tmps) = true := by simp [Region.wanted, hgd]
  rw [if_pos hw]
  unfold Oper.wp
  rw [hrun, Oper.upon_enter]
  refine hc.mono fun e w' hr => ?_
  obtain ⟨v, rfl, hk⟩ := h e w' hr
  exact hk

theorem latestN (g cap n M : Nat) (es : List Ed) (w : World) (hM : (es.drop (n - 32)).length = M) (hn : es.length = n) (h : w.ownsRow 0 34 3 (.slice (some ⟨g, 0, none⟩) n cap) n (edCells es)) (hl : n ≤ 33) :
    Calls Try.prog 29 #[.slice (some ⟨g, 0, none⟩) n cap] w fun e w' => e = .returned (.slice (some ⟨g, 0, none⟩) M cap) ∧
      w'.ownsRow 0 34 3 (.slice (some ⟨g, 0, none⟩) M cap) M (edCells (es.drop (n - 32))) ∧ Kept (oneBlk g) w w' := by
  subst hn
  subst hM
  exact latestIs g cap es w h hl

/-- the edit that takes one back -/
def backE (s t : ByteArray) (a n : Nat) : Ed := ⟨a, t.size, s.extract a (a + n)⟩
theorem edCells_back (s t : ByteArray) (a n : Nat) : edCells [backE s t a n] = [.int .i64 a, .int .i64 t.size, .string (s.extract a (a + n))] := rfl

theorem five {w : World} {b : Nat} {x0 x1 x2 x3 x4 : Value} {T : TypeId} (h : w.heap[b]? = some (.cells #[x0, x1, x2, x3, x4] T (0, 0))) :
    w.cell? ⟨b, 3, none⟩ = some x3 ∧ w.cell? ⟨b, 4, none⟩ = some x4 ∧ w.frozen? ⟨b, 3, none⟩ = false ∧ w.frozen? ⟨b, 4, none⟩ = false := ⟨blk_cell h rfl, blk_cell h rfl, blk_frozen h 3, blk_frozen h 4⟩
theorem grow_blk {w w' : World} {row : Option Nat} (hg : w.grownBy w' row) {b : Nat} {x : Obj} (h : w.heap[b]? = some x) (hne : row ≠ some b) : w'.heap[b]? = some x := (hg.block b (blk_lt h) (fun e => hne e.symm)).trans h

set_option maxHeartbeats 4000000 in
theorem editOk {tb pb : Nat} {ps : List ByteArray} {uv rv : Value} {us rs : List Ed} {w : World} (h : TextAt w tb pb ps uv rv us rs) (hu : us.length ≤ 32) (t : ByteArray) (a n : Nat) (ht : t.size ≤ 1000000) (hf : a + n ≤ total ps) (hm : total ps - n + t.size ≤ 4000) :
    Calls Try.prog 15 #[.pointer (some ⟨tb, 0, none⟩), .agg #[.int .i64 a, .int .i64 n, .string t]] w fun e w' => e = .returned (.int .i64 0) ∧
      (∃ pb' uv', TextAt w' tb pb' [(joinB ps).extract 0 a, t, (joinB ps).extract (a + n) (joinB ps).size] uv' (.slice none 0 0) ((us ++ [backE (joinB ps) t a n]).drop (us.length + 1 - 32)) [] ∧ w.heap.size ≤ pb' ∧ (∀ k, uv'.ownBlock = some k → uv.ownBlock = some k ∨ w.heap.size ≤ k)) ∧
      Kept (fun k => k = tb ∨ uv.ownBlock = some k) w w' := by
  obtain ⟨i0, hi, hz0, hz1, hz2⟩ := info_parts info34
  have GC : Hid (∀ (u : World) (_ : TextAt u tb pb ps uv rv us rs), _) := fun u hu => changeOk hu t a n ht hf hm
  obtain ⟨s, hs⟩ : ∃ s, joinB ps = s := ⟨_, rfl⟩
  rw [hs] at GC ⊢
  unfold backA at GC
  have htb : tb < w.heap.size := blk_lt h.head
  have HT : Hid (TextAt w tb pb ps uv rv us rs) := h
  have hul : ∀ k, uv.ownBlock = some k → k < w.heap.size ∧ k ≠ tb := fun k e => ⟨(own_lt h.undo e).1, (h.undoNe k e).1⟩
  have HU : Hid (∀ k, uv.ownBlock = some k → k < w.heap.size ∧ k ≠ tb) := hul
  clear h hs hf hm hul
  go_enter Try.func15, Try.ntmps15
  go_wp2_with (first
    | (go_at_call 28; refine (GC.out _ (HT.out.low ((Below.refl _ _).alloc (Nat.le_refl _) _))).mono ?_; rintro e w1 ⟨rfl, ⟨pb1, ht1, hp1⟩, hk1⟩))
  have T2 : Hid (TextAt w1 tb pb1 _ uv rv us rs) := ht1
  have z1 := hk1.size
  simp only [World.size_alloc] at z1 hp1
  have B2 := heap_alloc_new w1 (.cells #[.int .i64 a, .int .i64 t.size, .string (s.extract a (a + n))] 34)
  have H2 := blk_alloc ht1.head (.cells #[.int .i64 a, .int .i64 t.size, .string (s.extract a (a + n))] 34)
  obtain ⟨q3, q4, q5, q6⟩ := five H2
  obtain ⟨p0, p1, p2⟩ := cells3 B2
  clear ht1
  obtain ⟨M, hM⟩ : ∃ M, ((us ++ [backE s t a n]).drop (us.length + 1 - 32)).length = M := ⟨_, rfl⟩
  have HM : Hid (((us ++ [backE s t a n]).drop (us.length + 1 - 32)).length = M) := hM
  clear hM
  have U4 : Hid (∀ o, ((w1.alloc (.cells #[.int .i64 a, .int .i64 t.size, .string (s.extract a (a + n))] 34)).drew.alloc o).ownsRow 0 34 3 uv us.length (edCells us)) := fun o => (show (w1.alloc (.cells #[.int .i64 a, .int .i64 t.size, .string (s.extract a (a + n))] 34)).drew.ownsRow 0 34 3 uv us.length (edCells us) from T2.out.undo.alloc _).alloc o
  have N4 : Hid (∀ j u, (edCells [backE s t a n])[j]? = some u → ((w1.alloc (.cells #[.int .i64 a, .int .i64 t.size, .string (s.extract a (a + n))] 34)).drew.alloc (.cells #[.int .i64 a, .int .i64 t.size, .string (s.extract a (a + n))] 34)).cell? ((⟨w1.heap.size + 1, 0, none⟩ : Addr).add j) = some u) :=
    World.news_of_block (cs := #[.int .i64 a, .int .i64 t.size, .string (s.extract a (a + n))]) (by have := heap_alloc_new (w1.alloc (.cells #[.int .i64 a, .int .i64 t.size, .string (s.extract a (a + n))] 34)).drew (.cells #[.int .i64 a, .int .i64 t.size, .string (s.extract a (a + n))] 34); simpa using this)
  have hp2 : pb1 < w1.heap.size := blk_lt T2.out.row
  have hone : Hid (∀ u ∈ edCells [backE s t a n], u.oneCell' = true) := edCells_one _
  have Q3 : ∀ o, ((w1.alloc (.cells #[.int .i64 a, .int .i64 t.size, .string (s.extract a (a + n))] 34)).alloc o).cell? ⟨tb, 3, none⟩ = some uv := fun o => (five (blk_alloc H2 o)).1
  go_region_law ((first
    | (refine step_append_lies _ (by rfl) (.tmp 21) (.tmp 23) 50 (by rfl) 0 34 i0 (.agg #[.int .i64 0, .int .i64 0, .string ⟨#[]⟩]) 3 32 Try.underlying50 hi hz0 hz1 hz2 rfl (by decide) uv us.length (edCells us) (by rfl) (U4.out _) ⟨w1.heap.size + 1, 0, none⟩ 1 1 (edCells [backE s t a n]) (by rfl) (by rfl) N4.out hone.out (by omega) (by (unfold maxLen); omega) (by omega) (Nat.zero_le _) (w1.heap.size + 2) (by simp) ?_; intro g cap w5 hown5 hgrow hat hlt; have H5 := grow_blk hgrow (by exact blk_alloc H2 _) (fun e => (HU.out tb e).2 rfl); have B5 := grow_blk hgrow (by exact blk_alloc B2 _) (fun e => absurd (HU.out _ e).1 (by omega)); have P5 := grow_blk hgrow (by exact blk_alloc (blk_alloc T2.out.row _) _) (fun e => (T2.out.undoNe _ e).2 rfl); obtain ⟨x3, x4, x5, x6⟩ := five H5; obtain ⟨y0, y1, y2⟩ := cells3 B5; have hgt : g ≠ tb := (by (rcases hat with e | e); (exact (HU.out g e).2); omega); have hgb : w1.heap.size ≠ g := (by (rcases hat with e | e); (have := (HU.out g e).1; omega); omega); have hgp : pb1 ≠ g := (by (rcases hat with e | e); (exact (T2.out.undoNe g e).2.symm); omega))
    | (refine step_call (by rfl) 29 #[.slice (some ⟨g, 0, none⟩) (us.length + 1) cap] (by go_simp) (latestN g cap (us.length + 1) M (us ++ [backE s t a n]) _ HM.out (by simp) (by (rw [edCells_append]); exact hown5) (by omega)) ?_; rintro e w6 ⟨rfl, ho6, hk6⟩; refine ⟨_, rfl, ?_⟩; have H6 := hk6.blk H5 (Ne.symm hgt); have B6 := hk6.blk B5 hgb; have P6 := hk6.blk P5 hgp; obtain ⟨v3, v4, v5, v6⟩ := five H6; obtain ⟨r0, r1, r2⟩ := cells3 B6)))
  all_goals
    go_wp2
    go_ret
    have K1 : Kept (fun k => k = tb ∨ uv.ownBlock = some k) w w1 := ((Kept.refl _ w).alloc).step hk1 (fun k _ e => .inl e)
    have K5 : Kept (fun k => k = tb ∨ uv.ownBlock = some k) w w5 := Kept.grown (by first | exact K1.alloc.drew.alloc | exact K1.alloc.alloc.drew) hgrow (fun k _ e => .inr e)
    have K6 : Kept (fun k => k = tb ∨ uv.ownBlock = some k) w w6 := K5.step hk6 (fun k hk e => by
      have e' : k = g := e
      subst e'
      rcases hat with e2 | e2
      · exact .inr e2
      · omega)
    have KF : Kept (oneBlk tb) w6 ((w6.setCell ⟨tb, 3, none⟩ (.slice (some ⟨g, 0, none⟩) M cap)).setCell ⟨tb, 4, none⟩ (.slice none 0 0)) := ((Kept.refl (oneBlk tb) w6).setCell (a := ⟨tb, 3, none⟩) fun _ => rfl).setCell (a := ⟨tb, 4, none⟩) fun _ => rfl
    have hM := HM.out
    subst hM
    refine ⟨rfl, ⟨pb1, _, ⟨heap_setCell (heap_setCell H6), KF.blk P6 T2.out.rowNe, own_keep ho6 (fun k e => KF.block k (own_lt ho6 e).1 (fun e2 => ?_)), World.ownsRow_nil _ _ _ _, (fun k _ e => by cases e), T2.out.small, T2.out.few⟩, by omega, fun k e => ?_⟩, (K6.setCell (a := ⟨tb, 3, none⟩) fun _ => .inl rfl).setCell (a := ⟨tb, 4, none⟩) fun _ => .inl rfl⟩
    · simp [Value.ownBlock] at e
      have e2' : k = tb := e2
      omega
    · simp [Value.ownBlock] at e
      subst e
      rcases hat with e2 | e2
      · exact .inl e2
      · right; omega

set_option maxHeartbeats 1000000 in
theorem editNo {tb pb : Nat} {ps : List ByteArray} {uv rv : Value} {us rs : List Ed} {w : World} (h : TextAt w tb pb ps uv rv us rs) (t : ByteArray) (a n k : Int) (ht : t.size ≤ 1000000) (ha : a ≤ 9223372036854775807)
    (hk : errNo (joinB ps).size a n t.size = k) (hne : k ≠ 0) :
    Calls Try.prog 15 #[.pointer (some ⟨tb, 0, none⟩), .agg #[.int .i64 a, .int .i64 n, .string t]] w fun e w' => e = .returned (.int .i64 k) ∧
      (∃ pb', TextAt w' tb pb' [joinB ps] uv rv us rs ∧ (pb' = pb ∨ w.heap.size ≤ pb')) ∧ Kept (oneBlk tb) w w' := by
  have GC : Hid (∀ (u : World) (_ : TextAt u tb pb ps uv rv us rs), _) := fun u hu => changeNo hu t a n k ht ha hk hne
  have HT : Hid (TextAt w tb pb ps uv rv us rs) := h
  have hne' : (k == 0) = false := by simpa using hne
  clear h hk
  go_enter Try.func15, Try.ntmps15
  go_wp2_with (first
    | (go_at_call 28; refine (GC.out _ (HT.out.low ((Below.refl _ _).alloc (Nat.le_refl _) _))).mono ?_; rintro e w1 ⟨rfl, ⟨pb1, ht1, hp1⟩, hk1⟩))
  go_ret
  simp only [World.size_alloc] at hp1
  exact ⟨rfl, ⟨pb1, ht1.low ((Below.refl _ _).alloc (Nat.le_refl _) _), by omega⟩, (((Kept.refl (oneBlk tb) w).alloc).trans hk1).alloc⟩

end Go.Proofs.Ytnhabinnmkjnbaa
