/- The Edit of the document's text; the document's text as a whole. -/
import Derived.Test.YtnhabinnmkjnbaaRef1
namespace Go.Proofs.Ytnhabinnmkjnbaa
open Go.RowKit
attribute [local go_sem ↓] Go.wp_at_zero Go.wp_at_succ

theorem rowAt.tail {w : World} {g o cap m : Nat} {xs : List ByteArray} {x : ByteArray} (hm : xs.length = m) (h : rowAt w (.slice (some ⟨g, o, none⟩) (m + 1) cap) (x :: xs)) : rowAt w (.slice (some ⟨g, o + 1, none⟩) m (cap - 1)) xs := by
  subst hm
  rcases h with ⟨h1, _⟩ | ⟨g', o', cap', cur, h1, h2, h3, h4, h5, h6⟩
  · cases h1
  · simp only [List.length_cons] at h1 h3 h6
    cases h1
    refine .inr ⟨g, o + 1, cap - 1, cur, rfl, h2, by omega, by omega, by omega, ?_⟩
    have e := congrArg (fun l => l.drop 1) h6
    simp only [List.drop_take, List.drop_drop] at e
    rw [Nat.add_sub_cancel] at e
    rw [e]
    simp [strs]
theorem full_split {bs : List ByteArray} {now : ByteArray} (hb : bs.length = 32) : ∃ x, bs.reverse ++ [now] = x :: ((now :: bs).take 32).reverse := by
  have hne : bs ≠ [] := fun e => by rw [e] at hb; simp at hb
  obtain ⟨l, x, rfl⟩ : ∃ l x, bs = l ++ [x] := ⟨bs.dropLast, bs.getLast hne, (List.dropLast_concat_getLast hne).symm⟩
  have hl : l.length = 31 := by simp at hb; omega
  have : (now :: (l ++ [x])).take 32 = now :: l := by rw [List.take_succ_cons, List.take_append_of_le_length (by omega), List.take_of_length_le (by omega)]
  rw [this]
  exact ⟨x, by simp⟩
theorem rowAt.cap {w : World} {g o cap m : Nat} {xs : List ByteArray} (h : rowAt w (.slice (some ⟨g, o, none⟩) m cap) xs) : m ≤ cap ∧ cap ≤ maxLen := by
  rcases h with ⟨h1, _⟩ | ⟨g', o', cap', cur, h1, h2, h3, h4, _⟩
  · cases h1
  · cases h1
    exact ⟨h3, h4⟩

set_option maxHeartbeats 4000000 in
theorem editR_few {w : World} {xb : Nat} {bv av : Value} {bs fw : List ByteArray} {now : ByteArray} (h : RefAt w xb bv av bs now fw) (hb : bs.length < 32) (t : ByteArray) (a n : Nat) (hs : now.size ≤ 4000) (ht : t.size ≤ 5000) (hf : a + n ≤ now.size) (hm : now.size - n + t.size ≤ 4000) :
    Calls Try.prog 23 #[.pointer (some ⟨xb, 0, none⟩), .agg #[.int .i64 a, .int .i64 n, .string t]] w fun e w' => e = .returned (.int .i64 0) ∧ ∃ bv', RefAt w' xb bv' (.slice none 0 0) (now :: bs) (madeOf now t a n) [] ∧ (∀ k, bv'.ownBlock = some k → bv.ownBlock = some k ∨ w.heap.size ≤ k) ∧ Kept (fun k => k = xb ∨ bv.ownBlock = some k ∨ av.ownBlock = some k) w w' := by
  obtain ⟨H, hB, _, bNe, _, _⟩ := h
  have hxl : xb < w.heap.size := blk_lt H
  have hv : appV now t a n = .tuple #[.string (madeOf now t a n), .int .i64 0] := by
    have he : errNo now.size a n t.size = 0 := errNo_ok (decide_eq_true (by omega)) (by omega)
    unfold appV; rw [appS_ok he, he]; rfl
  have G := fun u => refApply12 now t a n u (by omega) (by omega) (by omega)
  rw [hv] at G
  have GA := hid G
  clear G hv
  generalize madeOf now t a n = M at GA ⊢
  have HH := hid H
  have HB := hid hB
  have HN := hid bNe
  obtain ⟨q0, q1, q2, f0, f1, f2⟩ := three (blk_alloc H (.cells #[.int .i64 a, .int .i64 n, .string t] 34))
  obtain ⟨e0, e1, e2⟩ := cells3 (heap_alloc_new w (.cells #[.int .i64 a, .int .i64 n, .string t] 34))
  have hfl : bs.reverse.length = bs.length := by rw [List.length_reverse]
  clear H hB bNe
  go_enter Try.func23, Try.ntmps23
  go_wp2
  go_region_held3 (fun w' => w'.cell? ⟨xb, 1, none⟩ = some (.string now) ∧ w'.cell? ⟨w.heap.size, 0, none⟩ = some (.int .i64 a) ∧ w'.cell? ⟨w.heap.size, 1, none⟩ = some (.int .i64 n) ∧ w'.cell? ⟨w.heap.size, 2, none⟩ = some (.string t)) (go_keep) ((first
    | (go_at_call 34; refine (GA.out _).mono ?_; rintro e w1 ⟨rfl, hb1⟩; have k0 := keep_cell hb1 (by exact q1); have k1 := keep_cell hb1 (by exact e0); have k2 := keep_cell hb1 (by exact e1); have k3 := keep_cell hb1 (by exact e2)) | fail))
  have z1 : w.heap.size + 1 ≤ w1.heap.size := by have := hb1.size; simp at this; omega
  have B1 : Below w.heap.size w w1 := bl_step (by first | exact ((Below.refl _ w).alloc (Nat.le_refl _) _).drew) hb1
  have H1 := keep_blk B1 HH.out
  have R1 : rowAt w1 bv bs.reverse := HB.out.keep fun k e => B1.block k (HB.out.lt e).1
  have Q : Hid (∀ o, rowAt (w1.drew.alloc o) bv bs.reverse) := fun o => (show rowAt w1.drew bv bs.reverse from R1).alloc o
  have N4 : (w1.drew.alloc (.cells #[.string now] 9)).cell? ⟨w1.heap.size, 0, none⟩ = some (.string now) := blk_cell (heap_alloc_new w1.drew _) rfl
  obtain ⟨p0, p1, p2, g0, g1, g2⟩ := three H1
  have Q0 : ∀ x, (w1.alloc x).cell? ⟨xb, 0, none⟩ = some bv := fun x => (three (blk_alloc H1 x)).1
  have Q1 : ∀ x, (w1.alloc x).cell? ⟨xb, 1, none⟩ = some (.string now) := fun x => (three (blk_alloc H1 x)).2.1
  have HH1 := hid H1
  clear H1 R1
  go_wp2_with fail
  go_region_law ((first
    | (refine step_append_row (by rfl) (.tmp 23) (.tmp 28) (by rfl) bv bs.reverse now (by rfl) (by exact Q.out _) ⟨w1.heap.size, 0, none⟩ (by rfl) (by exact N4) rfl (by omega) (w1.heap.size + 1) (by simp) ?_; intro d off cap2 w5 hrow5 hgrow hat hlt; have H5 := grow_blk hgrow (by exact blk_alloc HH1.out _) (fun e => HN.out xb e rfl); obtain ⟨v0, v1, v2, u0, u1, u2⟩ := three H5; rw [hfl] at hrow5 ⊢; have hle : ¬ ((32 : Int) < (bs.length : Int) + 1) := (by omega))
    | fail))
  all_goals
    go_wp2
    go_ret
    have K5 : Kept (fun k => k = xb ∨ bv.ownBlock = some k ∨ av.ownBlock = some k) w w5 := Kept.grown (by first | exact (Kept.of_below B1).drew.alloc | exact (Kept.of_below B1).alloc.drew) hgrow (fun k _ e => .inr (.inl e))
    have hdx : d ≠ xb := by
      rcases hat with e | e
      · exact HN.out d e
      · omega
    obtain ⟨X, hX⟩ : ∃ X, X = ((w5.setCell ⟨xb, 0, none⟩ (.slice (some ⟨d, off, none⟩) (bs.length + 1) cap2)).setCell ⟨xb, 1, none⟩ (.string M)).setCell ⟨xb, 2, none⟩ (.slice none 0 0) := ⟨_, rfl⟩
    have KF : Kept (oneBlk xb) w5 X := by rw [hX]; exact (((Kept.refl (oneBlk xb) w5).setCell (a := ⟨xb, 0, none⟩) fun _ => rfl).setCell (a := ⟨xb, 1, none⟩) fun _ => rfl).setCell (a := ⟨xb, 2, none⟩) fun _ => rfl
    have r1 : rowAt w5 (.slice (some ⟨d, off, none⟩) (bs.length + 1) cap2) (now :: bs).reverse := by rw [List.reverse_cons]; exact hrow5
    have HF : X.heap[xb]? = some (.cells #[.slice (some ⟨d, off, none⟩) (bs.length + 1) cap2, .string M, .slice none 0 0] 32 (0, 0)) := by
      rw [hX]
      exact heap_setCell (o := 2) (v := .slice none 0 0) (heap_setCell (o := 1) (v := .string M) (heap_setCell (o := 0) (v := .slice (some ⟨d, off, none⟩) (bs.length + 1) cap2) H5))
    have F1 := r1.keep (fun k e => KF.block k (r1.lt e).1 (fun e2 => hdx ((Option.some.inj e).trans e2)))
    rw [← hX]
    refine ⟨rfl, .slice (some ⟨d, off, none⟩) (bs.length + 1) cap2, ⟨HF, F1, .inl ⟨rfl, rfl⟩, ?_, ?_, ?_⟩, ?_, K5.step KF (fun k _ e => .inl e)⟩
    · exact fun k e e2 => hdx ((Option.some.inj e).trans e2)
    · exact fun k e => (by cases e)
    · exact fun k e e2 => (by cases e2)
    · intro k e
      have e' : d = k := Option.some.inj e
      subst e'
      rcases hat with e2 | e2
      · exact .inl e2
      · exact .inr (by omega)

set_option maxHeartbeats 4000000 in
theorem editR_full {w : World} {xb : Nat} {bv av : Value} {bs fw : List ByteArray} {now : ByteArray} (h : RefAt w xb bv av bs now fw) (hb : bs.length = 32) (t : ByteArray) (a n : Nat) (hs : now.size ≤ 4000) (ht : t.size ≤ 5000) (hf : a + n ≤ now.size) (hm : now.size - n + t.size ≤ 4000) :
    Calls Try.prog 23 #[.pointer (some ⟨xb, 0, none⟩), .agg #[.int .i64 a, .int .i64 n, .string t]] w fun e w' => e = .returned (.int .i64 0) ∧ ∃ bv', RefAt w' xb bv' (.slice none 0 0) ((now :: bs).take 32) (madeOf now t a n) [] ∧ (∀ k, bv'.ownBlock = some k → bv.ownBlock = some k ∨ w.heap.size ≤ k) ∧ Kept (fun k => k = xb ∨ bv.ownBlock = some k ∨ av.ownBlock = some k) w w' := by
  obtain ⟨H, hB, _, bNe, _, _⟩ := h
  have hxl : xb < w.heap.size := blk_lt H
  have hv : appV now t a n = .tuple #[.string (madeOf now t a n), .int .i64 0] := by
    have he : errNo now.size a n t.size = 0 := errNo_ok (decide_eq_true (by omega)) (by omega)
    unfold appV; rw [appS_ok he, he]; rfl
  have G := fun u => refApply12 now t a n u (by omega) (by omega) (by omega)
  rw [hv] at G
  have GA := hid G
  clear G hv
  generalize madeOf now t a n = M at GA ⊢
  have HH := hid H
  have HB := hid hB
  have HN := hid bNe
  obtain ⟨q0, q1, q2, f0, f1, f2⟩ := three (blk_alloc H (.cells #[.int .i64 a, .int .i64 n, .string t] 34))
  obtain ⟨e0, e1, e2⟩ := cells3 (heap_alloc_new w (.cells #[.int .i64 a, .int .i64 n, .string t] 34))
  have hfl : bs.reverse.length = 32 := by rw [List.length_reverse]; exact hb
  clear H hB bNe
  go_enter Try.func23, Try.ntmps23
  go_wp2
  go_region_held3 (fun w' => w'.cell? ⟨xb, 1, none⟩ = some (.string now) ∧ w'.cell? ⟨w.heap.size, 0, none⟩ = some (.int .i64 a) ∧ w'.cell? ⟨w.heap.size, 1, none⟩ = some (.int .i64 n) ∧ w'.cell? ⟨w.heap.size, 2, none⟩ = some (.string t)) (go_keep) ((first
    | (go_at_call 34; refine (GA.out _).mono ?_; rintro e w1 ⟨rfl, hb1⟩; have k0 := keep_cell hb1 (by exact q1); have k1 := keep_cell hb1 (by exact e0); have k2 := keep_cell hb1 (by exact e1); have k3 := keep_cell hb1 (by exact e2)) | fail))
  have z1 : w.heap.size + 1 ≤ w1.heap.size := by have := hb1.size; simp at this; omega
  have B1 : Below w.heap.size w w1 := bl_step (by first | exact ((Below.refl _ w).alloc (Nat.le_refl _) _).drew) hb1
  have H1 := keep_blk B1 HH.out
  have R1 : rowAt w1 bv bs.reverse := HB.out.keep fun k e => B1.block k (HB.out.lt e).1
  have Q : Hid (∀ o, rowAt (w1.drew.alloc o) bv bs.reverse) := fun o => (show rowAt w1.drew bv bs.reverse from R1).alloc o
  have N4 : (w1.drew.alloc (.cells #[.string now] 9)).cell? ⟨w1.heap.size, 0, none⟩ = some (.string now) := blk_cell (heap_alloc_new w1.drew _) rfl
  obtain ⟨p0, p1, p2, g0, g1, g2⟩ := three H1
  have Q0 : ∀ x, (w1.alloc x).cell? ⟨xb, 0, none⟩ = some bv := fun x => (three (blk_alloc H1 x)).1
  have Q1 : ∀ x, (w1.alloc x).cell? ⟨xb, 1, none⟩ = some (.string now) := fun x => (three (blk_alloc H1 x)).2.1
  have HH1 := hid H1
  clear H1 R1
  go_wp2_with fail
  go_region_law ((first
    | (refine step_append_row (by rfl) (.tmp 23) (.tmp 28) (by rfl) bv bs.reverse now (by rfl) (by exact Q.out _) ⟨w1.heap.size, 0, none⟩ (by rfl) (by exact N4) rfl (by omega) (w1.heap.size + 1) (by simp) ?_; intro d off cap2 w5 hrow5 hgrow hat hlt; have H5 := grow_blk hgrow (by exact blk_alloc HH1.out _) (fun e => HN.out xb e rfl); obtain ⟨v0, v1, v2, u0, u1, u2⟩ := three H5; rw [hfl] at hrow5 ⊢; obtain ⟨hc1, hc2⟩ := hrow5.cap; have hc3 : (33 : Int) ≤ (cap2 : Int) := (by omega); have hc4 : cap2 ≠ 1 := (by omega); have hc5 : cap2 ≤ 9223372036854775807 := (by (unfold maxLen at hc2; omega)))
    | fail))
  all_goals
    go_wp2
    go_ret
    have K5 : Kept (fun k => k = xb ∨ bv.ownBlock = some k ∨ av.ownBlock = some k) w w5 := Kept.grown (by first | exact (Kept.of_below B1).drew.alloc | exact (Kept.of_below B1).alloc.drew) hgrow (fun k _ e => .inr (.inl e))
    have hdx : d ≠ xb := by
      rcases hat with e | e
      · exact HN.out d e
      · omega
    obtain ⟨X, hX⟩ : ∃ X, X = (((w5.setCell ⟨xb, 0, none⟩ (.slice (some ⟨d, off, none⟩) 33 cap2)).setCell ⟨xb, 0, none⟩ (.slice (some ⟨d, off + 1, none⟩) 32 (cap2 - 1))).setCell ⟨xb, 1, none⟩ (.string M)).setCell ⟨xb, 2, none⟩ (.slice none 0 0) := ⟨_, rfl⟩
    have KF : Kept (oneBlk xb) w5 X := by rw [hX]; exact ((((Kept.refl (oneBlk xb) w5).setCell (a := ⟨xb, 0, none⟩) fun _ => rfl).setCell (a := ⟨xb, 0, none⟩) fun _ => rfl).setCell (a := ⟨xb, 1, none⟩) fun _ => rfl).setCell (a := ⟨xb, 2, none⟩) fun _ => rfl
    obtain ⟨x0, hsp⟩ := full_split (now := now) hb
    have hln : ((now :: bs).take 32).reverse.length = 32 := by simp; omega
    have r1 : rowAt w5 (.slice (some ⟨d, off + 1, none⟩) 32 (cap2 - 1)) ((now :: bs).take 32).reverse := by rw [hsp] at hrow5; exact hrow5.tail hln
    have HF : X.heap[xb]? = some (.cells #[.slice (some ⟨d, off + 1, none⟩) 32 (cap2 - 1), .string M, .slice none 0 0] 32 (0, 0)) := by
      rw [hX]
      exact heap_setCell (o := 2) (v := .slice none 0 0) (heap_setCell (o := 1) (v := .string M) (heap_setCell (o := 0) (v := .slice (some ⟨d, off + 1, none⟩) 32 (cap2 - 1)) (heap_setCell (o := 0) (v := .slice (some ⟨d, off, none⟩) 33 cap2) H5)))
    have F1 := r1.keep (fun k e => KF.block k (r1.lt e).1 (fun e2 => hdx ((Option.some.inj e).trans e2)))
    rw [← hX]
    refine ⟨rfl, .slice (some ⟨d, off + 1, none⟩) 32 (cap2 - 1), ⟨HF, F1, .inl ⟨rfl, rfl⟩, ?_, ?_, ?_⟩, ?_, K5.step KF (fun k _ e => .inl e)⟩
    · exact fun k e e2 => hdx ((Option.some.inj e).trans e2)
    · exact fun k e => (by cases e)
    · exact fun k e e2 => (by cases e2)
    · intro k e
      have e' : d = k := Option.some.inj e
      subst e'
      rcases hat with e2 | e2
      · exact .inl e2
      · exact .inr (by omega)


set_option maxHeartbeats 1000000 in
theorem editR_no {w : World} {xb : Nat} {bv av : Value} {bs fw : List ByteArray} {now : ByteArray} (h : RefAt w xb bv av bs now fw) (t : ByteArray) (a n : Int) (hs : now.size ≤ 4000) (ht : t.size ≤ 5000) (ha : a ≤ 9223372036854775807) (he : errNo now.size a n t.size ≠ 0) :
    Calls Try.prog 23 #[.pointer (some ⟨xb, 0, none⟩), .agg #[.int .i64 a, .int .i64 n, .string t]] w fun e w' => e = .returned (.int .i64 (errNo now.size a n t.size)) ∧ Below w.heap.size w w' := by
  have H := h.head
  clear h
  have hv : appV now t a n = .tuple #[.string ⟨#[]⟩, .int .i64 (errNo now.size a n t.size)] := by unfold appV; rw [appS_bad he]
  have G := fun u => refApply12 now t a n u (by omega) (by omega) ha
  rw [hv] at G
  have GA := hid G
  clear G hv
  generalize errNo now.size a n t.size = M at GA he ⊢
  have he' : (M != 0) = true := by simpa using he
  obtain ⟨q0, q1, q2, f0, f1, f2⟩ := three (blk_alloc H (.cells #[.int .i64 a, .int .i64 n, .string t] 34))
  obtain ⟨e0, e1, e2⟩ := cells3 (heap_alloc_new w (.cells #[.int .i64 a, .int .i64 n, .string t] 34))
  clear H
  go_enter Try.func23, Try.ntmps23
  go_wp2
  go_region_held3 (fun w' => w'.cell? ⟨xb, 1, none⟩ = some (.string now) ∧ w'.cell? ⟨w.heap.size, 0, none⟩ = some (.int .i64 a) ∧ w'.cell? ⟨w.heap.size, 1, none⟩ = some (.int .i64 n) ∧ w'.cell? ⟨w.heap.size, 2, none⟩ = some (.string t)) (go_keep) ((first
    | (go_at_call 34; refine (GA.out _).mono ?_; rintro e w1 ⟨rfl, hb1⟩; have k0 := keep_cell hb1 (by exact q1); have k1 := keep_cell hb1 (by exact e0); have k2 := keep_cell hb1 (by exact e1); have k3 := keep_cell hb1 (by exact e2)) | fail))
  go_wp2
  go_ret
  exact ⟨rfl, bl_step (((Below.refl _ w).alloc (Nat.le_refl _) _).drew) hb1⟩

/-- what lies where, and what the document's text is -/
def IsRef (w : World) (xb : Nat) (G : Nat → Prop) (T : St) : Prop :=
  ∃ bv av, RefAt w xb bv av T.bs T.now T.fw ∧ (∀ k, G k ↔ (k = xb ∨ bv.ownBlock = some k ∨ av.ownBlock = some k)) ∧ T.now.size ≤ 4000 ∧ T.bs.length + T.fw.length ≤ 32 ∧ (∀ b ∈ T.bs, b.size ≤ 4000) ∧ (∀ b ∈ T.fw, b.size ≤ 4000)

theorem RefAt.keep {w w' : World} {xb : Nat} {bv av : Value} {bs fw : List ByteArray} {now : ByteArray} {K : Nat → Prop} (h : RefAt w xb bv av bs now fw) (hk : Kept K w w') (h1 : ¬ K xb) (h2 : ∀ k, bv.ownBlock = some k → ¬ K k) (h3 : ∀ k, av.ownBlock = some k → ¬ K k) : RefAt w' xb bv av bs now fw :=
  ⟨hk.blk h.head h1, h.before.keep fun k e => hk.block k (h.before.lt e).1 (h2 k e), h.after.keep fun k e => hk.block k (h.after.lt e).1 (h3 k e), h.bNe, h.aNe, h.apart⟩
theorem IsRef.keep {w w' : World} {xb : Nat} {G K : Nat → Prop} {T : St} (h : IsRef w xb G T) (hk : Kept K w w') (hd : ∀ k, G k → ¬ K k) : IsRef w' xb G T := by
  obtain ⟨bv, av, hr, hG, r⟩ := h
  exact ⟨bv, av, hr.keep hk (hd _ ((hG _).2 (.inl rfl))) (fun k e => hd _ ((hG _).2 (.inr (.inl e)))) (fun k e => hd _ ((hG _).2 (.inr (.inr e)))), hG, r⟩
theorem IsRef.lt {w : World} {xb : Nat} {G : Nat → Prop} {T : St} (h : IsRef w xb G T) {k : Nat} (hk : G k) : k < w.heap.size := by
  obtain ⟨bv, av, hr, hG, _⟩ := h
  rcases (hG k).1 hk with rfl | e | e
  · exact blk_lt hr.head
  · exact (hr.before.lt e).1
  · exact (hr.after.lt e).1
def footR (xb : Nat) (bv av : Value) : Nat → Prop := fun k => k = xb ∨ bv.ownBlock = some k ∨ av.ownBlock = some k
theorem footR_moved {w : World} {xb : Nat} {bv av bv' av' : Value} {G : Nat → Prop} (hG : ∀ k, G k ↔ (k = xb ∨ bv.ownBlock = some k ∨ av.ownBlock = some k)) (h1 : ∀ k, bv'.ownBlock = some k → bv.ownBlock = some k ∨ w.heap.size ≤ k) (h2 : ∀ k, av'.ownBlock = some k → av.ownBlock = some k ∨ w.heap.size ≤ k) : ∀ k, footR xb bv' av' k → G k ∨ w.heap.size ≤ k := by
  rintro k (rfl | e | e)
  · exact .inl ((hG _).2 (.inl rfl))
  · exact (h1 k e).imp (fun e => (hG k).2 (.inr (.inl e))) id
  · exact (h2 k e).imp (fun e => (hG k).2 (.inr (.inr e))) id

theorem undoX {w : World} {xb : Nat} {G : Nat → Prop} {T : St} (h : IsRef w xb G T) :
    Calls Try.prog 24 #[.pointer (some ⟨xb, 0, none⟩)] w fun e w' => e = .returned (.int .i64 T.undo.1) ∧ ∃ G', IsRef w' xb G' T.undo.2 ∧ Moved G G' w w' := by
  have h' := h
  obtain ⟨bv, av, hr, hG, hs, hl, hb, hf⟩ := h
  cases e : T.bs with
  | nil =>
    have hE : T.undo = (4, T) := by unfold St.undo; rw [e]
    rw [hE]
    rw [e] at hr
    have hv : bv = .slice none 0 0 ∨ ∃ a c, bv = .slice a 0 c := .inr (by obtain ⟨a, c, h⟩ := hr.before.form; exact ⟨a, c, h⟩)
    obtain ⟨a, c, rfl⟩ : ∃ a c, bv = .slice a 0 c := by obtain ⟨a, c, h⟩ := hr.before.form; exact ⟨a, c, h⟩
    obtain ⟨q0, q1, q2, _, _, _⟩ := three hr.head
    have H' := hid h'
    clear hr h' hv
    go_enter Try.func24, Try.ntmps24
    go_wp2
    go_ret
    exact ⟨rfl, G, H'.out, Moved.refl _ _⟩
  | cons b bs =>
    have hE : T.undo = (0, ⟨bs, b, T.now :: T.fw⟩) := by unfold St.undo; rw [e]
    rw [hE]
    rw [e] at hr hl hb
    simp only [List.length_cons] at hl
    refine (undoR hr (by omega) (by omega)).mono ?_
    rintro e w' ⟨rfl, bv', av', hr', x1, x2, hk⟩
    exact ⟨rfl, footR xb bv' av', ⟨bv', av', hr', fun k => Iff.rfl, hb b (List.mem_cons_self ..), by simp only [List.length_cons]; omega, fun x hx => hb x (List.mem_cons_of_mem _ hx), fun x hx => by rcases List.mem_cons.1 hx with rfl | h; exact hs; exact hf x h⟩, ⟨hk.mono fun k _ e => (hG k).2 e, footR_moved hG (fun k e => .inl (x1 k e)) x2⟩⟩

theorem redoX {w : World} {xb : Nat} {G : Nat → Prop} {T : St} (h : IsRef w xb G T) :
    Calls Try.prog 25 #[.pointer (some ⟨xb, 0, none⟩)] w fun e w' => e = .returned (.int .i64 T.redo.1) ∧ ∃ G', IsRef w' xb G' T.redo.2 ∧ Moved G G' w w' := by
  have h' := h
  obtain ⟨bv, av, hr, hG, hs, hl, hb, hf⟩ := h
  cases e : T.fw with
  | nil =>
    have hE : T.redo = (4, T) := by unfold St.redo; rw [e]
    rw [hE]
    rw [e] at hr
    obtain ⟨a, c, rfl⟩ : ∃ a c, av = .slice a 0 c := by obtain ⟨a, c, h⟩ := hr.after.form; exact ⟨a, c, h⟩
    obtain ⟨q0, q1, q2, _, _, _⟩ := three hr.head
    have H' := hid h'
    clear hr h'
    go_enter Try.func25, Try.ntmps25
    go_wp2
    go_ret
    exact ⟨rfl, G, H'.out, Moved.refl _ _⟩
  | cons b bs =>
    have hE : T.redo = (0, ⟨T.now :: T.bs, b, bs⟩) := by unfold St.redo; rw [e]
    rw [hE]
    rw [e] at hr hl hf
    simp only [List.length_cons] at hl
    refine (redoR hr (by omega) (by omega)).mono ?_
    rintro e w' ⟨rfl, bv', av', hr', x1, x2, hk⟩
    exact ⟨rfl, footR xb bv' av', ⟨bv', av', hr', fun k => Iff.rfl, hf b (List.mem_cons_self ..), by simp only [List.length_cons]; omega, fun x hx => by rcases List.mem_cons.1 hx with rfl | h; exact hs; exact hb x h, fun x hx => hf x (List.mem_cons_of_mem _ hx)⟩, ⟨hk.mono fun k _ e => (hG k).2 e, footR_moved hG x2 (fun k e => .inl (x1 k e))⟩⟩

theorem editX {w : World} {xb : Nat} {G : Nat → Prop} {T : St} (h : IsRef w xb G T) (t : ByteArray) (a n : Int) (ht : t.size ≤ 5000) (ha : a ≤ 9223372036854775807) :
    Calls Try.prog 23 #[.pointer (some ⟨xb, 0, none⟩), .agg #[.int .i64 a, .int .i64 n, .string t]] w fun e w' => e = .returned (.int .i64 (T.edit t a n).1) ∧ ∃ G', IsRef w' xb G' (T.edit t a n).2 ∧ Moved G G' w w' := by
  have h' := h
  obtain ⟨bv, av, hr, hG, hs, hl, hb, hf⟩ := h
  by_cases he : errNo T.now.size a n t.size = 0
  · have hE : T.edit t a n = (0, ⟨(T.now :: T.bs).take 32, madeOf T.now t a.toNat n.toNat, []⟩) := by unfold St.edit; rw [if_pos he]
    rw [hE]
    rcases errNo_cases T.now.size a n t.size with ⟨_, hfit, hm⟩ | ⟨h3, _⟩ | ⟨h2, _⟩
    · obtain ⟨f1, f2, f3⟩ := fitsB_true hfit
      obtain ⟨a', rfl⟩ := Int.eq_ofNat_of_zero_le f1
      obtain ⟨n', rfl⟩ := Int.eq_ofNat_of_zero_le f2
      have hms : (madeOf T.now t a' n').size ≤ 4000 := by rw [madeOf_size _ _ _ _ (by omega)]; omega
      have hbs : ∀ x ∈ (T.now :: T.bs).take 32, x.size ≤ 4000 := fun x hx => by
        rcases List.mem_cons.1 (List.mem_of_mem_take hx) with rfl | h
        · exact hs
        · exact hb x h
      have hlen : ((T.now :: T.bs).take 32).length + ([] : List ByteArray).length ≤ 32 := by rw [List.length_take, List.length_nil]; omega
      by_cases hfew : T.bs.length < 32
      · refine (editR_few hr hfew t a' n' hs ht (by omega) (by omega)).mono ?_
        rintro e w' ⟨rfl, bv', hr', x1, hk⟩
        have htk : (T.now :: T.bs).take 32 = T.now :: T.bs := List.take_of_length_le (by simp only [List.length_cons]; omega)
        rw [htk] at hbs hlen ⊢
        exact ⟨rfl, footR xb bv' _, ⟨bv', _, hr', fun k => Iff.rfl, hms, hlen, hbs, fun x hx => absurd hx List.not_mem_nil⟩, ⟨hk.mono fun k _ e => (hG k).2 e, footR_moved hG x1 (fun k e => (by cases e))⟩⟩
      · refine (editR_full hr (by omega) t a' n' hs ht (by omega) (by omega)).mono ?_
        rintro e w' ⟨rfl, bv', hr', x1, hk⟩
        exact ⟨rfl, footR xb bv' _, ⟨bv', _, hr', fun k => Iff.rfl, hms, hlen, hbs, fun x hx => absurd hx List.not_mem_nil⟩, ⟨hk.mono fun k _ e => (hG k).2 e, footR_moved hG x1 (fun k e => (by cases e))⟩⟩
    · omega
    · omega
  · have hE : T.edit t a n = (errNo T.now.size a n t.size, T) := by unfold St.edit; rw [if_neg he]
    rw [hE]
    refine (editR_no hr t a n hs ht ha he).mono ?_
    rintro e w' ⟨rfl, hb⟩
    exact ⟨rfl, G, h'.keep (K := noBlk) (Kept.of_below hb) (fun _ _ => id), ⟨Kept.of_below hb, fun k hk => .inl hk⟩⟩

end Go.Proofs.Ytnhabinnmkjnbaa
