/- An act done to a text and to the document's text: what both answer. -/
import Derived.Test.YtnhabinnmkjnbaaRef2
namespace Go.Proofs.Ytnhabinnmkjnbaa
open Go.RowKit

/-- an act: what is answered, and what the text is then -/
def actS (x : Act) (T : St) : Int × St :=
  if x.k = 0 then T.edit x.e.t x.e.a x.e.n else if x.k = 1 then T.undo else if x.k = 2 then T.redo else (0, T)

/-- both lie apart, and have come from where they were -/
def Pair (w v : World) (tb xb : Nat) (F G F' G' : Nat → Prop) (T U : St) : Prop :=
  IsText v tb F' T ∧ IsRef v xb G' U ∧ (∀ k, F' k → ¬ G' k) ∧ (∀ k, F' k → F k ∨ w.heap.size ≤ k) ∧ (∀ k, G' k → G k ∨ w.heap.size ≤ k) ∧ Kept (fun k => F k ∨ G k) w v

theorem pair_tx {w u v : World} {tb xb : Nat} {F G F1 G2 : Nat → Prop} {T1 U U2 : St} (hR : IsRef w xb G U) (hd : ∀ k, F k → ¬ G k) (t1 : IsText u tb F1 T1) (m1 : Moved F F1 w u) (r2 : IsRef v xb G2 U2) (m2 : Moved G G2 u v) : Pair w v tb xb F G F1 G2 T1 U2 := by
  have hdis : ∀ k, F1 k → ¬ G k := fun k hk hg => (m1.2 k hk).elim (fun hf => hd k hf hg) (fun hle => absurd (hR.lt hg) (by omega))
  refine ⟨t1.keep m2.1 hdis, r2, fun k hk hg => (m2.2 k hg).elim (hdis k hk) (fun hle => absurd (t1.lt hk) (by omega)), m1.2, fun k hg => (m2.2 k hg).imp id (fun hle => Nat.le_trans m1.1.size hle), ?_⟩
  exact (m1.1.mono fun k _ h => .inl h).trans (m2.1.mono fun k _ h => .inr h)
theorem pair_xt {w u v : World} {tb xb : Nat} {F G F2 G1 : Nat → Prop} {T T2 U1 : St} (hT : IsText w tb F T) (hd : ∀ k, F k → ¬ G k) (r1 : IsRef u xb G1 U1) (m1 : Moved G G1 w u) (t2 : IsText v tb F2 T2) (m2 : Moved F F2 u v) : Pair w v tb xb F G F2 G1 T2 U1 := by
  have hdis : ∀ k, G1 k → ¬ F k := fun k hk hf => (m1.2 k hk).elim (fun hg => hd k hf hg) (fun hle => absurd (hT.lt hf) (by omega))
  refine ⟨t2, r1.keep m2.1 hdis, fun k hk hg => (m2.2 k hk).elim (fun hf => hdis k hg hf) (fun hle => absurd (r1.lt hg) (by omega)), fun k hf => (m2.2 k hf).imp id (fun hle => Nat.le_trans m1.1.size hle), m1.2, ?_⟩
  exact (m1.1.mono fun k _ h => .inr h).trans (m2.1.mono fun k _ h => .inl h)
theorem Pair.low {w u v : World} {tb xb : Nat} {F G F' G' : Nat → Prop} {T U : St} (hb : Below w.heap.size w u) (h : Pair u v tb xb F G F' G' T U) : Pair w v tb xb F G F' G' T U :=
  ⟨h.1, h.2.1, h.2.2.1, fun k hk => (h.2.2.2.1 k hk).imp id (fun hle => Nat.le_trans hb.size hle), fun k hk => (h.2.2.2.2.1 k hk).imp id (fun hle => Nat.le_trans hb.size hle), (Kept.of_below hb).trans h.2.2.2.2.2⟩
theorem IsRef.low {w w' : World} {xb : Nat} {G : Nat → Prop} {T : St} (h : IsRef w xb G T) (hb : Below w.heap.size w w') : IsRef w' xb G T := h.keep (K := noBlk) (Kept.of_below hb) (fun _ _ => id)
theorem IsRef.drew {w : World} {xb : Nat} {G : Nat → Prop} {T : St} (h : IsRef w xb G T) : IsRef w.drew xb G T := h.keep (K := noBlk) (Kept.refl _ _).drew (fun _ _ => id)
theorem four {w : World} {b : Nat} {x y z u : Value} {T : TypeId} {fr : Nat × Nat} (h : w.heap[b]? = some (.cells #[x, y, z, u] T fr)) :
    w.cell? ⟨b, 0, none⟩ = some x ∧ w.cell? ⟨b, 1, none⟩ = some y ∧ w.cell? ⟨b, 2, none⟩ = some z ∧ w.cell? ⟨b, 3, none⟩ = some u := ⟨blk_cell h rfl, blk_cell h rfl, blk_cell h rfl, blk_cell h rfl⟩
theorem Moved.oldB {F F' : Nat → Prop} {w w' : World} (h : Moved F F' w w') {b : Nat} {x : Obj} (hx : w.heap[b]? = some x) (hn : ¬ F b) : w'.heap[b]? = some x := h.1.blk hx hn

set_option maxHeartbeats 4000000 in
theorem doC {w : World} {tb xb : Nat} {F G : Nat → Prop} {T U : St} (x : Act) (hT : IsText w tb F T) (hR : IsRef w xb G U) (hd : ∀ k, F k → ¬ G k) (ht : x.e.t.size ≤ 5000) (ha : x.e.a ≤ 9223372036854775807) :
    Calls Try.prog 11 #[.pointer (some ⟨tb, 0, none⟩), .pointer (some ⟨xb, 0, none⟩), .agg #[.int .i64 x.k, .int .i64 x.e.a, .int .i64 x.e.n, .string x.e.t]] w fun e w' =>
      e = .returned (.bool (decide ((actS x T).1 = (actS x U).1))) ∧ ∃ F' G', Pair w w' tb xb F G F' G' (actS x T).2 (actS x U).2 := by
  obtain ⟨k, ⟨a, n, t⟩⟩ := x
  have B0 : Below w.heap.size w (w.alloc (.cells #[.int .i64 k, .int .i64 a, .int .i64 n, .string t] 36)) := (Below.refl _ _).alloc (Nat.le_refl _) _
  have T0 := hid (hT.low B0)
  have R0 := hid (hR.low B0)
  have hFn : ¬ F w.heap.size := fun h => absurd (hT.lt h) (Nat.lt_irrefl _)
  have hGn : ¬ G w.heap.size := fun h => absurd (hR.lt h) (Nat.lt_irrefl _)
  have HD := hid hd
  obtain ⟨W0, hW0⟩ : ∃ W0, W0 = w.alloc (.cells #[.int .i64 k, .int .i64 a, .int .i64 n, .string t] 36) := ⟨_, rfl⟩
  have HB : Hid (W0.heap[w.heap.size]? = some (.cells #[.int .i64 k, .int .i64 a, .int .i64 n, .string t] 36)) := by rw [hW0]; exact heap_alloc_new w _
  rw [← hW0] at B0 T0 R0
  clear hT hR hd
  by_cases k0 : k = 0
  · subst k0
    show Calls Try.prog _ _ _ fun e w' => e = .returned (.bool (decide ((T.edit t a n).1 = (U.edit t a n).1))) ∧ ∃ F' G', Pair w w' tb xb F G F' G' (T.edit t a n).2 (U.edit t a n).2
    have GT := hid (fun (u : World) (F : Nat → Prop) (h : IsText u tb F T) => editT h t a n (by simp at ht; omega) ha)
    have GX := hid (fun (u : World) (G : Nat → Prop) (h : IsRef u xb G U) => editX h t a n ht ha)
    generalize T.edit t a n = RT at GT ⊢
    generalize U.edit t a n = RU at GX ⊢
    obtain ⟨i1, S1⟩ := RT
    obtain ⟨i2, S2⟩ := RU
    subst hW0
    have T0d := hid T0.out.drew
    have R0d := hid R0.out.drew
    have hbd : Hid ((w.alloc (.cells #[.int .i64 0, .int .i64 a, .int .i64 n, .string t] 36)).drew.heap[w.heap.size]? = some (.cells #[.int .i64 0, .int .i64 a, .int .i64 n, .string t] 36)) := HB.out
    obtain ⟨c0, c1, c2, c3⟩ := four HB.out
    go_enter Try.func11, Try.ntmps11
    go_wp2
    go_region_held3 (fun w' => w'.cell? ⟨w.heap.size, 1, none⟩ = some (.int .i64 a) ∧ w'.cell? ⟨w.heap.size, 2, none⟩ = some (.int .i64 n) ∧ w'.cell? ⟨w.heap.size, 3, none⟩ = some (.string t)) (go_keep) ((first
      | (go_at_call 23; refine (GX.out _ G (R0d.out.keep m1.1 (fun k hk hf => HD.out k hf hk))).mono ?_; rintro e w2 ⟨rfl, G2, r2, m2⟩; have b2 := m2.oldB b1 hGn; obtain ⟨y0, y1, y2, y3⟩ := four b2)
      | (go_at_call 15; refine (GT.out _ F (T0d.out.keep n1.1 (fun k hk hf => HD.out k hk hf))).mono ?_; rintro e w2 ⟨rfl, F2, t2, n2⟩; have b2 := n2.oldB b1 hFn; obtain ⟨y0, y1, y2, y3⟩ := four b2)
      | (go_at_call 15; refine (GT.out _ F T0d.out).mono ?_; rintro e w1 ⟨rfl, F1, t1, m1⟩; have b1 := m1.oldB hbd.out hFn; obtain ⟨x0, x1, x2, x3⟩ := four b1)
      | (go_at_call 23; refine (GX.out _ G R0d.out).mono ?_; rintro e w1 ⟨rfl, G1, r1, n1⟩; have b1 := n1.oldB hbd.out hGn; obtain ⟨x0, x1, x2, x3⟩ := four b1)))
    all_goals
      go_wp2
      go_ret
      first
      | exact ⟨rfl, F1, G2, (pair_tx R0d.out HD.out t1 m1 r2 m2).low B0.drew⟩
      | exact ⟨rfl, F2, G1, (pair_xt T0d.out HD.out r1 n1 t2 n2).low B0.drew⟩
  · by_cases k1 : k = 1
    · subst k1
      show Calls Try.prog _ _ _ fun e w' => e = .returned (.bool (decide (T.undo.1 = U.undo.1))) ∧ ∃ F' G', Pair w w' tb xb F G F' G' T.undo.2 U.undo.2
      have GT := hid (fun (u : World) (F : Nat → Prop) (h : IsText u tb F T) => undoT h)
      have GX := hid (fun (u : World) (G : Nat → Prop) (h : IsRef u xb G U) => undoX h)
      generalize T.undo = RT at GT ⊢
      generalize U.undo = RU at GX ⊢
      obtain ⟨i1, S1⟩ := RT
      obtain ⟨i2, S2⟩ := RU
      clear HB
      go_enter Try.func11, Try.ntmps11
      go_wp2_with (first
        | (go_at_call 18; rw [← hW0]; refine (GT.out _ F T0.out).mono ?_; rintro e w1 ⟨rfl, F1, t1, m1⟩)
        | (go_at_call 24; refine (GX.out _ G (R0.out.keep m1.1 (fun k hk hf => HD.out k hf hk))).mono ?_; rintro e w2 ⟨rfl, G2, r2, m2⟩))
      go_ret
      exact ⟨rfl, F1, G2, (pair_tx R0.out HD.out t1 m1 r2 m2).low B0⟩
    · by_cases k2 : k = 2
      · subst k2
        show Calls Try.prog _ _ _ fun e w' => e = .returned (.bool (decide (T.redo.1 = U.redo.1))) ∧ ∃ F' G', Pair w w' tb xb F G F' G' T.redo.2 U.redo.2
        have GT := hid (fun (u : World) (F : Nat → Prop) (h : IsText u tb F T) => redoT h)
        have GX := hid (fun (u : World) (G : Nat → Prop) (h : IsRef u xb G U) => redoX h)
        generalize T.redo = RT at GT ⊢
        generalize U.redo = RU at GX ⊢
        obtain ⟨i1, S1⟩ := RT
        obtain ⟨i2, S2⟩ := RU
        clear HB
        go_enter Try.func11, Try.ntmps11
        go_wp2_with (first
          | (go_at_call 19; rw [← hW0]; refine (GT.out _ F T0.out).mono ?_; rintro e w1 ⟨rfl, F1, t1, m1⟩)
          | (go_at_call 25; refine (GX.out _ G (R0.out.keep m1.1 (fun k hk hf => HD.out k hf hk))).mono ?_; rintro e w2 ⟨rfl, G2, r2, m2⟩))
        go_ret
        exact ⟨rfl, F1, G2, (pair_tx R0.out HD.out t1 m1 r2 m2).low B0⟩
      · have e1 : actS ⟨k, ⟨a, n, t⟩⟩ T = (0, T) := by unfold actS; rw [if_neg k0, if_neg k1, if_neg k2]
        have e2 : actS ⟨k, ⟨a, n, t⟩⟩ U = (0, U) := by unfold actS; rw [if_neg k0, if_neg k1, if_neg k2]
        rw [e1, e2]
        show Calls Try.prog _ _ _ fun e w' => e = .returned (.bool true) ∧ ∃ F' G', Pair w w' tb xb F G F' G' T U
        have j0 : (k == 0) = false := beq_eq_false_iff_ne.2 k0
        have j1 : (k == 1) = false := beq_eq_false_iff_ne.2 k1
        have j2 : (k == 2) = false := beq_eq_false_iff_ne.2 k2
        clear e1 e2 HB
        go_enter Try.func11, Try.ntmps11
        go_wp2
        go_ret
        rw [← hW0]
        exact ⟨rfl, F, G, T0.out, R0.out, HD.out, fun k h => .inl h, fun k h => .inl h, Kept.of_below B0⟩

end Go.Proofs.Ytnhabinnmkjnbaa
