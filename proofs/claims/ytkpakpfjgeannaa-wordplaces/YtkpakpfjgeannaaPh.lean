/- Package word: outer, Show; what is asked of package word is kept. -/
import Derived.Test.YtkpakpfjgeannaaPg
import Derived.Test.YtkpakpfjgeannaaWw
namespace Go.Proofs.Ytkpakpfjgeannaa
open Go.RowKit Go.Maps

theorem bldKeep {w u : World} {B b : Nat} {p : Value} {bs : List Value} (h : Lib.BuilderAt 43 5 B b p bs w) (hu : Below w.heap.size w u) : Lib.BuilderAt 43 5 B b p bs u := by
  obtain ⟨hB, v, hbk, hown, hne⟩ := h
  exact ⟨hB, v, hs_keep hbk hu, own_below hown hu, hne⟩
theorem bldKeepA {w u : World} {B b : Nat} {bs : List Value} (h : BldA w B b bs) (hu : Below w.heap.size w u) : BldA u B b bs := h.imp (fun h => bldKeep h hu) (fun h => bldKeep h hu)
theorem bldLt {w : World} {B b : Nat} {bs : List Value} (h : BldA w B b bs) : b < w.heap.size := h.elim (fun h => h.lt) (fun h => h.lt)
theorem bldNew (w : World) : BldA (w.alloc (.cells #[.pointer none, .slice none 0 0] 43)) w.heap.size w.heap.size (Lib.byteCells []) :=
  .inl ⟨Nat.le_refl _, .slice none 0 0, heap_new w _, World.ownsRow_nil _ _ _ _, fun h => by cases h⟩
theorem boxKept {w w' : World} {b k : Nat} {cs : Array Value} (h : Lib.OthersKept 5 (some b) w w') (hk : w.heap[k]? = some (.cells cs 32 (0, 0))) (hb : k ≠ b) : w'.heap[k]? = some (.cells cs 32 (0, 0)) := by
  refine h k _ hk ?_ ?_
  all_goals simp
  all_goals first | exact hb | exact fun h => hb h.symm
set_option maxRecDepth 20000 in
set_option maxHeartbeats 1000000 in
theorem outerC (z : Wz) (w : World) (hz : z.2.2.length ≤ 10000) : Calls Try.prog 23 #[.agg #[.int .i64 z.1, .int .i64 z.2.1, .string (strT z.2.2)]] w fun e w' => e = .returned (.string (strT (oneW z))) ∧ Below w.heap.size w w' := by
  obtain ⟨t0, t1, T⟩ := z
  dsimp only at hz ⊢
  have hsz := strT_size T
  have hb := hid (al' w (.cells #[.int .i64 t0, .int .i64 t1, .string (strT T)] 32))
  obtain ⟨W1, hW1⟩ : ∃ x, w.alloc (.cells #[.int .i64 t0, .int .i64 t1, .string (strT T)] 32) = x := ⟨_, rfl⟩
  have hk : W1.heap[w.heap.size]? = some (.cells #[.int .i64 t0, .int .i64 t1, .string (strT T)] 32 (0, 0)) := by rw [← hW1]; exact heap_new w _
  obtain ⟨⟨x0, -⟩, ⟨x1, -⟩, ⟨x2, -⟩⟩ := cells3m hk
  rw [hW1] at hb
  by_cases h2 : t0 = 2
  · have e1 : Hid (⟨#[47]⟩ ++ strT T ++ ⟨#[47]⟩ = strT (oneW (t0, t1, T))) := hid (by
      have e47 : (⟨#[47]⟩ : ByteArray) = strT [47] := rfl
      unfold oneW
      rw [if_pos h2, e47, strT_app, strT_app, List.append_assoc])
    subst h2
    go_enter Try.func23, Try.ntmps23
    go_wp2
    go_ret
    exact ⟨by rw [← e1.out]; rfl, hb.out⟩
  · have e1 : oneW (t0, t1, T) = T := if_neg h2
    rw [e1]
    have z2 : (t0 == 2) = false := beq_eq_false_iff_ne.2 h2
    clear e1
    go_enter Try.func23, Try.ntmps23
    go_wp2
    go_ret
    exact ⟨rfl, hb.out⟩

set_option maxRecDepth 20000 in
set_option maxHeartbeats 4000000 in
theorem showC (v : Value) (l : List Wz) (w : World) (h : Wds w v l) (hl : l.length ≤ 5000) (ht : ∀ j, j < l.length → (l.getD j (0, 0, [])).2.2.length ≤ 5000) :
    Calls Try.prog 13 #[v] w fun e w' => e = .returned (.string (strT (shK l l.length))) ∧ Below w.heap.size w w' := by
  obtain ⟨a, c, rfl⟩ := h.shape
  obtain ⟨R, hR⟩ : ∃ R, Hid (strT (shK l l.length) = R) := ⟨_, hid rfl⟩
  rw [hR.out]
  have hH := hid h
  have hbd := hid (fun k (hk : k ≤ l.length) => shK_len ht k hk)
  obtain ⟨n, hnn⟩ : ∃ n, Hid (l.length = n) := ⟨_, hid rfl⟩
  rw [hnn.out] at hl hH hR hbd ⊢
  have htH := hid ht
  clear h ht
  have GO := hid (fun (z : Wz) (hz : z.2.2.length ≤ 10000) (u : World) => outerC z u hz)
  have GB := hid (fun (t : Txt) (u : World) h1 h2 h3 => putByteC w.heap.size w.heap.size t 32 u h1 h2 h3)
  have GS := hid (fun (t s : Txt) (u : World) h1 h2 h3 => putStrC w.heap.size w.heap.size t s u h1 h2 h3)
  have GE := hid (fun (t : Txt) (u : World) h1 h2 => Try.Builder_String_any w.heap.size w.heap.size t u h1 h2)
  have hN := hid (bldNew w)
  have hNb := hid (al' w (.cells #[.pointer none, .slice none 0 0] 43))
  go_enter Try.func13, Try.ntmps13
  go_wp2
  go_loopw [8] (fun i wr => ∃ k : Nat, k ≤ n ∧ i = .int .i64 (k : Int) ∧ Hid (BldA wr w.heap.size w.heap.size (Lib.byteCells (shK l k))) ∧ Hid (Below w.heap.size w wr)) (fun i _ => n - (intOf i).toNat)
  case atStart => exact ⟨0, Nat.zero_le _, rfl, hN, hNb⟩
  case round =>
    obtain ⟨k, hk, rfl, hB, hw⟩ := hrel
    have hwsz := hw.out.size
    have hblt := bldLt hB.out
    by_cases hlt : k < n
    · have hltz : (k : Int) < (n : Int) := by omega
      obtain ⟨g, o, he, x0, x1, x2⟩ := (hH.out.keep hw.out).at (j := k) (by rw [hnn.out]; exact hlt)
      subst he
      have hb1 := hbd.out k (by omega)
      have hb2 := htH.out k (by rw [hnn.out]; exact hlt)
      have hst : Hid (shK l (k + 1) = shK l k ++ ((if k = 0 then [] else [32]) ++ oneW (l.getD k (0, 0, [])))) := hid rfl
      have how : (oneW (l.getD k (0, 0, []))).length ≤ 5002 := by
        unfold oneW
        split
        · rw [List.length_append, List.length_append, List.length_singleton]; show 1 + (_ + 1) ≤ _; omega
        · omega
      have GO1 := hid (fun u => GO.out (l.getD k (0, 0, [])) (by omega) u)
      generalize l.getD k (0, 0, []) = z at *
      obtain ⟨t0, t1, T⟩ := z
      dsimp only at x0 x1 x2 GO1 hb2
      generalize strT T = U at *
      have hk1 := heap_new wr (.cells #[.int .i64 t0, .int .i64 t1, .string U] 32)
      have hB1 := hid (bldKeepA hB.out (al' wr (.cells #[.int .i64 t0, .int .i64 t1, .string U] 32)))
      have hw1 := hid (bl_step hw.out (al' wr (.cells #[.int .i64 t0, .int .i64 t1, .string U] 32)))
      have hW1s : (wr.alloc (.cells #[.int .i64 t0, .int .i64 t1, .string U] 32)).heap.size = wr.heap.size + 1 := by show (wr.heap.push _).size = _; rw [Array.size_push]
      obtain ⟨W1, hW1⟩ : ∃ x, wr.alloc (.cells #[.int .i64 t0, .int .i64 t1, .string U] 32) = x := ⟨_, rfl⟩
      rw [hW1] at hk1 hB1 hw1 hW1s
      have hne : wr.heap.size ≠ w.heap.size := by omega
      have hsl : w.heap.size ≤ W1.heap.size := by omega
      clear hW1s
      by_cases h0 : k = 0
      · have h0z : ¬ (0 : Int) < (k : Int) := by omega
        have hst2 : Hid (shK l (k + 1) = shK l k ++ oneW (t0, t1, T)) := hid (by rw [hst.out, if_pos h0]; rfl)
        obtain ⟨⟨y0, -⟩, ⟨y1, -⟩, ⟨y2, -⟩⟩ := cells3m hk1
        have hm1 : k * (5000 + 3) ≤ 5000 * 5003 := Nat.mul_le_mul (by omega) (by omega)
        clear hst GB
        generalize oneW (t0, t1, T) = O at *
        generalize shK l k = S0 at *
        obtain ⟨S1, hS1⟩ : ∃ x, Hid (shK l (k + 1) = x) := ⟨_, hid rfl⟩
        rw [hS1.out] at hst2
        clear h0
        go_wp2_with (first
          | (go_at_call 23; refine (GO1.out W1).mono ?_; clear GO1; rintro e w3 ⟨rfl, hc3⟩; have hB3 := hid (bldKeepA hB1.out hc3); have hw3 := hid (bl_step hw1.out hc3))
          | (go_at_call 22; refine (GS.out S0 O w3 hB3.out (by omega) hw3.out.size).mono ?_; clear GS; rintro e w4 ⟨rfl, hU4, hc4, -⟩; have hU4 := hid hU4; have hw4 := hid (hw3.out.trans hc4); clear hc4))
        go_roundw
        case rel => exact ⟨k + 1, by omega, by go_num, hid (.inr (by rw [hS1.out, hst2.out]; exact hU4.out)), hw4⟩
        case measure => simp [intOf]; omega
      · have h0z : (0 : Int) < (k : Int) := by omega
        have hst2 : Hid (shK l (k + 1) = shK l k ++ [32] ++ oneW (t0, t1, T)) := hid (by rw [hst.out, if_neg h0, List.append_assoc])
        have hm1 : k * (5000 + 3) ≤ 5000 * 5003 := Nat.mul_le_mul (by omega) (by omega)
        have GB1 := hid (GB.out (shK l k) W1 hB1.out (by omega) hsl)
        have e32 : (((32 : UInt8).toNat : Nat) : Int) = 32 := rfl
        rw [e32] at GB1
        have hl2 : (shK l k ++ [32]).length ≤ 5000 * 5003 + 1 := by rw [List.length_append, List.length_singleton]; omega
        clear hst GB e32
        generalize oneW (t0, t1, T) = O at *
        generalize shK l k ++ [32] = S2 at *
        obtain ⟨S1, hS1⟩ : ∃ x, Hid (shK l (k + 1) = x) := ⟨_, hid rfl⟩
        rw [hS1.out] at hst2
        have hk1 := hid hk1
        go_wp2_with (first
          | (go_at_call 21; refine GB1.out.mono ?_; clear GB1; rintro e w2 ⟨rfl, hU2, hc2, hO2⟩; have hU2 := hid hU2; have hw2 := hid (hw1.out.trans hc2); obtain ⟨⟨y0, -⟩, ⟨y1, -⟩, ⟨y2, -⟩⟩ := cells3m (boxKept hO2 hk1.out hne); clear hc2 hO2)
          | (go_at_call 23; refine (GO1.out w2).mono ?_; clear GO1; rintro e w3 ⟨rfl, hc3⟩; have hB3 := hid (bldKeep hU2.out hc3); have hw3 := hid (bl_step hw2.out hc3))
          | (go_at_call 22; refine (GS.out S2 O w3 (.inr hB3.out) (by omega) hw3.out.size).mono ?_; clear GS; rintro e w4 ⟨rfl, hU4, hc4, -⟩; have hU4 := hid hU4; have hw4 := hid (hw3.out.trans hc4); clear hc4))
        go_roundw
        case rel => exact ⟨k + 1, by omega, by go_num, hid (.inr (by rw [hS1.out, hst2.out]; exact hU4.out)), hw4⟩
        case measure => simp [intOf]; omega
    · have hltz : ¬ (k : Int) < (n : Int) := by omega
      have hkn : n = k := by omega
      subst hkn
      go_wp2_with (go_at_call 24; refine (GE.out (shK l n) wr hB.out hwsz).mono ?_; clear GE; rintro e w4 ⟨rfl, hc4⟩)
      go_ret
      exact ⟨by rw [← hR.out]; rfl, hw.out.trans hc4⟩

theorem wordOK : WordOK where
  all s u hs := (allC s u hs).mono (by rintro e w' ⟨v, rfl, hM⟩; exact ⟨v, rfl, Wds.of_own hM.own, hM.low⟩)
  shw v l u h hl ht := showC v l u h hl ht

end Go.Proofs.Ytkpakpfjgeannaa
