/- Words wherever they lie; topiaryref11.Same, Equal, Show. -/
import Derived.Test.YtkpakpfjgeannaaWa
namespace Go.Proofs.Ytkpakpfjgeannaa
open Go.RowKit Go.Maps

/-- a word as it may be handed in -/
abbrev Wz := Int × Int × Txt
def zOf (x : Wd) : Wz := ((x.1 : Int), (x.2.1 : Int), x.2.2)
/-- a slice that holds words, wherever it lies -/
def Wds (w : World) (v : Value) (l : List Wz) : Prop := ∃ a cap, v = .slice a l.length cap ∧ ∀ j, j < l.length → ∃ b o, a = some ⟨b, o, none⟩ ∧ b < w.heap.size ∧ w.cell? ⟨b, o + j * 3, none⟩ = some (.int .i64 (l.getD j (0, 0, [])).1) ∧ w.cell? ⟨b, o + j * 3 + 1, none⟩ = some (.int .i64 (l.getD j (0, 0, [])).2.1) ∧ w.cell? ⟨b, o + j * 3 + 2, none⟩ = some (.string (strT (l.getD j (0, 0, [])).2.2))
theorem Wds.keep {w u : World} {v : Value} {l : List Wz} (h : Wds w v l) (hu : Below w.heap.size w u) : Wds u v l := by
  obtain ⟨a, cap, e, hat⟩ := h
  refine ⟨a, cap, e, fun j hj => ?_⟩
  obtain ⟨b, o, e1, h1, h2, h3, h4⟩ := hat j hj
  exact ⟨b, o, e1, Nat.lt_of_lt_of_le h1 hu.size, keep_cell hu h2, keep_cell hu h3, keep_cell hu h4⟩
theorem Wds.shape {w : World} {v : Value} {l : List Wz} (h : Wds w v l) : ∃ a c, v = .slice a l.length c := by obtain ⟨a, c, e, _⟩ := h; exact ⟨a, c, e⟩
theorem Wds.at {w : World} {a : Option Addr} {n c : Nat} {l : List Wz} (h : Wds w (.slice a n c) l) {j : Nat} (hj : j < l.length) : ∃ b o, a = some ⟨b, o, none⟩ ∧ w.cell? ⟨b, o + j * 3, none⟩ = some (.int .i64 (l.getD j (0, 0, [])).1) ∧ w.cell? ⟨b, o + j * 3 + 1, none⟩ = some (.int .i64 (l.getD j (0, 0, [])).2.1) ∧ w.cell? ⟨b, o + j * 3 + 2, none⟩ = some (.string (strT (l.getD j (0, 0, [])).2.2)) := by
  obtain ⟨a', c', e, hat⟩ := h
  injection e with e1 _ _
  subst e1
  obtain ⟨b, o, e1, _, h2, h3, h4⟩ := hat j hj
  exact ⟨b, o, e1, h2, h3, h4⟩
theorem Wds.of_own {w : World} {B : Nat} {v : Value} {l : List Wd} (h : OwnW w B v l) : Wds w v (l.map zOf) := by
  obtain ⟨a, c, e⟩ := own_shape h
  refine ⟨a, c, by rw [e, List.length_map], fun j hj => ?_⟩
  rw [List.length_map] at hj
  obtain ⟨g, c', e', _⟩ := own_form3 h (show 0 < l.length by omega)
  rw [e] at e'
  injection e' with e1 _ e3
  subst e1 e3
  have ho := h
  rw [e] at ho
  have hg := (h.lt g (by rw [e]; rfl)).2
  have hfl : ∀ (P : List Wd) (k : Nat), k < P.length → (P.flatMap wdV)[k * 3]? = some (.int .i64 ((P.map zOf).getD k (0, 0, [])).1) ∧ (P.flatMap wdV)[k * 3 + 1]? = some (.int .i64 ((P.map zOf).getD k (0, 0, [])).2.1) ∧ (P.flatMap wdV)[k * 3 + 2]? = some (.string (strT ((P.map zOf).getD k (0, 0, [])).2.2)) := by
    intro P
    induction P with
    | nil => intro k hk; exact absurd hk (Nat.not_lt_zero _)
    | cons a l ih =>
      intro k hk
      rw [List.flatMap_cons]
      cases k with
      | zero => exact ⟨rfl, rfl, rfl⟩
      | succ k =>
        have h1 := ih k (by simpa using hk)
        have e1 : (k + 1) * 3 = (wdV a).length + k * 3 := by show _ = 3 + _; omega
        have e2 : (k + 1) * 3 + 1 = (wdV a).length + (k * 3 + 1) := by show _ = 3 + _; omega
        have e3 : (k + 1) * 3 + 2 = (wdV a).length + (k * 3 + 2) := by show _ = 3 + _; omega
        rw [e3, List.getElem?_append_right (Nat.le_add_right _ _), Nat.add_sub_cancel_left, e2, List.getElem?_append_right (Nat.le_add_right _ _), Nat.add_sub_cancel_left, e1, List.getElem?_append_right (Nat.le_add_right _ _), Nat.add_sub_cancel_left]
        exact h1
  obtain ⟨f1, f2, f3⟩ := hfl l j hj
  refine ⟨g, 0, rfl, hg, ?_, ?_, ?_⟩
  · rw [Nat.zero_add]; exact (ho.cellAt (j * 3) (by omega)).trans f1
  · rw [Nat.zero_add]; exact (ho.cellAt (j * 3 + 1) (by omega)).trans f2
  · rw [Nat.zero_add]; exact (ho.cellAt (j * 3 + 2) (by omega)).trans f3
/-- kinds and texts -/
def kt (l : List Wz) : List (Int × Txt) := l.map fun x => (x.1, x.2.2)
theorem kt_ext {l l' : List Wz} (hn : l.length = l'.length) (h : ∀ j, j < l.length → (l.getD j (0, 0, [])).1 = (l'.getD j (0, 0, [])).1 ∧ (l.getD j (0, 0, [])).2.2 = (l'.getD j (0, 0, [])).2.2) : kt l = kt l' := by
  unfold kt
  refine List.ext_getElem (by rw [List.length_map, List.length_map, hn]) (fun j h1 h2 => ?_)
  rw [List.length_map] at h1 h2
  have h3 := h j h1
  rw [List.getD_eq_getElem?_getD, List.getElem?_eq_getElem h1, List.getD_eq_getElem?_getD, List.getElem?_eq_getElem h2] at h3
  rw [List.getElem_map, List.getElem_map]
  exact Prod.ext h3.1 h3.2
theorem kt_at {l l' : List Wz} (h : kt l = kt l') {j : Nat} (hj : j < l.length) : (l.getD j (0, 0, [])).1 = (l'.getD j (0, 0, [])).1 ∧ (l.getD j (0, 0, [])).2.2 = (l'.getD j (0, 0, [])).2.2 := by
  have hn : l.length = l'.length := by have := congrArg List.length h; unfold kt at this; rwa [List.length_map, List.length_map] at this
  have h1 : (kt l)[j]? = (kt l')[j]? := by rw [h]
  unfold kt at h1
  rw [List.getElem?_map, List.getElem?_map, List.getElem?_eq_getElem hj, List.getElem?_eq_getElem (by omega)] at h1
  injection h1 with h1
  rw [List.getD_eq_getElem?_getD, List.getElem?_eq_getElem hj, List.getD_eq_getElem?_getD, List.getElem?_eq_getElem (by omega)]
  exact ⟨(Prod.mk.inj h1).1, (Prod.mk.inj h1).2⟩
theorem strT_inj {s t : Txt} (h : strT s = strT t) : s = t := by
  have := congrArg (fun x : ByteArray => x.data.toList) h
  simpa [strT] using this
theorem strT_toL (s : Txt) : (strT s).toList = s := by rw [ByteArray.toList_eq]; rfl

set_option maxRecDepth 20000 in
set_option maxHeartbeats 1000000 in
theorem wdSame (v v' : Value) (l l' : List Wz) (w : World) (h : Wds w v l) (h' : Wds w v' l') (hl : l.length ≤ 1000000) (_hl' : l'.length ≤ 1000000) :
    Calls Try.prog 15 #[v, v'] w fun e w' => e = .returned (.bool (decide (kt l = kt l'))) ∧ Below w.heap.size w w' := by
  obtain ⟨a, c, rfl⟩ := h.shape
  obtain ⟨a', c', rfl⟩ := h'.shape
  by_cases hn : l.length = l'.length
  · obtain ⟨b, hb⟩ : ∃ b, Hid (decide (kt l = kt l') = b) := ⟨_, hid rfl⟩
    rw [hb.out]
    have hH := hid h
    have hH' := hid h'
    have hnH := hid hn
    rw [← hn]
    obtain ⟨n, hnn⟩ : ∃ n, Hid (l.length = n) := ⟨_, hid rfl⟩
    rw [hnn.out] at hl hH ⊢
    rw [← hnH.out, hnn.out] at hH'
    clear h h' hn _hl'
    go_enter Try.func15, Try.ntmps15
    go_wp2
    go_loopw [5] (fun i wr => ∃ k : Nat, k ≤ n ∧ i = .int .i64 (k : Int) ∧ Hid (∀ j, j < k → (l.getD j (0, 0, [])).1 = (l'.getD j (0, 0, [])).1 ∧ (l.getD j (0, 0, [])).2.2 = (l'.getD j (0, 0, [])).2.2) ∧ Hid (Below w.heap.size w wr)) (fun i _ => n - (intOf i).toNat)
    case atStart => exact ⟨0, Nat.zero_le _, rfl, hid (fun j hj => absurd hj (Nat.not_lt_zero _)), hid (Below.refl _ _)⟩
    case round =>
      obtain ⟨k, hk, rfl, hS, hw⟩ := hrel
      by_cases hlt : k < n
      · have hltz : (k : Int) < (n : Int) := by omega
        obtain ⟨g, o, he, x0, -, x2⟩ := (hH.out.keep hw.out).at (j := k) (by rw [hnn.out]; exact hlt)
        obtain ⟨g', o', he', y0, -, y2⟩ := (hH'.out.keep hw.out).at (j := k) (by rw [← hnH.out, hnn.out]; exact hlt)
        subst he he'
        have hwd := hid ((hw.out).drew)
        have hne : Hid (¬ ((l.getD k (0, 0, [])).1 = (l'.getD k (0, 0, [])).1 ∧ (l.getD k (0, 0, [])).2.2 = (l'.getD k (0, 0, [])).2.2) → decide (kt l = kt l') = false) := hid (fun h9 => decide_eq_false (fun h8 => h9 (kt_at h8 (by rw [hnn.out]; exact hlt))))
        have hS1 : Hid ((l.getD k (0, 0, [])).1 = (l'.getD k (0, 0, [])).1 ∧ (l.getD k (0, 0, [])).2.2 = (l'.getD k (0, 0, [])).2.2 → ∀ j, j < k + 1 → (l.getD j (0, 0, [])).1 = (l'.getD j (0, 0, [])).1 ∧ (l.getD j (0, 0, [])).2.2 = (l'.getD j (0, 0, [])).2.2) := hid (fun h9 j hj => by
          rcases Nat.lt_or_ge j k with h8 | h8
          · exact hS.out j h8
          · obtain rfl : j = k := by omega
            exact h9)
        generalize (l.getD k (0, 0, [])).1 = t0 at *
        generalize (l.getD k (0, 0, [])).2.2 = t2 at *
        generalize (l'.getD k (0, 0, [])).1 = s0 at *
        generalize (l'.getD k (0, 0, [])).2.2 = s2 at *
        by_cases e0 : t0 = s0
        · subst e0
          by_cases e2 : t2 = s2
          · subst e2
            have hS2 := hid (hS1.out ⟨rfl, rfl⟩)
            clear hne hS1
            generalize strT t2 = U at *
            go_wp2_with fail
            go_region
            go_wp2
            go_roundw
            case rel => exact ⟨k + 1, by omega, by go_num, hS2, by first | exact hwd | exact hw⟩
            case measure => simp [intOf]; omega
          · have hf := hne.out (fun h9 => e2 h9.2)
            have e2b : ((strT t2).toList == (strT s2).toList) = false := by rw [strT_toL, strT_toL, beq_eq_false_iff_ne]; exact e2
            have e2c : ¬ (strT t2).toList = (strT s2).toList := by rw [strT_toL, strT_toL]; exact e2
            clear hne hS1 hS
            generalize strT t2 = U at *
            generalize strT s2 = U' at *
            go_wp2_with fail
            go_region
            go_wp2
            go_ret
            exact ⟨by rw [← hb.out, hf]; rfl, hwd.out⟩
        · have hf := hne.out (fun h9 => e0 h9.1)
          have e0b : (t0 != s0) = true := bne_iff_ne.2 e0
          clear hne hS1 hS
          go_wp2_with fail
          go_region
          go_wp2
          go_ret
          exact ⟨by rw [← hb.out, hf]; rfl, hwd.out⟩
      · have hltz : ¬ (k : Int) < (n : Int) := by omega
        have hkn : n = k := by omega
        subst hkn
        have hyes : decide (kt l = kt l') = true := decide_eq_true (kt_ext hnH.out (fun j hj => hS.out j (by rw [← hnn.out]; exact hj)))
        go_wp2
        go_ret
        exact ⟨by rw [← hb.out, hyes]; rfl, hw.out⟩
  · have hne : decide (kt l = kt l') = false := decide_eq_false (fun h9 => hn (by have := congrArg List.length h9; unfold kt at this; rwa [List.length_map, List.length_map] at this))
    rw [hne]
    have hnb : ((l.length : Int) == (l'.length : Int)) = false := by rw [beq_eq_false_iff_ne]; omega
    clear h h' hne hn
    generalize l.length = n at *
    generalize l'.length = n' at *
    go_enter Try.func15, Try.ntmps15
    go_wp2
    go_ret
    exact ⟨rfl, Below.refl _ _⟩

end Go.Proofs.Ytkpakpfjgeannaa
