/- topiaryref11.Equal, Show. -/
import Derived.Test.YtkpakpfjgeannaaWs
namespace Go.Proofs.Ytkpakpfjgeannaa
open Go.RowKit Go.Maps

theorem wz_ext {l l' : List Wz} (hk : kt l = kt l') (h : ∀ j, j < l.length → (l.getD j (0, 0, [])).2.1 = (l'.getD j (0, 0, [])).2.1) : l = l' := by
  have hn : l.length = l'.length := by have := congrArg List.length hk; unfold kt at this; rwa [List.length_map, List.length_map] at this
  refine List.ext_getElem hn (fun j h1 h2 => ?_)
  have h3 := kt_at hk h1
  have h4 := h j h1
  rw [List.getD_eq_getElem?_getD, List.getElem?_eq_getElem h1, List.getD_eq_getElem?_getD, List.getElem?_eq_getElem h2] at h3 h4
  exact Prod.ext h3.1 (Prod.ext h4 h3.2)

set_option maxRecDepth 20000 in
set_option maxHeartbeats 1000000 in
theorem wdEqual (v v' : Value) (l l' : List Wz) (w : World) (h : Wds w v l) (h' : Wds w v' l') (hl : l.length ≤ 1000000) (hl' : l'.length ≤ 1000000) :
    Calls Try.prog 12 #[v, v'] w fun e w' => e = .returned (.bool (decide (l = l'))) ∧ Below w.heap.size w w' := by
  obtain ⟨a, c, rfl⟩ := h.shape
  obtain ⟨a', c', rfl⟩ := h'.shape
  have GS := hid (fun u (hu : Below w.heap.size w u) => wdSame _ _ l l' u (h.keep hu) (h'.keep hu) hl hl')
  obtain ⟨b, hb⟩ : ∃ b, Hid (decide (l = l') = b) := ⟨_, hid rfl⟩
  rw [hb.out]
  have hH := hid h
  have hH' := hid h'
  obtain ⟨n, hnn⟩ : ∃ n, Hid (l.length = n) := ⟨_, hid rfl⟩
  obtain ⟨n', hnn'⟩ : ∃ n, Hid (l'.length = n) := ⟨_, hid rfl⟩
  rw [hnn.out] at hl hH GS ⊢
  rw [hnn'.out] at hl' hH' GS ⊢
  clear h h'
  go_enter Try.func12, Try.ntmps12
  go_wp2
  go_loopw [5] (fun i wr => ∃ k : Nat, k ≤ n ∧ k ≤ n' ∧ i = .int .i64 (k : Int) ∧ Hid (∀ j, j < k → (l.getD j (0, 0, [])).2.1 = (l'.getD j (0, 0, [])).2.1) ∧ Hid (Below w.heap.size w wr)) (fun i _ => n - (intOf i).toNat)
  case atStart => exact ⟨0, Nat.zero_le _, Nat.zero_le _, rfl, hid (fun j hj => absurd hj (Nat.not_lt_zero _)), hid (Below.refl _ _)⟩
  case round =>
    obtain ⟨k, hk, hk', rfl, hS, hw⟩ := hrel
    by_cases hlt : k < n ∧ k < n'
    · have hltz : (k : Int) < (n : Int) := by omega
      have hltz' : (k : Int) < (n' : Int) := by omega
      obtain ⟨g, o, he, -, x1, -⟩ := (hH.out.keep hw.out).at (j := k) (by rw [hnn.out]; exact hlt.1)
      obtain ⟨g', o', he', -, y1, -⟩ := (hH'.out.keep hw.out).at (j := k) (by rw [hnn'.out]; exact hlt.2)
      subst he he'
      have hwd := hid ((hw.out).drew)
      have hne : Hid (¬ (l.getD k (0, 0, [])).2.1 = (l'.getD k (0, 0, [])).2.1 → decide (l = l') = false) := hid (fun h9 => decide_eq_false (fun h8 => h9 (by rw [h8])))
      have hS1 : Hid ((l.getD k (0, 0, [])).2.1 = (l'.getD k (0, 0, [])).2.1 → ∀ j, j < k + 1 → (l.getD j (0, 0, [])).2.1 = (l'.getD j (0, 0, [])).2.1) := hid (fun h9 j hj => by
        rcases Nat.lt_or_ge j k with h8 | h8
        · exact hS.out j h8
        · obtain rfl : j = k := by omega
          exact h9)
      generalize (l.getD k (0, 0, [])).2.1 = t1 at *
      generalize (l'.getD k (0, 0, [])).2.1 = s1 at *
      by_cases e1 : t1 = s1
      · subst e1
        have hS2 := hid (hS1.out rfl)
        clear hne hS1
        go_wp2_with fail
        go_region
        go_wp2
        go_roundw
        case rel => exact ⟨k + 1, by omega, by omega, by go_num, hS2, by first | exact hwd | exact hw⟩
        case measure => simp [intOf]; omega
      · have hf := hne.out e1
        have e1b : (t1 != s1) = true := bne_iff_ne.2 e1
        clear hne hS1 hS
        go_wp2_with fail
        go_region
        go_wp2
        go_ret
        exact ⟨by rw [← hb.out, hf]; rfl, hwd.out⟩
    · have hfin : Hid (decide (kt l = kt l') = decide (l = l')) := hid (by
        by_cases h9 : kt l = kt l'
        · have hn2 : l.length = l'.length := by have := congrArg List.length h9; unfold kt at this; rwa [List.length_map, List.length_map] at this
          have h8 := wz_ext h9 (fun j hj => hS.out j (by have := hnn.out; have := hnn'.out; omega))
          rw [decide_eq_true h9, decide_eq_true h8]
        · rw [decide_eq_false h9, decide_eq_false (fun h8 => h9 (by rw [h8]))])
      have GS1 := hid (GS.out wr hw.out)
      rw [hfin.out, hb.out] at GS1
      clear hfin hS GS
      by_cases hlt1 : k < n
      · have hltz : (k : Int) < (n : Int) := by omega
        have hltz' : ¬ (k : Int) < (n' : Int) := by omega
        go_wp2_with (go_at_call 15; refine GS1.out.mono ?_; clear GS1; rintro e w2 ⟨rfl, hc2⟩)
        go_ret
        exact ⟨rfl, bl_step hw.out hc2⟩
      · have hltz : ¬ (k : Int) < (n : Int) := by omega
        go_wp2_with (go_at_call 15; refine GS1.out.mono ?_; clear GS1; rintro e w2 ⟨rfl, hc2⟩)
        go_ret
        exact ⟨rfl, bl_step hw.out hc2⟩

/-- a word as it is shown -/
def oneW (x : Wz) : Txt := if x.1 = 2 then [47] ++ (x.2.2 ++ [47]) else x.2.2
/-- the first k words as they are shown -/
def shK (l : List Wz) : Nat → Txt
  | 0 => []
  | k + 1 => shK l k ++ ((if k = 0 then [] else [32]) ++ oneW (l.getD k (0, 0, [])))
theorem shK_len {l : List Wz} {M : Nat} (h : ∀ j, j < l.length → (l.getD j (0, 0, [])).2.2.length ≤ M) : ∀ k, k ≤ l.length → (shK l k).length ≤ k * (M + 3)
  | 0, _ => Nat.zero_le _
  | k + 1, hk => by
    have h1 := shK_len h k (by omega)
    have h2 := h k (by omega)
    have h3 : (oneW (l.getD k (0, 0, []))).length ≤ M + 2 := by
      unfold oneW
      split
      · rw [List.length_append, List.length_append, List.length_singleton]; show 1 + (_ + 1) ≤ _; omega
      · omega
    rw [shK, List.length_append, List.length_append, Nat.succ_mul]
    split
    · rw [List.length_nil]; omega
    · rw [List.length_singleton]; omega

set_option maxRecDepth 20000 in
set_option maxHeartbeats 2000000 in
theorem refShowC (v : Value) (l : List Wz) (w : World) (h : Wds w v l) (hl : l.length ≤ 5000) {M : Nat} (hM : M ≤ 10000) (ht : ∀ j, j < l.length → (l.getD j (0, 0, [])).2.2.length ≤ M) :
    Calls Try.prog 14 #[v] w fun e w' => e = .returned (.string (strT (shK l l.length))) ∧ w' = w := by
  obtain ⟨a, c, rfl⟩ := h.shape
  obtain ⟨R, hR⟩ : ∃ R, Hid (strT (shK l l.length) = R) := ⟨_, hid rfl⟩
  rw [hR.out]
  have hH := hid h
  have hbd := hid (fun k (hk : k ≤ l.length) => shK_len ht k hk)
  obtain ⟨n, hnn⟩ : ∃ n, Hid (l.length = n) := ⟨_, hid rfl⟩
  rw [hnn.out] at hl hH hR hbd ⊢
  have htH := hid ht
  clear h ht
  go_enter Try.func14, Try.ntmps14
  go_wp2
  go_loopw [3, 4] (fun x i wr => ∃ k : Nat, k ≤ n ∧ i = .int .i64 (k : Int) ∧ x = .string (strT (shK l k)) ∧ wr = w) (fun _ i _ => n - (intOf i).toNat)
  case atStart => exact ⟨0, Nat.zero_le _, rfl, rfl, rfl⟩
  case round =>
    obtain ⟨k, hk, rfl, rfl, rfl⟩ := hrel
    by_cases hlt : k < n
    · have hltz : (k : Int) < (n : Int) := by omega
      obtain ⟨g, o, he, x0, -, x2⟩ := hH.out.at (j := k) (by rw [hnn.out]; exact hlt)
      subst he
      have hb1 := hbd.out k (by omega)
      have hm1 : k * (M + 3) ≤ 5000 * 10003 := Nat.mul_le_mul (by omega) (by omega)
      have hb2 := htH.out k (by rw [hnn.out]; exact hlt)
      have hs1 : (strT (shK l k)).size ≤ 60000000 := by rw [strT_size]; omega
      have hs2 : (strT (l.getD k (0, 0, [])).2.2).size ≤ 10000 := by rw [strT_size]; omega
      have e47 : (⟨#[47]⟩ : ByteArray) = strT [47] := rfl
      have e32 : (⟨#[32]⟩ : ByteArray) = strT [32] := rfl
      have hv0 : Hid (∀ (t0 : Int) (T : Txt), l.getD k (0, 0, []) = (t0, (l.getD k (0, 0, [])).2.1, T) → (k = 0 → t0 = 2 → strT (shK l k) ++ (⟨#[47]⟩ ++ strT T ++ ⟨#[47]⟩) = strT (shK l (k + 1))) ∧ (k = 0 → t0 ≠ 2 → strT (shK l k) ++ strT T = strT (shK l (k + 1))) ∧ (k ≠ 0 → t0 = 2 → strT (shK l k) ++ ⟨#[32]⟩ ++ (⟨#[47]⟩ ++ strT T ++ ⟨#[47]⟩) = strT (shK l (k + 1))) ∧ (k ≠ 0 → t0 ≠ 2 → strT (shK l k) ++ ⟨#[32]⟩ ++ strT T = strT (shK l (k + 1)))) := hid (fun t0 T h => by
        have hst : shK l (k + 1) = shK l k ++ ((if k = 0 then [] else [32]) ++ oneW (l.getD k (0, 0, []))) := rfl
        rw [hst, h, e47, e32, strT_app, strT_app, strT_app, strT_app, strT_app, strT_app, strT_app]
        unfold oneW
        refine ⟨fun h1 h2 => ?_, fun h1 h2 => ?_, fun h1 h2 => ?_, fun h1 h2 => ?_⟩
        · rw [if_pos h1, if_pos h2]; simp
        · rw [if_pos h1, if_neg h2]; simp
        · rw [if_neg h1, if_pos h2]; simp
        · rw [if_neg h1, if_neg h2]; simp)
      have hv := hid (hv0.out (l.getD k (0, 0, [])).1 (l.getD k (0, 0, [])).2.2 rfl)
      clear hb1 hb2 hm1 hbd e47 e32 hv0
      obtain ⟨S1, hS1⟩ : ∃ x, strT (shK l (k + 1)) = x := ⟨_, rfl⟩
      rw [hS1] at hv
      have hS1 := hid hS1
      generalize strT (shK l k) = S0 at *
      generalize (l.getD k (0, 0, [])).1 = t0 at *
      generalize strT (l.getD k (0, 0, [])).2.2 = T at *
      by_cases h0 : k = 0
      · by_cases h2 : t0 = 2
        · have hv := hv.out.1 h0 h2
          have h0z : ¬ (0 : Int) < (k : Int) := by omega
          subst h2
          clear h0
          go_wp2
          go_roundw
          case rel => exact ⟨k + 1, by omega, by go_num, by rw [hS1.out], by first | rfl | trivial⟩
          case measure => simp [intOf]; omega
        · have hv := hv.out.2.1 h0 h2
          have z2 : (t0 == 2) = false := beq_eq_false_iff_ne.2 h2
          have h0z : ¬ (0 : Int) < (k : Int) := by omega
          clear h0
          go_wp2
          go_roundw
          case rel => exact ⟨k + 1, by omega, by go_num, by rw [hS1.out], by first | rfl | trivial⟩
          case measure => simp [intOf]; omega
      · have h0z : (0 : Int) < (k : Int) := by omega
        by_cases h2 : t0 = 2
        · have hv := hv.out.2.2.1 h0 h2
          subst h2
          go_wp2
          go_roundw
          case rel => exact ⟨k + 1, by omega, by go_num, by rw [hS1.out], by first | rfl | trivial⟩
          case measure => simp [intOf]; omega
        · have hv := hv.out.2.2.2 h0 h2
          have z2 : (t0 == 2) = false := beq_eq_false_iff_ne.2 h2
          go_wp2
          go_roundw
          case rel => exact ⟨k + 1, by omega, by go_num, by rw [hS1.out], by first | rfl | trivial⟩
          case measure => simp [intOf]; omega
    · have hltz : ¬ (k : Int) < (n : Int) := by omega
      have hkn : n = k := by omega
      subst hkn
      go_wp2
      go_ret
      exact ⟨by rw [← hR.out]; rfl, rfl⟩

end Go.Proofs.Ytkpakpfjgeannaa
