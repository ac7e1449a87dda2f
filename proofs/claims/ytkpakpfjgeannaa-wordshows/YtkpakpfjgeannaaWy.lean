/- WordShows' walk over what is asked of package word. -/
import Derived.Test.YtkpakpfjgeannaaWx
namespace Go.Proofs.Ytkpakpfjgeannaa
open Go.RowKit Go.Maps

def wzV (x : Wz) : List Value := [.int .i64 x.1, .int .i64 x.2.1, .string (strT x.2.2)]
theorem wzV_len (l : List Wz) : (l.flatMap wzV).length = l.length * 3 := by
  induction l with
  | nil => rfl
  | cons a l ih => rw [List.flatMap_cons, List.length_append, ih, List.length_cons]; show 3 + _ = _; omega
theorem wzV_one (l : List Wz) : ∀ u ∈ l.flatMap wzV, u.oneCell' = true := by
  intro u hu
  obtain ⟨x, _, hx⟩ := List.mem_flatMap.1 hu
  simp only [wzV, List.mem_cons, List.not_mem_nil, or_false] at hx
  rcases hx with rfl | rfl | rfl <;> rfl
theorem wzV_at : ∀ (l : List Wz) (k : Nat), k < l.length → (l.flatMap wzV)[k * 3]? = some (.int .i64 (l.getD k (0, 0, [])).1) ∧ (l.flatMap wzV)[k * 3 + 1]? = some (.int .i64 (l.getD k (0, 0, [])).2.1) ∧ (l.flatMap wzV)[k * 3 + 2]? = some (.string (strT (l.getD k (0, 0, [])).2.2)) := by
  intro P
  induction P with
  | nil => intro k hk; exact absurd hk (Nat.not_lt_zero _)
  | cons a l ih =>
    intro k hk
    rw [List.flatMap_cons]
    cases k with
    | zero => exact ⟨rfl, rfl, rfl⟩
    | succ k =>
      have h1 := ih k (by simpa using hk)
      have e1 : (k + 1) * 3 = (wzV a).length + k * 3 := by show _ = 3 + _; omega
      have e2 : (k + 1) * 3 + 1 = (wzV a).length + (k * 3 + 1) := by show _ = 3 + _; omega
      have e3 : (k + 1) * 3 + 2 = (wzV a).length + (k * 3 + 2) := by show _ = 3 + _; omega
      rw [e3, List.getElem?_append_right (Nat.le_add_right _ _), Nat.add_sub_cancel_left, e2, List.getElem?_append_right (Nat.le_add_right _ _), Nat.add_sub_cancel_left, e1, List.getElem?_append_right (Nat.le_add_right _ _), Nat.add_sub_cancel_left]
      exact h1
theorem Wds.news {w : World} {ad : Addr} {n c : Nat} {l : List Wz} (h : Wds w (.slice (some ad) n c) l) : ∀ j u, (l.flatMap wzV)[j]? = some u → w.cell? (ad.add j) = some u := by
  intro j u hu
  have hj : j < l.length * 3 := by
    rw [← wzV_len]
    rcases Nat.lt_or_ge j (l.flatMap wzV).length with h1 | h1
    · exact h1
    · rw [List.getElem?_eq_none h1] at hu; cases hu
  have hk : j / 3 < l.length := by omega
  obtain ⟨b', o', e, x0, x1, x2⟩ := h.at hk
  injection e with e
  subst e
  obtain ⟨y0, y1, y2⟩ := wzV_at l (j / 3) hk
  have hm : j = j / 3 * 3 ∨ j = j / 3 * 3 + 1 ∨ j = j / 3 * 3 + 2 := by omega
  generalize j / 3 = q at *
  have ea : (⟨b', o', none⟩ : Addr).add j = ⟨b', o' + j, none⟩ := by simp [Addr.add]
  rw [ea]
  rcases hm with rfl | rfl | rfl
  · rw [← hu, y0]; exact x0
  · rw [← hu, y1, ← Nat.add_assoc]; exact x1
  · rw [← hu, y2, ← Nat.add_assoc]; exact x2
theorem Wds.of_flat {w : World} {B : Nat} {v : Value} {l : List Wz} (h : w.ownsRow B 32 3 v l.length (l.flatMap wzV)) : Wds w v l := by
  obtain ⟨a, c, e⟩ := own_shape h
  refine ⟨a, c, e, fun j hj => ?_⟩
  obtain ⟨g, c', e', _⟩ := own_form3 h (show 0 < l.length by omega)
  rw [e] at e'
  injection e' with e1 _ e3
  subst e1 e3
  have ho := h
  rw [e] at ho
  have hg := (h.lt g (by rw [e]; rfl)).2
  obtain ⟨f1, f2, f3⟩ := wzV_at l j hj
  refine ⟨g, 0, rfl, hg, ?_, ?_, ?_⟩
  · rw [Nat.zero_add]; exact (ho.cellAt (j * 3) (by omega)).trans f1
  · rw [Nat.zero_add]; exact (ho.cellAt (j * 3 + 1) (by omega)).trans f2
  · rw [Nat.zero_add]; exact (ho.cellAt (j * 3 + 2) (by omega)).trans f3
set_option maxRecDepth 20000 in
/-- append(none, words...) -/
theorem wp_appW {ops : Array Oper} {rest : List Oper} {o : Oper} {a : Act} {Q : Exit → Act → World → Prop} (w : World) (hgd : o.guard = none) (s x : Operand)
    (ho : o.op = .call { callee := .builtin .append, args := #[s, x], argTypes := #[24, 24] })
    (B : Nat) (l : List Wz) (v vx : Value) (hs : a.eval s = v) (hx : a.eval x = vx) (hown : w.ownsRow B 32 3 v 0 []) (hN : Wds w vx l) (hn : ∀ c, vx = .slice none 0 c → c = 0) (hl : l.length * 32 ≤ 140737488355328) (hB : B ≤ w.heap.size)
    (h : ∀ v' w', Wds w' v' l → Below B w w' → wpList Try.prog ops Q rest (a.put o.dst v') w') : wpList Try.prog ops Q (o :: rest) a w := by
  obtain ⟨i0, hi, hz0, hz1, hz2⟩ := info_parts Try.infoWd
  obtain ⟨va, vc, rfl⟩ := hN.shape
  cases va with
  | none =>
    have hl0 : l = [] := by
      cases l with
      | nil => rfl
      | cons x l => obtain ⟨_, _, e, _⟩ := hN.at (j := 0) (Nat.succ_pos _); cases e
    subst hl0
    have := hn vc rfl
    subst this
    refine wpList_append_own_none hgd s x 24 ho B 32 i0 3 Try.underlying24 hi v _ _ hs hown hx ?_
    exact h v w (Wds.of_flat hown) ((Below.refl _ w).mono hB)
  | some ad =>
    refine wpList_append_own w hgd s x 24 ho B 32 i0 (.agg #[.int .i64 0, .int .i64 0, .string ⟨#[]⟩]) 3 32 Try.underlying24 hi hz0 hz1 hz2 rfl (by decide) v _ _ hs hown ad l.length vc (l.flatMap wzV) hx (wzV_len l) hN.news (wzV_one l) (by unfold maxLen; omega) (by omega) hB ?_
    intro v' w' hO hg _
    rw [Nat.zero_add, List.nil_append] at hO
    exact h v' w' (Wds.of_flat hO) (((Below.refl _ w).mono hB).grown hg hB (fun k hk => (hown.lt k hk).1))

set_option maxRecDepth 20000 in
set_option maxHeartbeats 2000000 in
theorem wordShowsWalk (H : WordOK) (v : Value) (l : List Wz) (w : World) (h : Wds w v l) (hn0 : ∀ c, v = .slice none 0 c → c = 0) (hlm : l.length ≤ 9223372036854775807) (htm : ∀ j, j < l.length → (l.getD j (0, 0, [])).2.2.length ≤ 9223372036854775807) :
    Calls Try.prog 4 #[v] w fun e w' => e = .returned (.bool true) ∧ Below w.heap.size w w' := by
  have GW := hid (wakes11 H w)
  obtain ⟨a, c, rfl⟩ := h.shape
  have hH := hid h
  have htH := hid htm
  have hnH := hid hn0
  obtain ⟨n, hnn⟩ : ∃ n, Hid (l.length = n) := ⟨_, hid rfl⟩
  rw [hnn.out] at hlm hH hnH ⊢
  clear h htm hn0
  by_cases h2 : 200 < n
  · have h2z : (200 : Int) < (n : Int) := by omega
    go_enter Try.func4, Try.ntmps4
    go_wp2_with (go_at_call 8; refine GW.out.mono ?_; clear GW; rintro e w1 ⟨rfl, hc1⟩; have hc1 := hid hc1)
    go_ret
    exact ⟨rfl, hc1.out⟩
  have h2z : ¬ (200 : Int) < (n : Int) := by omega
  go_enter Try.func4, Try.ntmps4
  go_wp2_with (go_at_call 8; refine GW.out.mono ?_; clear GW; rintro e w1 ⟨rfl, hc1⟩; have hc1 := hid hc1)
  go_loopw [11] (fun i wr => ∃ k : Nat, k ≤ n ∧ i = .int .i64 (k : Int) ∧ Hid (∀ j, j < k → (l.getD j (0, 0, [])).2.2.length ≤ 1000) ∧ Hid (Below w.heap.size w wr)) (fun i _ => n - (intOf i).toNat)
  case atStart => exact ⟨0, Nat.zero_le _, rfl, hid (fun j hj => absurd hj (Nat.not_lt_zero _)), hc1⟩
  case round =>
    obtain ⟨k, hk, rfl, hS, hw⟩ := hrel
    by_cases hlt : k < n
    · have hltz : (k : Int) < (n : Int) := by omega
      obtain ⟨g, o, he, -, -, x2⟩ := (hH.out.keep hw.out).at (j := k) (by rw [hnn.out]; exact hlt)
      subst he
      have ht := htH.out k (by rw [hnn.out]; exact hlt)
      have hsz := strT_size (l.getD k (0, 0, [])).2.2
      have hS1 : Hid ((l.getD k (0, 0, [])).2.2.length ≤ 1000 → ∀ j, j < k + 1 → (l.getD j (0, 0, [])).2.2.length ≤ 1000) := hid (fun h9 j hj => by
        rcases Nat.lt_or_ge j k with h8 | h8
        · exact hS.out j h8
        · obtain rfl : j = k := by omega
          exact h9)
      generalize (l.getD k (0, 0, [])).2.2 = T at *
      by_cases h1 : 1000 < T.length
      · have h1z : (1000 : Int) < (T.length : Int) := by omega
        clear hS1
        go_wp2
        go_ret
        exact ⟨rfl, hw.out⟩
      · have h1z : ¬ (1000 : Int) < (T.length : Int) := by omega
        have hS2 := hid (hS1.out (by omega))
        clear hS1
        go_wp2
        go_roundw
        case rel => exact ⟨k + 1, by omega, by go_num, hS2, hw⟩
        case measure => simp [intOf]; omega
    · have hltz : ¬ (k : Int) < (n : Int) := by omega
      obtain rfl : k = n := by omega
      have hb : ∀ j, j < l.length → (l.getD j (0, 0, [])).2.2.length ≤ 1000 := fun j hj => hS.out j (by rw [← hnn.out]; exact hj)
      have hA1 := hid ((hH.out.keep hw.out).keep (al' wr (.cells #[] 32)))
      have hO : Hid ((wr.alloc (.cells #[] 32)).ownsRow wr.heap.size 32 3 (.slice (some ⟨wr.heap.size, 0, none⟩) 0 0) 0 []) := hid (World.ownsRow_lit wr #[] 0 (Nat.le_refl _) (by unfold maxLen; omega) rfl)
      have GS := hid (fun v u (hv : Wds u v l) => H.shw v _ u hv (by rw [hnn.out]; omega) (fun j hj => by have := hb j hj; omega))
      have GR := hid (fun v u (hv : Wds u v l) => refShowC v _ u hv (by rw [hnn.out]; omega) (M := 1000) (by omega) hb)
      rw [hnn.out] at GS GR
      generalize shK l k = T at *
      clear hb hS htH
      go_wp2_with (first
        | (at_builtin; refine wp_appW _ rfl _ _ rfl wr.heap.size l _ _ rfl rfl hO.out hA1.out hnH.out (by rw [hnn.out]; omega) (by simp) ?_; intro v' w2 hO' hb'; have hO' := hid hO'; have k2 := hid (bl_step hw.out ((al' wr _).trans hb')))
        | (go_at_call 13; refine (GS.out v' w2 hO'.out).mono ?_; clear GS; rintro e w3 ⟨rfl, hc3⟩; have k3 := hid (bl_step k2.out hc3); have hV3 := hid (hH.out.keep k3.out))
        | (go_at_call 14; refine (GR.out _ w3 hV3.out).mono ?_; clear GR; rintro e w4 ⟨rfl, hc4⟩; subst w4))
      go_ret
      exact ⟨by simp, k3.out⟩

end Go.Proofs.Ytkpakpfjgeannaa
