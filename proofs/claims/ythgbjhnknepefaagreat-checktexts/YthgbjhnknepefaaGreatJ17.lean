/- gram.sides, side, keyword. Slices copied: any rows; rows of three of which the middle one changes. Slices of things whose cells are told by a list, and back. A row of three of which the middle one is copied, beside a box: what a loop holds. -/
import Derived.Test.YthgbjhnknepefaaGreatJ14
import Derived.Test.YthgbjhnknepefaaGreatJ16
import Derived.Deep.Strs
namespace Go.Proofs.YthgbjhnknepefaaGreat
open Go.RowKit Go.Maps Go.Sort

abbrev sidesV : Value := .agg #[.string ⟨#[]⟩, .string ⟨#[108, 101, 102, 116]⟩, .string ⟨#[114, 105, 103, 104, 116]⟩, .string ⟨#[110, 111, 110, 101]⟩]
set_option maxRecDepth 20000 in
theorem sidesC (w : World) : Calls Tryz.prog 93 #[] w fun e w' => e = .returned sidesV ∧ Below w.heap.size w w' := by
  have hb := hid (al' w (.cells #[.string ⟨#[]⟩, .string ⟨#[108, 101, 102, 116]⟩, .string ⟨#[114, 105, 103, 104, 116]⟩, .string ⟨#[110, 111, 110, 101]⟩] 125))
  go_enter Tryz.func93, Tryz.ntmps93
  go_wp2
  refine bodyPost_ret (v := sidesV) (by simp [results, Tryz.results93, go_sem]) rfl ⟨rfl, ?_⟩
  exact hb.out
set_option maxRecDepth 20000 in
theorem ixS (w : World) : (Instr.index 125 sidesV (.int .i64 0)).run Tryz.prog w = .ok (.string ⟨#[]⟩) w ∧ (Instr.index 125 sidesV (.int .i64 1)).run Tryz.prog w = .ok (.string ⟨#[108, 101, 102, 116]⟩) w ∧ (Instr.index 125 sidesV (.int .i64 2)).run Tryz.prog w = .ok (.string ⟨#[114, 105, 103, 104, 116]⟩) w ∧ (Instr.index 125 sidesV (.int .i64 3)).run Tryz.prog w = .ok (.string ⟨#[110, 111, 110, 101]⟩) w := by
  refine ⟨?_, ?_, ?_, ?_⟩
  all_goals
    simp [Instr.index, run_underlying Tryz.underlying125, asIntOf, go_sem, part, isAgg, run_underlying Tryz.underlying9]
/-- a text that is one, or is none -/
theorem strT_is {t u : Txt} (h : t = u) : ((strT t).toList == u) = true := by rw [h, strT_toL, beq_self_eq_true]
theorem strT_isnt {t u : Txt} (h : ¬ t = u) : ((strT t).toList == u) = false := by rw [strT_toL, beq_eq_false_iff_ne]; exact h
theorem strT_is' {t u : Txt} (h : t = u) : (u == (strT t).toList) = true := by rw [h, strT_toL, beq_self_eq_true]
theorem strT_isnt' {t u : Txt} (h : ¬ t = u) : (u == (strT t).toList) = false := by rw [strT_toL, beq_eq_false_iff_ne]; exact fun e => h e.symm
theorem strT_emp {t : Txt} (h : t = []) : (strT t).toList.isEmpty = true := by rw [h, strT_toL]; rfl
theorem strT_nemp {t : Txt} (h : ¬ t = []) : (strT t).toList.isEmpty = false := by rw [strT_toL]; cases t with | nil => exact absurd rfl h | cons _ _ => rfl
set_option maxRecDepth 20000 in
set_option maxHeartbeats 4000000 in
theorem sideC (t : Txt) (w : World) : Calls Tryz.prog 64 #[.string (strT t)] w fun e w' => e = .returned (.int .i64 (sdN t : Int)) ∧ Below w.heap.size w w' := by
  have GC := hid (sidesC w)
  have hI := hid (fun x => ixS x)
  have h0 : Hid (t = [] → sdN t = 0) := hid (fun h => by rw [h]; rfl)
  have h1 : Hid (t = kLeft → sdN t = 1) := hid (fun h => by rw [h]; rfl)
  have h2 : Hid (t = kRight → sdN t = 2) := hid (fun h => by rw [h]; rfl)
  have h3 : Hid (t = kNone → sdN t = 3) := hid (fun h => by rw [h]; rfl)
  have h4 : Hid (¬ t = kLeft → ¬ t = kRight → ¬ t = kNone → sdN t = 0) := hid (fun a b c => by unfold sdN; rw [if_neg a, if_neg b, if_neg c])
  generalize sdN t = n at *
  go_enter Tryz.func64, Tryz.ntmps64
  go_wp2_with (go_at_call 93; refine GC.out.mono ?_; clear GC; rintro e w2 ⟨rfl, hc2⟩; have hc2 := hid hc2)
  go_loopw [6] (fun x wr => ∃ k : Nat, k ≤ 4 ∧ x = .int .i64 (k : Int) ∧ Hid ((1 < k → ¬ t = kLeft) ∧ (2 < k → ¬ t = kRight) ∧ (3 < k → ¬ t = kNone)) ∧ Hid (Below w.heap.size w wr)) (fun x _ => 4 - (intOf x).toNat)
  case atStart => exact ⟨0, by omega, rfl, hid ⟨fun h => absurd h (by omega), fun h => absurd h (by omega), fun h => absurd h (by omega)⟩, hc2⟩
  case round =>
    obtain ⟨k, hk, rfl, hn, hw⟩ := hrel
    by_cases hlt : k < 4
    · obtain ⟨i0, i1, i2, i3⟩ := hI.out wr
      have hk4 : k = 0 ∨ k = 1 ∨ k = 2 ∨ k = 3 := by omega
      rcases hk4 with rfl | rfl | rfl | rfl
      · clear i1 i2 i3
        by_cases ht : t = []
        · have hb := strT_emp ht
          have := h0.out ht
          subst this
          generalize strT t = S at *
          go_wp2
          go_ret
          exact ⟨rfl, hw.out⟩
        · have hb := strT_nemp ht
          have hs2 : Hid (Below w.heap.size w wr) := hw
          generalize strT t = S at *
          go_wp2
          go_roundw
          case rel => exact ⟨1, by omega, by go_num, hid ⟨fun h => absurd h (by omega), fun h => absurd h (by omega), fun h => absurd h (by omega)⟩, hs2⟩
          case measure => simp [intOf]
      · clear i0 i2 i3
        by_cases ht : t = kLeft
        · have hb : (([108, 101, 102, 116] : Txt) == (strT t).toList) = true := strT_is' ht
          have := h1.out ht
          subst this
          generalize strT t = S at *
          go_wp2
          go_ret
          exact ⟨rfl, hw.out⟩
        · have hb : (([108, 101, 102, 116] : Txt) == (strT t).toList) = false := strT_isnt' ht
          have hs2 : Hid (Below w.heap.size w wr) := hw
          generalize strT t = S at *
          go_wp2
          go_roundw
          case rel => exact ⟨2, by omega, by go_num, hid ⟨fun _ => ht, fun h => absurd h (by omega), fun h => absurd h (by omega)⟩, hs2⟩
          case measure => simp [intOf]
      · clear i0 i1 i3
        by_cases ht : t = kRight
        · have hb : (([114, 105, 103, 104, 116] : Txt) == (strT t).toList) = true := strT_is' ht
          have := h2.out ht
          subst this
          generalize strT t = S at *
          go_wp2
          go_ret
          exact ⟨rfl, hw.out⟩
        · have hb : (([114, 105, 103, 104, 116] : Txt) == (strT t).toList) = false := strT_isnt' ht
          have hs2 : Hid (Below w.heap.size w wr) := hw
          generalize strT t = S at *
          go_wp2
          go_roundw
          case rel => exact ⟨3, by omega, by go_num, hid ⟨fun _ => hn.out.1 (by omega), fun _ => ht, fun h => absurd h (by omega)⟩, hs2⟩
          case measure => simp [intOf]
      · clear i0 i1 i2
        by_cases ht : t = kNone
        · have hb : (([110, 111, 110, 101] : Txt) == (strT t).toList) = true := strT_is' ht
          have := h3.out ht
          subst this
          generalize strT t = S at *
          go_wp2
          go_ret
          exact ⟨rfl, hw.out⟩
        · have hb : (([110, 111, 110, 101] : Txt) == (strT t).toList) = false := strT_isnt' ht
          have hs2 : Hid (Below w.heap.size w wr) := hw
          generalize strT t = S at *
          go_wp2
          go_roundw
          case rel => exact ⟨4, by omega, by go_num, hid ⟨fun _ => hn.out.1 (by omega), fun _ => hn.out.2.1 (by omega), fun _ => ht⟩, hs2⟩
          case measure => simp [intOf]
    · have : k = 4 := by omega
      subst this
      have := h4.out (hn.out.1 (by omega)) (hn.out.2.1 (by omega)) (hn.out.2.2 (by omega))
      subst this
      go_wp2
      go_ret
      exact ⟨rfl, hw.out⟩

set_option maxRecDepth 20000 in
set_option maxHeartbeats 4000000 in
theorem keywordC (t : Txt) (w : World) : Calls Tryz.prog 107 #[.string (strT t)] w fun e w' => e = .returned (.bool (kwB t)) ∧ Below w.heap.size w w' := by
  have GS := hid (fun u => sideC t u)
  obtain ⟨R, hR⟩ : ∃ R, Hid (kwB t = R) := ⟨_, hid rfl⟩
  rw [hR.out]
  unfold kwB at hR
  generalize sdN t = n at *
  by_cases h1 : t = kTok
  · have hb1 : ((strT t).toList == ([116, 111, 107, 101, 110] : Txt)) = true := strT_is h1
    rw [decide_eq_true h1, Bool.true_or, Bool.true_or, Bool.true_or] at hR
    obtain rfl := hR.out
    generalize strT t = S at *
    clear h1 hR
    go_enter Tryz.func107, Tryz.ntmps107
    go_wp2_with fail
    go_ret
    exact ⟨rfl, Below.refl _ _⟩
  have hb1 : ((strT t).toList == ([116, 111, 107, 101, 110] : Txt)) = false := strT_isnt h1
  rw [decide_eq_false h1, Bool.false_or] at hR
  by_cases h2 : t = kSkip
  · have hb2 : ((strT t).toList == ([115, 107, 105, 112] : Txt)) = true := strT_is h2
    rw [decide_eq_true h2, Bool.true_or, Bool.true_or] at hR
    obtain rfl := hR.out
    generalize strT t = S at *
    clear h1 h2 hR
    go_enter Tryz.func107, Tryz.ntmps107
    go_wp2_with fail
    go_ret
    exact ⟨rfl, Below.refl _ _⟩
  have hb2 : ((strT t).toList == ([115, 107, 105, 112] : Txt)) = false := strT_isnt h2
  rw [decide_eq_false h2, Bool.false_or] at hR
  by_cases h3 : t = kStart
  · have hb3 : ((strT t).toList == ([115, 116, 97, 114, 116] : Txt)) = true := strT_is h3
    rw [decide_eq_true h3, Bool.true_or] at hR
    obtain rfl := hR.out
    generalize strT t = S at *
    clear h1 h2 h3 hR
    go_enter Tryz.func107, Tryz.ntmps107
    go_wp2_with fail
    go_ret
    exact ⟨rfl, Below.refl _ _⟩
  have hb3 : ((strT t).toList == ([115, 116, 97, 114, 116] : Txt)) = false := strT_isnt h3
  rw [decide_eq_false h3, Bool.false_or] at hR
  clear h1 h2 h3
  generalize strT t = S at *
  rcases Nat.eq_zero_or_pos n with h4 | h4
  · subst h4
    obtain rfl : false = R := hR.out
    clear hR
    go_enter Tryz.func107, Tryz.ntmps107
    go_wp2_with (go_at_call 64; refine (GS.out _).mono ?_; clear GS; rintro e w2 ⟨rfl, hc2⟩; have hc2 := hid hc2)
    go_ret
    exact ⟨rfl, hc2.out⟩
  · rw [decide_eq_true h4] at hR
    obtain rfl := hR.out
    clear hR
    have h4z : (0 : Int) < (n : Int) := by omega
    go_enter Tryz.func107, Tryz.ntmps107
    go_wp2_with (go_at_call 64; refine (GS.out _).mono ?_; clear GS; rintro e w2 ⟨rfl, hc2⟩; have hc2 := hid hc2)
    go_ret
    exact ⟨by simp, hc2.out⟩

end Go.Proofs.YthgbjhnknepefaaGreat
namespace Go.Proofs.YthgbjhnknepefaaGreat
open Go.RowKit Go.Maps Go.Sort

/-- a slice of n things of sz cells each that holds the cells xs, wherever it lies -/
def Rw (sz : Nat) (w : World) (v : Value) (n : Nat) (xs : List Value) : Prop := ∃ a cap, v = .slice a n cap ∧ (a = none → cap = 0) ∧ xs.length = n * sz ∧ (∀ u ∈ xs, u.oneCell' = true) ∧ ∀ j u, xs[j]? = some u → ∃ b o, a = some ⟨b, o, none⟩ ∧ b < w.heap.size ∧ w.cell? ⟨b, o + j, none⟩ = some u
theorem Rw.keep {sz : Nat} {w u : World} {v : Value} {n : Nat} {xs : List Value} (h : Rw sz w v n xs) (hu : Below w.heap.size w u) : Rw sz u v n xs := by
  obtain ⟨a, cap, e, hn, hl, h1, hat⟩ := h
  refine ⟨a, cap, e, hn, hl, h1, fun j x hj => ?_⟩
  obtain ⟨b, o, e1, h2, h3⟩ := hat j x hj
  exact ⟨b, o, e1, Nat.lt_of_lt_of_le h2 hu.size, keep_cell hu h3⟩
/-- rows of three -/
def rw3 (n : Nat) (p f q : Nat → Value) : List Value := (List.range n).flatMap fun j => [p j, f j, q j]
theorem rw3_succ (n : Nat) (p f q : Nat → Value) : rw3 (n + 1) p f q = rw3 n p f q ++ [p n, f n, q n] := by
  unfold rw3
  rw [List.range_succ, List.flatMap_append, List.flatMap_singleton]
theorem rw3_len (p f q : Nat → Value) : ∀ n, (rw3 n p f q).length = n * 3
  | 0 => rfl
  | n + 1 => by rw [rw3_succ, List.length_append, rw3_len p f q n]; show _ + 3 = _; omega
def upd (f : Nat → Value) (k : Nat) (x : Value) : Nat → Value := fun j => if j = k then x else f j
theorem rw3_far (p f q : Nat → Value) (k : Nat) (x : Value) : ∀ n, n ≤ k → rw3 n p (upd f k x) q = rw3 n p f q
  | 0, _ => rfl
  | n + 1, h => by
    rw [rw3_succ, rw3_succ, rw3_far p f q k x n (by omega)]
    have : upd f k x n = f n := if_neg (by omega)
    rw [this]
theorem rw3_set (p f q : Nat → Value) (k : Nat) (x : Value) : ∀ n, k < n → (rw3 n p f q).set (k * 3 + 1) x = rw3 n p (upd f k x) q
  | 0, h => absurd h (Nat.not_lt_zero _)
  | n + 1, h => by
    have hl := rw3_len p f q n
    rw [rw3_succ, rw3_succ]
    rcases Nat.lt_or_ge k n with h1 | h1
    · rw [List.set_append_left _ _ (by omega), rw3_set p f q k x n h1]
      have : upd f k x n = f n := if_neg (by omega)
      rw [this]
    · obtain rfl : k = n := by omega
      rw [List.set_append_right _ _ (by omega), hl, Nat.add_sub_cancel_left, rw3_far p f q k x k (Nat.le_refl _)]
      have : upd f k x k = x := if_pos rfl
      rw [this]
      rfl
/-- a cell of an own row changed -/
theorem own_put {w : World} {B n size g cap i : Nat} {e : TypeId} {xs : List Value} (h : w.ownsRow B e size (.slice (some ⟨g, 0, none⟩) n cap) n xs) (x : Value) : (w.setCell ⟨g, i, none⟩ x).ownsRow B e size (.slice (some ⟨g, 0, none⟩) n cap) n (xs.set i x) := by
  refine ⟨by rw [List.length_set]; exact h.1, ?_⟩
  rcases h.2 with ⟨h1, _⟩ | ⟨g', cap', cur, h1, h2, h3, h4, h5, h6, h7⟩
  · cases h1
  · have h8 := h1
    injection h1 with e1 _ e3
    injection e1 with e1
    injection e1 with e1 _ _
    subst e1 e3
    refine .inr ⟨g, cap, cur.setIfInBounds i x, rfl, h2, heap_setCell h3, h4, h5, by rw [Array.size_setIfInBounds]; exact h6, ?_⟩
    rw [Array.toList_setIfInBounds, List.take_set, h7]
theorem own_block {w : World} {B n size g cap : Nat} {e : TypeId} {xs : List Value} (h : w.ownsRow B e size (.slice (some ⟨g, 0, none⟩) n cap) n xs) : ∃ cur, w.heap[g]? = some (.cells cur e (0, 0)) ∧ B ≤ g := by
  rcases h.2 with ⟨h1, _⟩ | ⟨g', cap', cur, h1, h2, h3, _⟩
  · cases h1
  · injection h1 with e1 _ e3
    injection e1 with e1
    injection e1 with e1 _ _
    subst e1
    exact ⟨cur, h3, h2⟩
/-- no cell of a slice lies in the blocks F -/
def OffP (F : Nat → Prop) (v : Value) : Prop := ∀ a n c, v = .slice (some a) n c → 0 < n → ¬ F a.block
theorem Cels.keptP {F : Nat → Prop} {w w' : World} {v : Value} {l : List Cel} (h : Cels w v l) (hk : Kept F w w') (ho : OffP F v) : Cels w' v l := by
  obtain ⟨a, cap, rfl, hc, hn, hf, hat⟩ := h
  refine ⟨a, cap, rfl, hc, hn, hf, fun j hj => ?_⟩
  obtain ⟨b, o, rfl, hlt, h5⟩ := hat j hj
  have hn : ¬ F b := ho _ _ _ rfl (by omega)
  obtain ⟨x0, x1, x2, x3, x4⟩ := h5
  exact ⟨b, o, rfl, Nat.lt_of_lt_of_le hlt hk.size, hk.cell x0 hlt hn, hk.cell x1 hlt hn, hk.cell x2 hlt hn, hk.cell x3 hlt hn, hk.cell x4 hlt hn⟩
theorem Nums.keptP {F : Nat → Prop} {w w' : World} {v : Value} {l : List Int} (h : Nums w v l) (hk : Kept F w w') (ho : OffP F v) : Nums w' v l := by
  obtain ⟨a, cap, rfl, hc, hn, hat⟩ := h
  refine ⟨a, cap, rfl, hc, hn, fun j hj => ?_⟩
  obtain ⟨b, o, rfl, hlt, h5⟩ := hat j hj
  have hn : ¬ F b := ho _ _ _ rfl (by omega)
  exact ⟨b, o, rfl, Nat.lt_of_lt_of_le hlt hk.size, hk.cell h5 hlt hn⟩
theorem Cels.off {F : Nat → Prop} {w : World} {v : Value} {l : List Cel} (h : Cels w v l) (hF : ∀ b, b < w.heap.size → ¬ F b) : OffP F v := fun a n c e hn => by
  obtain ⟨a', cap, e', _, _, _, hat⟩ := h
  rw [e'] at e
  injection e with e1 e2 e3
  subst e2
  obtain ⟨b, o, e4, hlt, _⟩ := hat 0 hn
  rw [e4] at e1
  injection e1 with e1
  subst e1
  exact hF b hlt
theorem Nums.off {F : Nat → Prop} {w : World} {v : Value} {l : List Int} (h : Nums w v l) (hF : ∀ b, b < w.heap.size → ¬ F b) : OffP F v := fun a n c e hn => by
  obtain ⟨a', cap, e', _, _, hat⟩ := h
  rw [e'] at e
  injection e with e1 e2 e3
  subst e2
  obtain ⟨b, o, e4, hlt, _⟩ := hat 0 hn
  rw [e4] at e1
  injection e1 with e1
  subst e1
  exact hF b hlt
theorem own_off {F : Nat → Prop} {w : World} {B n size : Nat} {e : TypeId} {v : Value} {xs : List Value} (h : w.ownsRow B e size v n xs) (hF : ∀ b, B ≤ b → ¬ F b) : OffP F v := fun a m c e hn => by
  rcases h.2 with ⟨rfl, _⟩ | ⟨g', cap', cur, rfl, h2, h3, _⟩
  · cases e
  · injection e with e1 _ _
    injection e1 with e1
    subst e1
    exact hF _ h2

end Go.Proofs.YthgbjhnknepefaaGreat
namespace Go.Proofs.YthgbjhnknepefaaGreat
open Go.RowKit Go.Maps Go.Sort

theorem flat_at {α : Type} {sz : Nat} (cs : α → List Value) (hc : ∀ x, (cs x).length = sz) : ∀ (l : List α) (j i : Nat) (h : j < l.length), i < sz → (l.flatMap cs)[j * sz + i]? = (cs l[j])[i]?
  | [], j, i, h, _ => absurd h (Nat.not_lt_zero _)
  | a :: l, 0, i, h, hi => by
    rw [List.flatMap_cons, Nat.zero_mul, Nat.zero_add, List.getElem?_append_left (by rw [hc]; exact hi)]
    rfl
  | a :: l, j + 1, i, h, hi => by
    have h1 : j < l.length := by simpa using h
    have e : (j + 1) * sz + i = (cs a).length + (j * sz + i) := by rw [hc, Nat.succ_mul]; omega
    rw [List.flatMap_cons, e, List.getElem?_append_right (Nat.le_add_right _ _), Nat.add_sub_cancel_left, flat_at cs hc l j i h1 hi]
    rfl
theorem own_at {α : Type} {sz : Nat} {cs : α → List Value} (hc : ∀ x, (cs x).length = sz) {w : World} {B : Nat} {e : TypeId} {v : Value} {l : List α} (_hz : 0 < sz) (h : w.ownsRow B e sz v l.length (l.flatMap cs)) :
    ∃ a cap, v = .slice a l.length cap ∧ l.length ≤ cap ∧ (a = none → cap = 0) ∧ ∀ j (h : j < l.length), ∃ b o, a = some ⟨b, o, none⟩ ∧ b < w.heap.size ∧ ∀ i, i < sz → w.cell? ⟨b, o + j * sz + i, none⟩ = (cs l[j])[i]? := by
  have h' := h
  rcases h.2 with ⟨rfl, h0⟩ | ⟨g, cap, cur, rfl, _, _, hc', _⟩
  · exact ⟨none, 0, by rw [h0], by omega, fun _ => rfl, fun j hj => by omega⟩
  · refine ⟨_, cap, rfl, hc', (fun h => by cases h), fun j hj => ⟨g, 0, rfl, (h'.lt g rfl).2, fun i hi => ?_⟩⟩
    rw [Nat.zero_add, ← flat_at cs hc l j i hj hi]
    refine h'.cellAt (j * sz + i) ?_
    have h1 : (j + 1) * sz ≤ l.length * sz := Nat.mul_le_mul_right _ hj
    rw [Nat.succ_mul] at h1
    omega
/-- the cells of things -/
def csT (t : Txt) : List Value := [.string (strT t)]
def csL (p : Int × Int) : List Value := [.int .i64 p.1, .int .i64 p.2]
def csI (n : Int) : List Value := [.int .i64 n]
theorem txt_own {w : World} {B : Nat} {e : TypeId} {v : Value} {l : List Txt} (h : w.ownsRow B e 1 v l.length (l.flatMap csT)) : Lst 1 TxtAt w v l := by
  obtain ⟨a, cap, e, hc, hn, hat⟩ := own_at (sz := 1) (cs := csT) (fun _ => rfl) (by decide) h
  refine ⟨a, cap, e, hc, hn, fun j hj => ?_⟩
  obtain ⟨b, o, e, hlt, hx⟩ := hat j hj
  exact ⟨b, o, e, hlt, hx 0 (by decide)⟩
theorem lev_own {w : World} {B : Nat} {e : TypeId} {v : Value} {l : List (Int × Int)} (h : w.ownsRow B e 2 v l.length (l.flatMap csL)) : Lst 2 LevAt w v l := by
  obtain ⟨a, cap, e, hc, hn, hat⟩ := own_at (sz := 2) (cs := csL) (fun _ => rfl) (by decide) h
  refine ⟨a, cap, e, hc, hn, fun j hj => ?_⟩
  obtain ⟨b, o, e, hlt, hx⟩ := hat j hj
  exact ⟨b, o, e, hlt, hx 0 (by decide), hx 1 (by decide)⟩
theorem nums_own {w : World} {B : Nat} {e : TypeId} {v : Value} {l : List Int} (h : w.ownsRow B e 1 v l.length (l.flatMap csI)) : Nums w v l := by
  obtain ⟨a, cap, e, hc, hn, hat⟩ := own_at (sz := 1) (cs := csI) (fun _ => rfl) (by decide) h
  refine ⟨a, cap, e, hc, hn, fun j hj => ?_⟩
  obtain ⟨b, o, e, hlt, hx⟩ := hat j hj
  have h0 := hx 0 (by decide)
  rw [Nat.mul_one] at h0
  exact ⟨b, o, e, hlt, h0⟩
end Go.Proofs.YthgbjhnknepefaaGreat
namespace Go.Proofs.YthgbjhnknepefaaGreat
open Go.RowKit Go.Maps Go.Sort

structure RestOf (R : Prop) : Prop where
  out : R
theorem collapse {R G : Prop} (h : RestOf R → G) (pf : R) : G := h ⟨pf⟩
/-- the two boxes -/
def bxF (q : Nat) : Nat → Prop := fun b => b = q ∨ b = q + 1
def bxG (q : Nat) (v : Value) : Nat → Prop := fun b => b = q ∨ b = q + 1 ∨ v.ownBlock = some b
abbrev gmO (x0 x1 x2 x3 : Value) (st : Int) : Obj := .cells #[x0, x1, x2, x3, .int .i64 st] 27
structure Cp3 (w wB : World) (q B : Nat) (te : TypeId) (bx : Obj) (v : Value) (n : Nat) (p r : Nat → Value) (M : World → Value → Nat → Prop) (f : Nat → Value) (wr : World) : Prop where
  low : Below w.heap.size w wr
  box : wr.heap[q]? = some bx
  res : wr.heap[q + 1]? = some (gmO (.slice none 0 0) (.slice none 0 0) (.slice none 0 0) (.slice none 0 0) 0)
  own : wr.ownsRow B te 3 v n (rw3 n p f r)
  mid : ∀ j, j < n → M wr (f j) j ∧ OffP (bxG q v) (f j)
  base : Kept (bxF q) wB wr
/-- what stands of a thing stands where its blocks stand -/
def Firm (M : World → Value → Nat → Prop) : Prop := ∀ (F : Nat → Prop) (w w' : World) (v : Value) (j : Nat), M w v j → Kept F w w' → OffP F v → M w' v j
theorem below_kept {w w' : World} (h : Below w.heap.size w w') (F : Nat → Prop) : Kept F w w' := ⟨h.os, h.tape, h.output, h.size, fun k hk _ => h.block k hk⟩
theorem OffP.mono {F G : Nat → Prop} {v : Value} (h : OffP F v) (hG : ∀ b, G b → F b) : OffP G v := fun a n c e hn hg => h a n c e hn (hG _ hg)
/-- one more is copied -/
theorem Cp3.put {w wB wr w' : World} {q B n g c k : Nat} {te : TypeId} {bx : Obj} {p r f : Nat → Value} {M : World → Value → Nat → Prop} (h : Cp3 w wB q B te bx (.slice (some ⟨g, 0, none⟩) n c) n p r M f wr) (hM : Firm M)
    (hw : w.heap.size ≤ q) (hB : q + 2 ≤ B) (hBB : wB.heap.size ≤ B) (hu : Below wr.heap.size wr w') (hk : k < n) {x : Value} (hx : M w' x k) (hxo : OffP (fun b => b < wr.heap.size) x) :
    Cp3 w wB q B te bx (.slice (some ⟨g, 0, none⟩) n c) n p r M (upd f k x) (w'.setCell ⟨g, k * 3 + 1, none⟩ x) := by
  obtain ⟨cur, hg, hgB⟩ := own_block h.own
  have hgl := blk_lt hg
  have hq := blk_lt h.box
  have hq1 := blk_lt h.res
  have hks : Kept (bxG q (.slice (some ⟨g, 0, none⟩) n c)) w' (w'.setCell ⟨g, k * 3 + 1, none⟩ x) := (Kept.refl _ w').setCell (fun _ => .inr (.inr rfl))
  refine ⟨?_, ?_, ?_, ?_, ?_, ?_⟩
  · exact bl_set (h.low.trans (hu.mono h.low.size)) _ _ _ (by omega)
  · rw [Below.heap_setCell w' ⟨g, k * 3 + 1, none⟩ x q (by show q ≠ g; omega)]
    exact hs_keep h.box hu
  · rw [Below.heap_setCell w' ⟨g, k * 3 + 1, none⟩ x (q + 1) (by show q + 1 ≠ g; omega)]
    exact hs_keep h.res hu
  · have h1 := own_put (i := k * 3 + 1) (own_below h.own hu) x
    rw [rw3_set p f r k x n hk] at h1
    exact h1
  · intro j hj
    by_cases hjk : j = k
    · subst hjk
      have e : upd f j x j = x := if_pos rfl
      rw [e]
      have ho : OffP (bxG q (.slice (some ⟨g, 0, none⟩) n c)) x := hxo.mono (fun b hb => by
        rcases hb with rfl | rfl | hb
        · exact hq
        · exact hq1
        · have : g = b := by injection hb
          subst this
          exact hgl)
      exact ⟨hM _ _ _ _ _ hx hks ho, ho⟩
    · have e : upd f k x j = f j := if_neg hjk
      rw [e]
      obtain ⟨h1, h2⟩ := h.mid j hj
      exact ⟨hM _ _ _ _ _ (hM _ _ _ _ _ h1 (below_kept hu _) h2) hks h2, h2⟩
  · exact (h.base.step (below_kept hu (bxF q)) (fun k _ h => h)).setCell (fun hb => absurd hb (by show ¬ g < wB.heap.size; omega))
/-- what was copied stands while only the boxes change -/
theorem Cp3.later {w wB wr W : World} {q B n : Nat} {te : TypeId} {bx : Obj} {v : Value} {p r f : Nat → Value} {M : World → Value → Nat → Prop} (h : Cp3 w wB q B te bx v n p r M f wr) (hM : Firm M) (hB : q + 2 ≤ B) (hK : Kept (bxF q) wr W) :
    W.ownsRow B te 3 v n (rw3 n p f r) ∧ ∀ j, j < n → M W (f j) j := by
  refine ⟨own_kept h.own hK (fun k hk hf => ?_), fun j hj => ?_⟩
  · have := (h.own.lt k hk).1
    rcases hf with rfl | rfl <;> omega
  · obtain ⟨h1, h2⟩ := h.mid j hj
    exact hM _ _ _ _ _ h1 hK (h2.mono (fun b hb => by
      rcases hb with h9 | h9
      · exact .inl h9
      · exact .inr (.inl h9)))
set_option maxRecDepth 20000 in
/-- an append whose run is known -/
theorem wp_run {ops : Array Oper} {rest : List Oper} {o : Oper} {a : Act} {Q : Exit → Act → World → Prop} (w : World) (hgd : o.guard = none) (s x : Operand) (t : TypeId)
    (ho : o.op = .call { callee := .builtin .append, args := #[s, x], argTypes := #[t, t] }) (v vx : Value) (hs : a.eval s = v) (hx : a.eval x = vx) {v' : Value} {w' : World}
    (hr : (Builtin.append_ #[t, t] o.type #[v, vx]).run Tryz.prog w = .ok v' w') (h : wpList Tryz.prog ops Q rest (a.put o.dst v') w') : wpList Tryz.prog ops Q (o :: rest) a w := by
  refine wpList_plain hgd fun K hK => ?_
  unfold Oper.wp execOp
  simp only [ho, resolve, invoke, builtin, Sem.run_bind, Sem.run_pure, Result.andThen_ok, List.map_toArray, List.map_cons, List.map_nil, hs, hx, hr]
  exact hK _ _ h
set_option maxRecDepth 20000 in
theorem step_run {ops : Array Oper} {o : Oper} {a : Act} {w : World} {K : Act → World → Prop} {Q : Exit → Act → World → Prop} {E : Prop} (hgd : o.guard = none) (s x : Operand) (t : TypeId)
    (ho : o.op = .call { callee := .builtin .append, args := #[s, x], argTypes := #[t, t] }) (v vx : Value) (hs : a.eval s = v) (hx : a.eval x = vx) {v' : Value} {w' : World}
    (hr : (Builtin.append_ #[t, t] o.type #[v, vx]).run Tryz.prog w = .ok v' w') (h : K (a.put o.dst v') w') : if Region.wanted o (yielded ops a.tmps) = true then Oper.wp Tryz.prog o a w K Q else E := by
  have hw : Region.wanted o (yielded ops a.tmps) = true := by simp [Region.wanted, hgd]
  rw [if_pos hw]
  unfold Oper.wp
  simp [execOp, ho, resolve, invoke, builtin, hs, hx, hr, Result.andThen]
  exact h

/-- five cells stored into a block of five -/
theorem putT5 {u : World} {b t : Nat} {x0 x1 x2 x3 x4 : Value} (h : u.heap[b]? = some (.cells #[x0, x1, x2, x3, x4] t (0, 0))) (v0 v1 v2 v3 v4 : Value) :
    (u.cell? ⟨b, 0, none⟩ = some x0 ∧ u.frozen? ⟨b, 0, none⟩ = false) ∧
    ((u.setCell ⟨b, 0, none⟩ v0).cell? ⟨b, 1, none⟩ = some x1 ∧ (u.setCell ⟨b, 0, none⟩ v0).frozen? ⟨b, 1, none⟩ = false) ∧
    (((u.setCell ⟨b, 0, none⟩ v0).setCell ⟨b, 1, none⟩ v1).cell? ⟨b, 2, none⟩ = some x2 ∧ ((u.setCell ⟨b, 0, none⟩ v0).setCell ⟨b, 1, none⟩ v1).frozen? ⟨b, 2, none⟩ = false) ∧
    ((((u.setCell ⟨b, 0, none⟩ v0).setCell ⟨b, 1, none⟩ v1).setCell ⟨b, 2, none⟩ v2).cell? ⟨b, 3, none⟩ = some x3 ∧ (((u.setCell ⟨b, 0, none⟩ v0).setCell ⟨b, 1, none⟩ v1).setCell ⟨b, 2, none⟩ v2).frozen? ⟨b, 3, none⟩ = false) ∧
    (((((u.setCell ⟨b, 0, none⟩ v0).setCell ⟨b, 1, none⟩ v1).setCell ⟨b, 2, none⟩ v2).setCell ⟨b, 3, none⟩ v3).cell? ⟨b, 4, none⟩ = some x4 ∧ ((((u.setCell ⟨b, 0, none⟩ v0).setCell ⟨b, 1, none⟩ v1).setCell ⟨b, 2, none⟩ v2).setCell ⟨b, 3, none⟩ v3).frozen? ⟨b, 4, none⟩ = false) ∧
    (((((u.setCell ⟨b, 0, none⟩ v0).setCell ⟨b, 1, none⟩ v1).setCell ⟨b, 2, none⟩ v2).setCell ⟨b, 3, none⟩ v3).setCell ⟨b, 4, none⟩ v4).heap[b]? = some (.cells #[v0, v1, v2, v3, v4] t (0, 0)) := by
  have h1 : (u.setCell ⟨b, 0, none⟩ v0).heap[b]? = some (.cells #[v0, x1, x2, x3, x4] t (0, 0)) := heap_setCell h
  have h2 : ((u.setCell ⟨b, 0, none⟩ v0).setCell ⟨b, 1, none⟩ v1).heap[b]? = some (.cells #[v0, v1, x2, x3, x4] t (0, 0)) := heap_setCell h1
  have h3 : (((u.setCell ⟨b, 0, none⟩ v0).setCell ⟨b, 1, none⟩ v1).setCell ⟨b, 2, none⟩ v2).heap[b]? = some (.cells #[v0, v1, v2, x3, x4] t (0, 0)) := heap_setCell h2
  have h4 : ((((u.setCell ⟨b, 0, none⟩ v0).setCell ⟨b, 1, none⟩ v1).setCell ⟨b, 2, none⟩ v2).setCell ⟨b, 3, none⟩ v3).heap[b]? = some (.cells #[v0, v1, v2, v3, x4] t (0, 0)) := heap_setCell h3
  exact ⟨⟨blk_cell h rfl, blk_frozen h 0⟩, ⟨blk_cell h1 rfl, blk_frozen h1 1⟩, ⟨blk_cell h2 rfl, blk_frozen h2 2⟩, ⟨blk_cell h3 rfl, blk_frozen h3 3⟩, ⟨blk_cell h4 rfl, blk_frozen h4 4⟩, heap_setCell h4⟩

end Go.Proofs.YthgbjhnknepefaaGreat
