/- The fewest sets that share nothing, hold all bytes, and of which each is wholly in, or wholly out of, each of a list. The least byte of a set; the chapter's example. -/
import Derived.Test.YtgbecehggdkkmaaJ1
import Derived.Lib.TrailingZeros
namespace Go.Proofs.Ytgbecehggdkkmaa

/-- are two bytes in the same sets of a list? -/
def al (l : List W4) (a b : Nat) : Bool := l.all fun S => hasB S a == hasB S b
theorem al_iff (l : List W4) (a b : Nat) : al l a b = true ↔ ∀ S ∈ l, hasB S a = hasB S b := by
  unfold al
  rw [List.all_eq_true]
  exact ⟨fun h S hS => beq_iff_eq.1 (h S hS), fun h S hS => beq_iff_eq.2 (h S hS)⟩
theorem al_refl (l : List W4) (a : Nat) : al l a a = true := (al_iff l a a).2 fun _ _ => rfl
theorem al_symm {l : List W4} {a b : Nat} (h : al l a b = true) : al l b a = true := (al_iff l b a).2 fun S hS => ((al_iff l a b).1 h S hS).symm
theorem al_trans {l : List W4} {a b c : Nat} (h : al l a b = true) (h' : al l b c = true) : al l a c = true := (al_iff l a c).2 fun S hS => ((al_iff l a b).1 h S hS).trans ((al_iff l b c).1 h' S hS)

/-- the least byte of each part, up to a byte -/
def repN (l : List W4) : Nat → List Nat
  | 0 => []
  | k + 1 => repN l k ++ (if (repN l k).any (fun r => al l r k) then [] else [k])
theorem repN_zero (l : List W4) : repN l 0 = [] := rfl
theorem repN_old {l : List W4} {k : Nat} (h : (repN l k).any (fun r => al l r k) = true) : repN l (k + 1) = repN l k := by rw [repN, h]; simp
theorem repN_new {l : List W4} {k : Nat} (h : (repN l k).any (fun r => al l r k) = false) : repN l (k + 1) = repN l k ++ [k] := by rw [repN, h]; simp
theorem repN_lt (l : List W4) : ∀ k, ∀ r ∈ repN l k, r < k
  | 0, r, h => absurd h (List.not_mem_nil)
  | k + 1, r, h => by
    cases hk : (repN l k).any (fun r => al l r k) with
    | true => rw [repN_old hk] at h; have := repN_lt l k r h; omega
    | false =>
      rw [repN_new hk, List.mem_append, List.mem_singleton] at h
      rcases h with h | rfl
      · have := repN_lt l k r h; omega
      · omega
theorem repN_len (l : List W4) : ∀ k, (repN l k).length ≤ k
  | 0 => Nat.le_refl _
  | k + 1 => by
    have := repN_len l k
    cases hk : (repN l k).any (fun r => al l r k) with
    | true => rw [repN_old hk]; omega
    | false => rw [repN_new hk, List.length_append]; simp; omega
/-- each byte is in a part -/
theorem repN_all (l : List W4) : ∀ k x, x < k → (repN l k).any (fun r => al l r x) = true
  | 0, x, h => absurd h (by omega)
  | k + 1, x, h => by
    by_cases e : x = k
    · subst e
      cases hk : (repN l x).any (fun r => al l r x) with
      | true => rw [repN_old hk]; exact hk
      | false => rw [repN_new hk, List.any_append, hk]; simp [al_refl]
    · have ih := repN_all l k x (by omega)
      cases hk : (repN l k).any (fun r => al l r k) with
      | true => rw [repN_old hk]; exact ih
      | false => rw [repN_new hk, List.any_append, ih]; rfl
/-- and in one alone -/
theorem repN_one (l : List W4) : ∀ k, (repN l k).Pairwise (fun r r' => al l r r' = false)
  | 0 => List.Pairwise.nil
  | k + 1 => by
    cases hk : (repN l k).any (fun r => al l r k) with
    | true => rw [repN_old hk]; exact repN_one l k
    | false =>
      rw [repN_new hk]
      refine List.pairwise_append.2 ⟨repN_one l k, List.pairwise_singleton _ _, fun r hr z hz => ?_⟩
      rw [List.mem_singleton] at hz
      subst hz
      have := List.any_eq_false.1 hk r hr
      simpa using this
/-- the part of a byte that none ahead is alike -/
def clsB (l : List W4) (a : Nat) : W4 := mkB fun x => al l a x
def partsB (l : List W4) : List W4 := (repN l 256).map (clsB l)
theorem cls_low {l : List W4} {a x : Nat} (h : (repN l a).any (fun r => al l r a) = false) (hx : x < a) : al l a x = false := by
  cases hax : al l a x with
  | false => rfl
  | true =>
    obtain ⟨r, hr, hrx⟩ := List.any_eq_true.1 (repN_all l a x hx)
    have h1 : al l r a = true := al_trans hrx (al_symm hax)
    have := List.any_eq_false.1 h r hr
    exact absurd h1 this
/-- what a new part holds, byte by byte from its least one on -/
theorem cls_eq {l : List W4} {a : Nat} (h : (repN l a).any (fun r => al l r a) = false) : clsB l a = mkB fun x => decide (a ≤ x) && al l a x :=
  mkB_congr fun x hx => by
    by_cases hxa : a ≤ x
    · simp [hxa]
    · rw [cls_low h (by omega)]; simp

/-! ### all parts together -/
def sumN (f : Nat → Nat) : List Nat → Nat
  | [] => 0
  | r :: t => f r + sumN f t
theorem sumN_add (f g : Nat → Nat) : ∀ t, sumN (fun r => f r + g r) t = sumN f t + sumN g t
  | [] => rfl
  | r :: t => by rw [sumN, sumN, sumN, sumN_add f g t]; omega
theorem sumN_zero {f : Nat → Nat} : ∀ {t : List Nat}, (∀ r ∈ t, f r = 0) → sumN f t = 0
  | [], _ => rfl
  | r :: t, h => by rw [sumN, h r List.mem_cons_self, sumN_zero fun r' hr' => h r' (List.mem_cons_of_mem _ hr')]
/-- of those that are apart from each other just one is alike a byte that one is alike -/
theorem sum_one (l : List W4) (x : Nat) : ∀ t : List Nat, t.Pairwise (fun r r' => al l r r' = false) → t.any (fun r => al l r x) = true → sumN (fun r => if al l r x then 1 else 0) t = 1
  | [], _, h => by simp at h
  | r :: t, hp, h => by
    rw [List.pairwise_cons] at hp
    rw [sumN]
    cases hr : al l r x with
    | true =>
      rw [sumN_zero]
      · rfl
      · intro r' hr'
        cases hr2 : al l r' x with
        | false => rfl
        | true =>
          have := hp.1 r' hr'
          rw [al_trans hr (al_symm hr2)] at this
          cases this
    | false =>
      have ht : t.any (fun r => al l r x) = true := by
        rw [List.any_cons, hr] at h
        simpa using h
      rw [sum_one l x t hp.2 ht]
      rfl
theorem sum_count (l : List W4) (t : List Nat) (hp : t.Pairwise (fun r r' => al l r r' = false)) (h : ∀ x, x < 256 → t.any (fun r => al l r x) = true) : ∀ k, k ≤ 256 → sumN (fun r => countN (clsB l r) k) t = k
  | 0, _ => sumN_zero fun _ _ => countN_zero _
  | k + 1, hk => by
    have ih := sum_count l t hp h k (by omega)
    have h1 := sum_one l k t hp (h k (by omega))
    have he : (fun r => countN (clsB l r) (k + 1)) = fun r => countN (clsB l r) k + (if al l r k then 1 else 0) := by
      funext r
      rw [countN_succ]
      unfold clsB
      rw [mkB_has _ k (by omega)]
    rw [he, sumN_add, ih, h1]
theorem parts_count (l : List W4) : sumN (fun r => countB (clsB l r)) (repN l 256) = 256 := by
  simp only [countB_eq]
  exact sum_count l _ (repN_one l 256) (fun x hx => repN_all l 256 x hx) 256 (Nat.le_refl _)
theorem count_pos {S : W4} {x : Nat} (hx : hasB S x = true) : ∀ k, x < k → 0 < countN S k
  | 0, h => absurd h (by omega)
  | k + 1, h => by
    rw [countN_succ]
    by_cases e : x = k
    · subst e; rw [hx]; simp
    · have := count_pos hx k (by omega); omega
theorem cls_pos (l : List W4) (r : Nat) (hr : r < 256) : 0 < countB (clsB l r) := by
  rw [countB_eq]
  exact count_pos (S := clsB l r) (x := r) (by unfold clsB; rw [mkB_has _ r hr]; exact al_refl l r) 256 hr
/-- each part is wholly in, or wholly out of, each of the list -/
theorem cls_in {l : List W4} {S : W4} (hS : S ∈ l) (r : Nat) : andB (clsB l r) S = if hasB S r then clsB l r else noneB := by
  cases hr : hasB S r with
  | true =>
    simp only [if_true]
    exact (mkB_eq (S := clsB l r) (by unfold clsB; exact mkB_fit _) fun x hx => by
      unfold clsB
      rw [mkB_has _ x hx]
      cases ha : al l r x with
      | false => rfl
      | true => rw [← (al_iff l r x).1 ha S hS, hr]; rfl).symm
  | false =>
    simp only [Bool.false_eq_true, if_false]
    exact (mkB_eq noneB_fit fun x hx => by
      rw [noneB_has]
      unfold clsB
      rw [mkB_has _ x hx]
      cases ha : al l r x with
      | false => rfl
      | true => rw [← (al_iff l r x).1 ha S hS, hr]; rfl).symm

attribute [irreducible] repN

end Go.Proofs.Ytgbecehggdkkmaa
namespace Go.Proofs.Ytgbecehggdkkmaa

theorem leastFrom_at (S : W4) (m : Nat) (hm : hasB S m = true) : ∀ n k, k ≤ m → m < k + n → (∀ x, k ≤ x → x < m → hasB S x = false) → leastFrom S k n = (m : Int)
  | 0, k, h1, h2, _ => absurd h2 (by omega)
  | n + 1, k, h1, h2, h3 => by
    rw [leastFrom_succ]
    by_cases e : k = m
    · subst e; rw [hm]; simp
    · rw [h3 k (Nat.le_refl _) (by omega)]
      simp only [Bool.false_eq_true, if_false]
      exact leastFrom_at S m hm n (k + 1) (by omega) (by omega) fun x hx hxm => h3 x (by omega) hxm
theorem least_at {S : W4} {m : Nat} (hm : hasB S m = true) (h : m < 256) (hlow : ∀ x, x < m → hasB S x = false) : leastB S = (m : Int) := by
  rw [leastB_eq]
  exact leastFrom_at S m hm 256 0 (by omega) (by omega) fun x _ hx => hlow x hx
theorem leastFrom_none (S : W4) : ∀ n k, (∀ x, k ≤ x → x < k + n → hasB S x = false) → leastFrom S k n = -1
  | 0, k, _ => leastFrom_zero S k
  | n + 1, k, h => by
    rw [leastFrom_succ, h k (Nat.le_refl _) (by omega)]
    simp only [Bool.false_eq_true, if_false]
    exact leastFrom_none S n (k + 1) fun x hx hxn => h x (by omega) (by omega)
theorem least_none {S : W4} (h : ∀ x, x < 256 → hasB S x = false) : leastB S = -1 := by
  rw [leastB_eq]
  exact leastFrom_none S 256 0 fun x _ hx => h x (by omega)

theorem ctz_bits {x : Nat} (h0 : x ≠ 0) (hx : x < 18446744073709551616) : Lib.ctz 64 x < 64 ∧ x.testBit (Lib.ctz 64 x) = true ∧ ∀ j, j < Lib.ctz 64 x → x.testBit j = false := by
  obtain ⟨hlow, hlt⟩ := Lib.lowest_bit 64 x h0 hx
  refine ⟨hlt, ?_, fun j hj => ?_⟩
  · have h1 : (x &&& (2 ^ 64 - x)).testBit (Lib.ctz 64 x) = true := by rw [hlow, Nat.testBit_two_pow_self]
    rw [Nat.testBit_and, Bool.and_eq_true] at h1
    exact h1.1
  · obtain ⟨m, hm, _⟩ := Lib.ctzFrom_spec 64 x (by omega) hx
    have e : Lib.ctz 64 x = Lib.ctzFrom 64 x := by simp [Lib.ctz, h0]
    rw [e] at hj
    generalize Lib.ctzFrom 64 x = t at hm hj
    rw [hm, Nat.testBit_two_pow_mul]
    simp; omega
theorem least_word {S : W4} (hS : Fit4 S) (i : Nat) (hi : i < 4) (h0 : S.w i ≠ 0) (hlow : ∀ k, k < i → S.w k = 0) : leastB S = ((64 * i + Lib.ctz 64 (S.w i) : Nat) : Int) := by
  obtain ⟨h1, h2, h3⟩ := ctz_bits h0 (hS.w i)
  refine least_at ?_ (by omega) fun x hx => ?_
  · unfold hasB
    rw [show (64 * i + Lib.ctz 64 (S.w i)) / 64 = i by omega, show (64 * i + Lib.ctz 64 (S.w i)) % 64 = Lib.ctz 64 (S.w i) by omega]
    exact h2
  · unfold hasB
    by_cases e : x / 64 < i
    · rw [hlow _ e, Nat.zero_testBit]
    · have e1 : x / 64 = i := by omega
      rw [e1]
      exact h3 _ (by omega)
theorem least_zero {S : W4} (h : ∀ k, k < 4 → S.w k = 0) : leastB S = -1 :=
  least_none fun x hx => by unfold hasB; rw [h _ (by omega), Nat.zero_testBit]

theorem span_ac : spanB 97 99 = ⟨0, 60129542144, 0, 0⟩ := by
  have h : ∀ x : Fin 256, hasB ⟨0, 60129542144, 0, 0⟩ x = (decide (97 ≤ x.val) && decide (x.val ≤ 99)) := by decide +kernel
  exact (mkB_eq ⟨by decide, by decide, by decide, by decide⟩ fun x hx => h ⟨x, hx⟩).symm
theorem span_bd : spanB 98 100 = ⟨0, 120259084288, 0, 0⟩ := by
  have h : ∀ x : Fin 256, hasB ⟨0, 120259084288, 0, 0⟩ x = (decide (98 ≤ x.val) && decide (x.val ≤ 100)) := by decide +kernel
  exact (mkB_eq ⟨by decide, by decide, by decide, by decide⟩ fun x hx => h ⟨x, hx⟩).symm
theorem parts_wakes : (partsB [spanB 97 99, spanB 98 100]).length = 4 := by
  unfold partsB
  rw [List.length_map, span_ac, span_bd]
  decide +kernel

end Go.Proofs.Ytgbecehggdkkmaa
