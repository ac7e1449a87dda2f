/- What a rule fits: by ways, and from place to place of a text. The fewest sets that share nothing, hold all bytes, and of which each is wholly in, or wholly out of, each of a list. The least byte of a set; the chapter's example. A set as it is told, and as it is read. -/
import Derived.Test.YtonlcnmlklaicaaGreatDoorJ3
import Derived.Test.YtonlcnmlklaicaaGreatDoorJ1
import Derived.Lib.TrailingZeros
namespace Go.Proofs.YtonlcnmlklaicaaGreatDoor

/-- what a rule fits -/
inductive Mat : Rx → Txt → Prop
  | set {S : W4} {c : UInt8} : hasB S c.toNat = true → Mat (.set S) [c]
  | eps : Mat .eps []
  | cat {a b : Rx} {s t : Txt} : Mat a s → Mat b t → Mat (.cat a b) (s ++ t)
  | orL {a b : Rx} {s : Txt} : Mat a s → Mat (.or a b) s
  | orR {a b : Rx} {s : Txt} : Mat b s → Mat (.or a b) s
  | star0 {a : Rx} : Mat (.star a) []
  | starS {a : Rx} {s t : Txt} : Mat a s → Mat (.star a) t → Mat (.star a) (s ++ t)
  | plus {a : Rx} {s t : Txt} : Mat a s → Mat (.star a) t → Mat (.plus a) (s ++ t)
  | opt0 {a : Rx} : Mat (.opt a) []
  | opt1 {a : Rx} {s : Txt} : Mat a s → Mat (.opt a) s
/-- the sets of a rule's spots -/
def setsL : Rx → List W4
  | .set S => [S]
  | .eps => []
  | .cat a b => setsL a ++ setsL b
  | .or a b => setsL a ++ setsL b
  | .star a => setsL a
  | .plus a => setsL a
  | .opt a => setsL a
theorem setsL_len : ∀ t : Rx, (setsL t).length = nSets t
  | .set _ => rfl
  | .eps => rfl
  | .cat a b => by simp [setsL, nSets, setsL_len a, setsL_len b]
  | .or a b => by simp [setsL, nSets, setsL_len a, setsL_len b]
  | .star a => setsL_len a
  | .plus a => setsL_len a
  | .opt a => setsL_len a
/-- each byte in its spot's set -/
def RdS (g : Nat → W4) : List Nat → Txt → Prop
  | [], [] => True
  | k :: u, c :: s => hasB (g k) c.toNat = true ∧ RdS g u s
  | _, _ => False
theorem RdS.app {g : Nat → W4} : ∀ {u : List Nat} {s : Txt} {v : List Nat} {t : Txt}, RdS g u s → RdS g v t → RdS g (u ++ v) (s ++ t)
  | [], [], _, _, _, h => h
  | _ :: _, _ :: _, _, _, h, h' => ⟨h.1, RdS.app h.2 h'⟩
  | [], _ :: _, _, _, h, _ => h.elim
  | _ :: _, [], _, _, h, _ => h.elim
theorem RdS.split {g : Nat → W4} : ∀ {u v : List Nat} {s : Txt}, RdS g (u ++ v) s → ∃ s1 s2, s = s1 ++ s2 ∧ RdS g u s1 ∧ RdS g v s2
  | [], _, s, h => ⟨[], s, rfl, trivial, h⟩
  | _ :: u, v, [], h => h.elim
  | k :: u, v, c :: s, h => by
    obtain ⟨s1, s2, rfl, h1, h2⟩ := RdS.split (u := u) h.2
    exact ⟨c :: s1, s2, rfl, ⟨h.1, h1⟩, h2⟩
theorem RdS.len {g : Nat → W4} : ∀ {u : List Nat} {s : Txt}, RdS g u s → u.length = s.length
  | [], [], _ => rfl
  | _ :: _, _ :: _, h => by simp [RdS.len h.2]
  | [], _ :: _, h => h.elim
  | _ :: _, [], h => h.elim
/-- the sets of the spots from n on, told by g -/
def TldG (g : Nat → W4) (t : Rx) (n : Nat) : Prop := ∀ i (h : i < (setsL t).length), g (n + i) = (setsL t)[i]
theorem TldG.left {g : Nat → W4} {a b : Rx} {n : Nat} {t : Rx} (ht : setsL t = setsL a ++ setsL b) (h : TldG g t n) : TldG g a n := fun i hi => by
  have h1 : i < (setsL t).length := by rw [ht, List.length_append]; omega
  rw [h i h1]
  simp only [ht]
  rw [List.getElem_append_left hi]
theorem TldG.right {g : Nat → W4} {a b : Rx} {n : Nat} {t : Rx} (ht : setsL t = setsL a ++ setsL b) (h : TldG g t n) : TldG g b (n + nSets a) := fun i hi => by
  have h1 : (setsL a).length + i < (setsL t).length := by rw [ht, List.length_append]; omega
  have e : n + nSets a + i = n + ((setsL a).length + i) := by rw [setsL_len, Nat.add_assoc]
  rw [e, h _ h1]
  simp only [ht]
  rw [List.getElem_append_right (by omega)]
  congr 1
  omega
theorem way_mat {t : Rx} {n : Nat} {u : List Nat} (h : Way t n u) : ∀ (g : Nat → W4) (s : Txt), TldG g t n → RdS g u s → Mat t s := by
  induction h with
  | set S n =>
    intro g s hg hr
    match s, hr with
    | [c], hr =>
      have := hg 0 (by simp [setsL])
      simp [setsL] at this
      rw [RdS, this] at hr
      exact Mat.set hr.1
  | eps n =>
    intro g s _ hr
    match s, hr with
    | [], _ => exact Mat.eps
  | cat _ _ ha hb =>
    intro g s hg hr
    obtain ⟨s1, s2, rfl, h1, h2⟩ := hr.split
    exact Mat.cat (ha g s1 (hg.left rfl) h1) (hb g s2 (hg.right rfl) h2)
  | orL _ ha => exact fun g s hg hr => Mat.orL (ha g s (hg.left rfl) hr)
  | orR _ hb => exact fun g s hg hr => Mat.orR (hb g s (hg.right rfl) hr)
  | star0 a n =>
    intro g s _ hr
    match s, hr with
    | [], _ => exact Mat.star0
  | starS _ _ ha hb =>
    intro g s hg hr
    obtain ⟨s1, s2, rfl, h1, h2⟩ := hr.split
    exact Mat.starS (ha g s1 hg h1) (hb g s2 hg h2)
  | plus _ _ ha hb =>
    intro g s hg hr
    obtain ⟨s1, s2, rfl, h1, h2⟩ := hr.split
    exact Mat.plus (ha g s1 hg h1) (hb g s2 hg h2)
  | opt0 a n =>
    intro g s _ hr
    match s, hr with
    | [], _ => exact Mat.opt0
  | opt1 _ ha => exact fun g s hg hr => Mat.opt1 (ha g s hg hr)
theorem mat_way {t : Rx} {s : Txt} (h : Mat t s) : ∀ (g : Nat → W4) (n : Nat), TldG g t n → ∃ u, Way t n u ∧ RdS g u s := by
  induction h with
  | @set S c hc =>
    intro g n hg
    have := hg 0 (by simp [setsL])
    simp [setsL] at this
    exact ⟨[n], Way.set S n, by rw [this]; exact hc, trivial⟩
  | eps => exact fun g n _ => ⟨[], Way.eps n, trivial⟩
  | cat _ _ ha hb =>
    intro g n hg
    obtain ⟨u, hu, ru⟩ := ha g n (hg.left rfl)
    obtain ⟨v, hv, rv⟩ := hb g _ (hg.right rfl)
    exact ⟨u ++ v, Way.cat hu hv, ru.app rv⟩
  | orL _ ha =>
    intro g n hg
    obtain ⟨u, hu, ru⟩ := ha g n (hg.left rfl)
    exact ⟨u, Way.orL hu, ru⟩
  | orR _ hb =>
    intro g n hg
    obtain ⟨u, hu, ru⟩ := hb g _ (hg.right rfl)
    exact ⟨u, Way.orR hu, ru⟩
  | @star0 a => exact fun g n _ => ⟨[], Way.star0 a n, trivial⟩
  | starS _ _ ha hb =>
    intro g n hg
    obtain ⟨u, hu, ru⟩ := ha g n hg
    obtain ⟨v, hv, rv⟩ := hb g n hg
    exact ⟨u ++ v, Way.starS hu hv, ru.app rv⟩
  | plus _ _ ha hb =>
    intro g n hg
    obtain ⟨u, hu, ru⟩ := ha g n hg
    obtain ⟨v, hv, rv⟩ := hb g n hg
    exact ⟨u ++ v, Way.plus hu hv, ru.app rv⟩
  | @opt0 a => exact fun g n _ => ⟨[], Way.opt0 a n, trivial⟩
  | opt1 _ ha =>
    intro g n hg
    obtain ⟨u, hu, ru⟩ := ha g n hg
    exact ⟨u, Way.opt1 hu, ru⟩
/-- a rule fits a text just if a way of its spots does -/
theorem mat_iff (t : Rx) (s : Txt) (g : Nat → W4) (n : Nat) (hg : TldG g t n) : Mat t s ↔ ∃ u, Loc t n u ∧ RdS g u s :=
  ⟨fun h => by
    obtain ⟨u, hu, hr⟩ := mat_way h g n hg
    exact ⟨u, (way_iff t n u).1 hu, hr⟩, fun ⟨u, hu, hr⟩ => way_mat ((way_iff t n u).2 hu) g s hg hr⟩

/-! ### from place to place -/
/-- a text from a place to another -/
def seg (s : Txt) (j i : Nat) : Txt := (s.take i).drop j
theorem seg_len (s : Txt) (j i : Nat) (hi : i ≤ s.length) : (seg s j i).length = i - j := by simp [seg]; omega
theorem seg_app (s : Txt) {j m i : Nat} (h1 : j ≤ m) (h2 : m ≤ i) : seg s j m ++ seg s m i = seg s j i := by
  unfold seg
  have e : s.take m = (s.take i).take m := by rw [List.take_take, Nat.min_eq_left h2]
  rw [e]
  generalize s.take i = r
  rw [← List.take_append_drop (m - j) (r.drop j), List.drop_drop, show j + (m - j) = m by omega, List.drop_take]
theorem seg_self (s : Txt) (i : Nat) : seg s i i = [] := by unfold seg; rw [List.drop_eq_nil_of_le (by simp; omega)]
theorem seg_one (s : Txt) (j : Nat) (h : j < s.length) : seg s j (j + 1) = [s[j]] := by
  unfold seg
  rw [List.take_succ_eq_append_getElem h, List.drop_append_of_le_length (by simp; omega), List.drop_eq_nil_of_le (by simp; omega), List.nil_append]
theorem seg_cut {s : Txt} {j i : Nat} (hi : i ≤ s.length) {x y : Txt} (h : seg s j i = x ++ y) (hj : j ≤ i) : ∃ m, j ≤ m ∧ m ≤ i ∧ x = seg s j m ∧ y = seg s m i := by
  have hl := congrArg List.length h
  rw [seg_len s j i hi, List.length_append] at hl
  refine ⟨j + x.length, by omega, by omega, ?_⟩
  have e := seg_app s (j := j) (m := j + x.length) (i := i) (by omega) (by omega)
  rw [h] at e
  have hx : (seg s j (j + x.length)).length = x.length := by rw [seg_len s j _ (by omega)]; omega
  have := List.append_inj e hx
  exact ⟨this.1.symm, this.2.symm⟩
/-- the places that are come to by a rule from places -/
def Stp (t : Rx) (s : Txt) (F : Nat → Prop) (i : Nat) : Prop := ∃ j, j ≤ i ∧ F j ∧ Mat t (seg s j i)
theorem stp_set (S : W4) (s : Txt) (F : Nat → Prop) (i : Nat) (hi : i ≤ s.length) : Stp (.set S) s F i ↔ ∃ j, ∃ h : j < s.length, i = j + 1 ∧ F j ∧ hasB S s[j].toNat = true := by
  constructor
  · rintro ⟨j, hj, hf, hm⟩
    have hlen := seg_len s j i hi
    generalize hs : seg s j i = x at hm hlen
    cases hm with
    | @set _ c hc =>
      have hij : i = j + 1 := by simp at hlen; omega
      subst hij
      rw [seg_one s j (by omega)] at hs
      injection hs with hs
      exact ⟨j, by omega, rfl, hf, by rw [hs]; exact hc⟩
  · rintro ⟨j, h, rfl, hf, hc⟩
    exact ⟨j, by omega, hf, by rw [seg_one s j h]; exact Mat.set hc⟩
theorem stp_eps (s : Txt) (F : Nat → Prop) (i : Nat) (hi : i ≤ s.length) : Stp .eps s F i ↔ F i := by
  constructor
  · rintro ⟨j, hj, hf, hm⟩
    have hlen := seg_len s j i hi
    generalize seg s j i = x at hm hlen
    cases hm
    have : i = j := by simp at hlen; omega
    subst this
    exact hf
  · exact fun h => ⟨i, Nat.le_refl _, h, by rw [seg_self]; exact Mat.eps⟩
theorem stp_cat (a b : Rx) (s : Txt) (F : Nat → Prop) (i : Nat) (hi : i ≤ s.length) : Stp (.cat a b) s F i ↔ Stp b s (Stp a s F) i := by
  constructor
  · rintro ⟨j, hj, hf, hm⟩
    generalize hx : seg s j i = x at hm
    cases hm with
    | cat ha hb =>
      obtain ⟨m, h1, h2, rfl, rfl⟩ := seg_cut hi hx hj
      exact ⟨m, h2, ⟨j, h1, hf, ha⟩, hb⟩
  · rintro ⟨m, h2, ⟨j, h1, hf, ha⟩, hb⟩
    exact ⟨j, by omega, hf, by rw [← seg_app s h1 h2]; exact Mat.cat ha hb⟩
theorem stp_or (a b : Rx) (s : Txt) (F : Nat → Prop) (i : Nat) : Stp (.or a b) s F i ↔ Stp a s F i ∨ Stp b s F i := by
  constructor
  · rintro ⟨j, hj, hf, hm⟩
    generalize hx : seg s j i = x at hm
    cases hm with
    | orL h => exact Or.inl ⟨j, hj, hf, by rw [hx]; exact h⟩
    | orR h => exact Or.inr ⟨j, hj, hf, by rw [hx]; exact h⟩
  · rintro (⟨j, hj, hf, hm⟩ | ⟨j, hj, hf, hm⟩)
    · exact ⟨j, hj, hf, Mat.orL hm⟩
    · exact ⟨j, hj, hf, Mat.orR hm⟩
theorem stp_opt (a : Rx) (s : Txt) (F : Nat → Prop) (i : Nat) (hi : i ≤ s.length) : Stp (.opt a) s F i ↔ Stp a s F i ∨ F i := by
  constructor
  · rintro ⟨j, hj, hf, hm⟩
    have hlen := seg_len s j i hi
    generalize hx : seg s j i = x at hm hlen
    cases hm with
    | opt0 =>
      have : i = j := by simp at hlen; omega
      subst this
      exact Or.inr hf
    | opt1 h => exact Or.inl ⟨j, hj, hf, by rw [hx]; exact h⟩
  · rintro (⟨j, hj, hf, hm⟩ | h)
    · exact ⟨j, hj, hf, Mat.opt1 hm⟩
    · exact ⟨i, Nat.le_refl _, h, by rw [seg_self]; exact Mat.opt0⟩
/-- so many times -/
def Itr (a : Rx) (s : Txt) (F : Nat → Prop) : Nat → Nat → Prop
  | 0 => F
  | k + 1 => Stp a s (Itr a s F k)
theorem itr_front (a : Rx) (s : Txt) (F : Nat → Prop) : ∀ k i, Itr a s F (k + 1) i ↔ Itr a s (Stp a s F) k i
  | 0, i => Iff.rfl
  | k + 1, i => by
    constructor
    · rintro ⟨j, hj, hf, hm⟩
      exact ⟨j, hj, (itr_front a s F k j).1 hf, hm⟩
    · rintro ⟨j, hj, hf, hm⟩
      exact ⟨j, hj, (itr_front a s F k j).2 hf, hm⟩
theorem star_itr {a : Rx} {s : Txt} : ∀ {x : Txt}, Mat (.star a) x → ∀ j i, j ≤ i → i ≤ s.length → seg s j i = x → ∀ F : Nat → Prop, F j → ∃ k, Itr a s F k i := by
  intro x h
  generalize ht : Rx.star a = t at h
  induction h with
  | star0 =>
    intro j i hj hi hx F hf
    have := congrArg List.length hx
    rw [seg_len s j i hi] at this
    have e : i = j := by simp at this; omega
    subst e
    exact ⟨0, hf⟩
  | @starS a' x y hx hy _ ihy =>
    injection ht with ht
    subst ht
    intro j i hj hi he F hf
    obtain ⟨m, h1, h2, rfl, rfl⟩ := seg_cut hi he hj
    obtain ⟨k, hk⟩ := ihy rfl m i h2 hi rfl (Stp a s F) ⟨j, h1, hf, hx⟩
    exact ⟨k + 1, (itr_front a s F k i).2 hk⟩
  | set _ => cases ht
  | eps => cases ht
  | cat _ _ => cases ht
  | orL _ => cases ht
  | orR _ => cases ht
  | plus _ _ => cases ht
  | opt0 => cases ht
  | opt1 _ => cases ht
theorem itr_star {a : Rx} {s : Txt} : ∀ (k : Nat) (F : Nat → Prop) (i : Nat), Itr a s F k i → ∃ j, j ≤ i ∧ F j ∧ Mat (.star a) (seg s j i)
  | 0, F, i, h => ⟨i, Nat.le_refl _, h, by rw [seg_self]; exact Mat.star0⟩
  | k + 1, F, i, h => by
    obtain ⟨m, h2, ⟨j, h1, hf, ha⟩, hb⟩ := itr_star k (Stp a s F) i ((itr_front a s F k i).1 h)
    exact ⟨j, by omega, hf, by rw [← seg_app s h1 h2]; exact Mat.starS ha hb⟩
theorem stp_star (a : Rx) (s : Txt) (F : Nat → Prop) (i : Nat) (hi : i ≤ s.length) : Stp (.star a) s F i ↔ ∃ k, Itr a s F k i :=
  ⟨fun ⟨j, hj, hf, hm⟩ => star_itr hm j i hj hi rfl F hf, fun ⟨k, hk⟩ => itr_star k F i hk⟩
theorem stp_plus (a : Rx) (s : Txt) (F : Nat → Prop) (i : Nat) (hi : i ≤ s.length) : Stp (.plus a) s F i ↔ ∃ k, Itr a s F (k + 1) i := by
  constructor
  · rintro ⟨j, hj, hf, hm⟩
    generalize hx : seg s j i = x at hm
    cases hm with
    | plus ha hb =>
      obtain ⟨m, h1, h2, rfl, rfl⟩ := seg_cut hi hx hj
      obtain ⟨k, hk⟩ := star_itr hb m i h2 hi rfl (Stp a s F) ⟨j, h1, hf, ha⟩
      exact ⟨k, (itr_front a s F k i).2 hk⟩
  · rintro ⟨k, hk⟩
    obtain ⟨m, h2, ⟨j, h1, hf, ha⟩, hb⟩ := itr_star k (Stp a s F) i ((itr_front a s F k i).1 hk)
    exact ⟨j, by omega, hf, by rw [← seg_app s h1 h2]; exact Mat.plus ha hb⟩
/-- where nothing new comes, nothing comes any more -/
theorem itr_stop {a : Rx} {s : Txt} {F O : Nat → Prop} {k : Nat} (hO : ∀ i, O i ↔ ∃ m, 1 ≤ m ∧ m ≤ k ∧ Itr a s F m i) (hstop : ∀ i, i ≤ s.length → Itr a s F (k + 1) i → O i ∨ F i) (_hF : ∀ i, F i → i ≤ s.length) :
    ∀ m i, i ≤ s.length → Itr a s F m i → O i ∨ F i := by
  have step : ∀ i, i ≤ s.length → Stp a s (fun i => O i ∨ F i) i → O i ∨ F i := by
    rintro i hi ⟨j, hj, hf, hm⟩
    rcases hf with hf | hf
    · obtain ⟨m, h1, h2, h3⟩ := (hO j).1 hf
      by_cases e : m = k
      · subst e; exact hstop i hi ⟨j, hj, h3, hm⟩
      · exact Or.inl ((hO i).2 ⟨m + 1, by omega, by omega, j, hj, h3, hm⟩)
    · by_cases e : k = 0
      · subst e; exact hstop i hi ⟨j, hj, hf, hm⟩
      · exact Or.inl ((hO i).2 ⟨1, by omega, by omega, j, hj, hf, hm⟩)
  intro m
  induction m with
  | zero => exact fun i _ h => Or.inr h
  | succ m ih =>
    rintro i hi ⟨j, hj, hf, hm⟩
    exact step i hi ⟨j, hj, ih j (by omega) hf, hm⟩

end Go.Proofs.YtonlcnmlklaicaaGreatDoor
namespace Go.Proofs.YtonlcnmlklaicaaGreatDoor

/-- are two bytes in the same sets of a list? -/
def al (l : List W4) (a b : Nat) : Bool := l.all fun S => hasB S a == hasB S b
theorem al_iff (l : List W4) (a b : Nat) : al l a b = true ↔ ∀ S ∈ l, hasB S a = hasB S b := by
  unfold al
  rw [List.all_eq_true]
  exact ⟨fun h S hS => beq_iff_eq.1 (h S hS), fun h S hS => beq_iff_eq.2 (h S hS)⟩
theorem al_refl (l : List W4) (a : Nat) : al l a a = true := (al_iff l a a).2 fun _ _ => rfl
theorem al_symm {l : List W4} {a b : Nat} (h : al l a b = true) : al l b a = true := (al_iff l b a).2 fun S hS => ((al_iff l a b).1 h S hS).symm
theorem al_trans {l : List W4} {a b c : Nat} (h : al l a b = true) (h' : al l b c = true) : al l a c = true := (al_iff l a c).2 fun S hS => ((al_iff l a b).1 h S hS).trans ((al_iff l b c).1 h' S hS)

/-- the least byte of each part, up to a byte -/
def repN (l : List W4) : Nat → List Nat
  | 0 => []
  | k + 1 => repN l k ++ (if (repN l k).any (fun r => al l r k) then [] else [k])
theorem repN_zero (l : List W4) : repN l 0 = [] := rfl
theorem repN_old {l : List W4} {k : Nat} (h : (repN l k).any (fun r => al l r k) = true) : repN l (k + 1) = repN l k := by rw [repN, h]; simp
theorem repN_new {l : List W4} {k : Nat} (h : (repN l k).any (fun r => al l r k) = false) : repN l (k + 1) = repN l k ++ [k] := by rw [repN, h]; simp
theorem repN_lt (l : List W4) : ∀ k, ∀ r ∈ repN l k, r < k
  | 0, r, h => absurd h (List.not_mem_nil)
  | k + 1, r, h => by
    cases hk : (repN l k).any (fun r => al l r k) with
    | true => rw [repN_old hk] at h; have := repN_lt l k r h; omega
    | false =>
      rw [repN_new hk, List.mem_append, List.mem_singleton] at h
      rcases h with h | rfl
      · have := repN_lt l k r h; omega
      · omega
theorem repN_len (l : List W4) : ∀ k, (repN l k).length ≤ k
  | 0 => Nat.le_refl _
  | k + 1 => by
    have := repN_len l k
    cases hk : (repN l k).any (fun r => al l r k) with
    | true => rw [repN_old hk]; omega
    | false => rw [repN_new hk, List.length_append]; simp; omega
/-- each byte is in a part -/
theorem repN_all (l : List W4) : ∀ k x, x < k → (repN l k).any (fun r => al l r x) = true
  | 0, x, h => absurd h (by omega)
  | k + 1, x, h => by
    by_cases e : x = k
    · subst e
      cases hk : (repN l x).any (fun r => al l r x) with
      | true => rw [repN_old hk]; exact hk
      | false => rw [repN_new hk, List.any_append, hk]; simp [al_refl]
    · have ih := repN_all l k x (by omega)
      cases hk : (repN l k).any (fun r => al l r k) with
      | true => rw [repN_old hk]; exact ih
      | false => rw [repN_new hk, List.any_append, ih]; rfl
/-- the part of a byte that none ahead is alike -/
def clsB (l : List W4) (a : Nat) : W4 := mkB fun x => al l a x
def partsB (l : List W4) : List W4 := (repN l 256).map (clsB l)
theorem cls_low {l : List W4} {a x : Nat} (h : (repN l a).any (fun r => al l r a) = false) (hx : x < a) : al l a x = false := by
  cases hax : al l a x with
  | false => rfl
  | true =>
    obtain ⟨r, hr, hrx⟩ := List.any_eq_true.1 (repN_all l a x hx)
    have h1 : al l r a = true := al_trans hrx (al_symm hax)
    have := List.any_eq_false.1 h r hr
    exact absurd h1 this
theorem count_pos {S : W4} {x : Nat} (hx : hasB S x = true) : ∀ k, x < k → 0 < countN S k
  | 0, h => absurd h (by omega)
  | k + 1, h => by
    rw [countN_succ]
    by_cases e : x = k
    · subst e; rw [hx]; simp
    · have := count_pos hx k (by omega); omega
attribute [irreducible] repN

end Go.Proofs.YtonlcnmlklaicaaGreatDoor
namespace Go.Proofs.YtonlcnmlklaicaaGreatDoor

theorem leastFrom_at (S : W4) (m : Nat) (hm : hasB S m = true) : ∀ n k, k ≤ m → m < k + n → (∀ x, k ≤ x → x < m → hasB S x = false) → leastFrom S k n = (m : Int)
  | 0, k, h1, h2, _ => absurd h2 (by omega)
  | n + 1, k, h1, h2, h3 => by
    rw [leastFrom_succ]
    by_cases e : k = m
    · subst e; rw [hm]; simp
    · rw [h3 k (Nat.le_refl _) (by omega)]
      simp only [Bool.false_eq_true, if_false]
      exact leastFrom_at S m hm n (k + 1) (by omega) (by omega) fun x hx hxm => h3 x (by omega) hxm
theorem least_at {S : W4} {m : Nat} (hm : hasB S m = true) (h : m < 256) (hlow : ∀ x, x < m → hasB S x = false) : leastB S = (m : Int) := by
  rw [leastB_eq]
  exact leastFrom_at S m hm 256 0 (by omega) (by omega) fun x _ hx => hlow x hx
theorem leastFrom_none (S : W4) : ∀ n k, (∀ x, k ≤ x → x < k + n → hasB S x = false) → leastFrom S k n = -1
  | 0, k, _ => leastFrom_zero S k
  | n + 1, k, h => by
    rw [leastFrom_succ, h k (Nat.le_refl _) (by omega)]
    simp only [Bool.false_eq_true, if_false]
    exact leastFrom_none S n (k + 1) fun x hx hxn => h x (by omega) (by omega)
theorem least_none {S : W4} (h : ∀ x, x < 256 → hasB S x = false) : leastB S = -1 := by
  rw [leastB_eq]
  exact leastFrom_none S 256 0 fun x _ hx => h x (by omega)

theorem ctz_bits {x : Nat} (h0 : x ≠ 0) (hx : x < 18446744073709551616) : Lib.ctz 64 x < 64 ∧ x.testBit (Lib.ctz 64 x) = true ∧ ∀ j, j < Lib.ctz 64 x → x.testBit j = false := by
  obtain ⟨hlow, hlt⟩ := Lib.lowest_bit 64 x h0 hx
  refine ⟨hlt, ?_, fun j hj => ?_⟩
  · have h1 : (x &&& (2 ^ 64 - x)).testBit (Lib.ctz 64 x) = true := by rw [hlow, Nat.testBit_two_pow_self]
    rw [Nat.testBit_and, Bool.and_eq_true] at h1
    exact h1.1
  · obtain ⟨m, hm, _⟩ := Lib.ctzFrom_spec 64 x (by omega) hx
    have e : Lib.ctz 64 x = Lib.ctzFrom 64 x := by simp [Lib.ctz, h0]
    rw [e] at hj
    generalize Lib.ctzFrom 64 x = t at hm hj
    rw [hm, Nat.testBit_two_pow_mul]
    simp; omega
theorem least_word {S : W4} (hS : Fit4 S) (i : Nat) (hi : i < 4) (h0 : S.w i ≠ 0) (hlow : ∀ k, k < i → S.w k = 0) : leastB S = ((64 * i + Lib.ctz 64 (S.w i) : Nat) : Int) := by
  obtain ⟨h1, h2, h3⟩ := ctz_bits h0 (hS.w i)
  refine least_at ?_ (by omega) fun x hx => ?_
  · unfold hasB
    rw [show (64 * i + Lib.ctz 64 (S.w i)) / 64 = i by omega, show (64 * i + Lib.ctz 64 (S.w i)) % 64 = Lib.ctz 64 (S.w i) by omega]
    exact h2
  · unfold hasB
    by_cases e : x / 64 < i
    · rw [hlow _ e, Nat.zero_testBit]
    · have e1 : x / 64 = i := by omega
      rw [e1]
      exact h3 _ (by omega)
theorem least_zero {S : W4} (h : ∀ k, k < 4 → S.w k = 0) : leastB S = -1 :=
  least_none fun x hx => by unfold hasB; rw [h _ (by omega), Nat.zero_testBit]

end Go.Proofs.YtonlcnmlklaicaaGreatDoor
namespace Go.Proofs.YtonlcnmlklaicaaGreatDoor

/-- the items of a class, up to its ] -/
def itemsF : Nat → Bool → W4 → Txt → Option (W4 × Txt)
  | 0, _, _, _ => none
  | n + 1, first, acc, s =>
    if !first && s.head? == some 93 then some (acc, s.tail) else
    match signF leftC s with
    | none => none
    | some (a, s1) =>
      if s1.head? == some 45 then
        match signF leftC s1.tail with
        | none => none
        | some (b, s2) => if b < a then none else itemsF n false (orB acc (spanB a b)) s2
      else itemsF n false (orB acc (spanB a a)) s1
/-- of a class, behind its [ -/
def classF (n : Nat) (s : Txt) : Option (W4 × Txt) :=
  if s.head? == some 94 then
    match itemsF n true noneB s.tail with
    | none => none
    | some (S, r) => if notB S = noneB then none else some (notB S, r)
  else
    match itemsF n true noneB s with
    | none => none
    | some (S, r) => if S = noneB then none else some (S, r)
/-- how many of the bytes from b on, one behind the other, are in it -/
def runN (S : W4) : Nat → Nat → Nat
  | _, 0 => 0
  | b, f + 1 => if b < 256 && hasB S b then runN S (b + 1) f + 1 else 0
/-- a run as it is told -/
def runL (b n : Nat) : Txt :=
  (if 0 < n then aloneL b tellC else []) ++ ((if 2 < n then [45] else []) ++ (if 1 < n then aloneL (b + n - 1) tellC else []))
/-- the runs from b on -/
def runsL (S : W4) : Nat → Nat → Txt
  | _, 0 => []
  | b, f + 1 => if b < 256 then runL b (runN S b 256) ++ runsL S (b + runN S b 256 + 1) f else []
def toldL (S : W4) : Txt :=
  if countB S = 1 then aloneL (leastB S).toNat tellA
  else if countB S = 255 ∧ hasB S 10 = false then [46]
  else 91 :: (runsL S 0 257 ++ [93])

theorem runN_in (S : W4) : ∀ f b x, b ≤ x → x < b + runN S b f → x < 256 ∧ hasB S x = true
  | 0, b, x, h1, h2 => by simp [runN] at h2; omega
  | f + 1, b, x, h1, h2 => by
    unfold runN at h2
    split at h2
    · rename_i h
      simp only [Bool.and_eq_true, decide_eq_true_eq] at h
      by_cases e : x = b
      · subst e; exact h
      · exact runN_in S f (b + 1) x (by omega) (by omega)
    · omega
theorem runN_end (S : W4) : ∀ f b, 256 ≤ b + f → b + runN S b f < 256 → hasB S (b + runN S b f) = false
  | 0, b, h1, h2 => by simp [runN] at h2; omega
  | f + 1, b, h1, h2 => by
    unfold runN at h2 ⊢
    split
    · rename_i h
      rw [if_pos h] at h2
      have := runN_end S f (b + 1) (by omega) (by omega)
      rwa [show b + (runN S (b + 1) f + 1) = b + 1 + runN S (b + 1) f by omega]
    · rename_i h
      rw [if_neg h] at h2
      simp only [Bool.and_eq_true, decide_eq_true_eq, not_and] at h
      simpa using h (by omega)
/-- the bytes of S below b -/
def lowB (S : W4) (b : Nat) : W4 := mkB fun x => decide (x < b) && hasB S x
theorem lowB_zero (S : W4) : lowB S 0 = noneB := (mkB_eq noneB_fit fun x _ => by rw [noneB_has]; simp).symm
theorem lowB_all {S : W4} (hS : Fit4 S) (b : Nat) (h : 256 ≤ b) : lowB S b = S := (mkB_eq hS fun x hx => by simp; omega).symm
theorem lowB_run {S : W4} {b n : Nat} (h1 : ∀ x, b ≤ x → x < b + n → hasB S x = true) (h2 : b + n < 256 → hasB S (b + n) = false) (hn : 0 < n) : orB (lowB S b) (spanB b (b + n - 1)) = lowB S (b + n + 1) := by
  unfold orB
  conv => rhs; unfold lowB
  refine mkB_congr fun x hx => ?_
  unfold lowB spanB
  rw [mkB_has _ x hx, mkB_has _ x hx]
  by_cases e1 : x < b
  · simp [e1, show x < b + n + 1 by omega, show ¬ b ≤ x by omega]
  · by_cases e2 : x < b + n
    · simp [h1 x (by omega) e2, show b ≤ x by omega, show x ≤ b + n - 1 by omega, show x < b + n + 1 by omega]
    · by_cases e3 : x = b + n
      · subst e3
        simp [h2 hx]
        omega
      · simp [e1, show ¬ x < b + n + 1 by omega]
        omega
theorem lowB_skip {S : W4} {b : Nat} (h : b < 256 → hasB S b = false) : lowB S b = lowB S (b + 1) := by
  unfold lowB
  refine mkB_congr fun x hx => ?_
  by_cases e : x = b
  · subst e; simp [h hx]
  · congr 1
    rw [decide_eq_decide]
    omega

end Go.Proofs.YtonlcnmlklaicaaGreatDoor
