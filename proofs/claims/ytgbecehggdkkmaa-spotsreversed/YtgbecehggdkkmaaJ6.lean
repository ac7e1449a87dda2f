/- A byte as it is told in a rule's text, and as it is read. What a rule fits: by ways, and from place to place of a text. -/
import Derived.Test.YtgbecehggdkkmaaJ2
import Derived.Test.YtgbecehggdkkmaaJ5
namespace Go.Proofs.Ytgbecehggdkkmaa

abbrev Txt := List UInt8
/-- left out of plain atoms (by itself, but \), of classes; told by \ -/
def leftA (c : UInt8) : Bool := [46, 42, 43, 63, 40, 41, 91, 93, 124, 47].contains c
def leftC (c : UInt8) : Bool := [91, 93, 94, 45, 47].contains c
def escD (c : UInt8) : Bool := [46, 42, 43, 63, 40, 41, 91, 93, 124, 92, 47, 45, 94].contains c
def hexF (c : UInt8) : Option Nat :=
  if 48 ≤ c ∧ c ≤ 57 then some (c.toNat - 48) else if 97 ≤ c ∧ c ≤ 102 then some (c.toNat - 87) else if 65 ≤ c ∧ c ≤ 70 then some (c.toNat - 55) else none
/-- behind a \ -/
def escF : Txt → Option (Nat × Txt)
  | [] => none
  | d :: r =>
    if d = 110 then some (10, r) else if d = 116 then some (9, r) else if d = 114 then some (13, r)
    else if d = 120 then
      match r with
      | x :: y :: q => match hexF x, hexF y with
        | some a, some b => some (16 * a + b, q)
        | _, _ => none
      | _ => none
    else if escD d then some (d.toNat, r) else none
def signF (left : UInt8 → Bool) : Txt → Option (Nat × Txt)
  | [] => none
  | c :: r => if c < 32 ∨ 126 < c then none else if c = 92 then escF r else if left c then none else some (c.toNat, r)
theorem escF_ext {s : Txt} {b : Nat} {q : Txt} (r : Txt) (h : escF s = some (b, q)) : escF (s ++ r) = some (b, q ++ r) := by
  cases s with
  | nil => cases h
  | cons d s =>
    simp only [List.cons_append, escF] at h ⊢
    split
    · rename_i h1; rw [if_pos h1] at h; injection h with h; injection h with h2 h3; subst h2 h3; rfl
    rename_i h1; rw [if_neg h1] at h
    split
    · rename_i h1; rw [if_pos h1] at h; injection h with h; injection h with h2 h3; subst h2 h3; rfl
    rename_i h1; rw [if_neg h1] at h
    split
    · rename_i h1; rw [if_pos h1] at h; injection h with h; injection h with h2 h3; subst h2 h3; rfl
    rename_i h1; rw [if_neg h1] at h
    split
    · rename_i h1; rw [if_pos h1] at h
      match s, h with
      | x :: y :: z, h =>
        simp only [List.cons_append] at h ⊢
        split at h
        · rename_i a b' ha hb
          injection h with h; injection h with h2 h3; subst h2 h3
          first | rfl | rw [ha, hb]
        · cases h
    rename_i h1; rw [if_neg h1] at h
    split
    · rename_i h1; rw [if_pos h1] at h; injection h with h; injection h with h2 h3; subst h2 h3; rfl
    · rename_i h1; rw [if_neg h1] at h; cases h
theorem signF_ext {left : UInt8 → Bool} {s : Txt} {b : Nat} {q : Txt} (r : Txt) (h : signF left s = some (b, q)) : signF left (s ++ r) = some (b, q ++ r) := by
  cases s with
  | nil => cases h
  | cons c s =>
    simp only [List.cons_append, signF] at h ⊢
    split
    · rename_i h1; rw [if_pos h1] at h; cases h
    rename_i h1; rw [if_neg h1] at h
    split
    · rename_i h1; rw [if_pos h1] at h; exact escF_ext r h
    rename_i h1; rw [if_neg h1] at h
    split
    · rename_i h1; rw [if_pos h1] at h; cases h
    · rename_i h1; rw [if_neg h1] at h; injection h with h; injection h with h2 h3; subst h2 h3; rfl
/-- what is read is shorter -/
theorem escF_lt {s : Txt} {b : Nat} {q : Txt} (h : escF s = some (b, q)) : q.length < s.length := by
  cases s with
  | nil => cases h
  | cons d s =>
    simp only [escF] at h
    split at h
    · injection h with h; injection h with h2 h3; subst h3; simp
    split at h
    · injection h with h; injection h with h2 h3; subst h3; simp
    split at h
    · injection h with h; injection h with h2 h3; subst h3; simp
    split at h
    · match s, h with
      | x :: y :: z, h =>
        simp only at h
        split at h
        · injection h with h; injection h with h2 h3; subst h3; simp; omega
        · cases h
    split at h
    · injection h with h; injection h with h2 h3; subst h3; simp
    · cases h
theorem signF_lt {left : UInt8 → Bool} {s : Txt} {b : Nat} {q : Txt} (h : signF left s = some (b, q)) : q.length < s.length := by
  cases s with
  | nil => cases h
  | cons c s =>
    simp only [signF] at h
    split at h
    · cases h
    split at h
    · have := escF_lt h; simp; omega
    split at h
    · cases h
    · injection h with h; injection h with h2 h3; subst h3; simp
def digL (n : Nat) : UInt8 := if n < 10 then UInt8.ofNat (48 + n) else UInt8.ofNat (87 + n)
/-- a byte as it is told: 'left' tells which must be told by \ -/
def aloneL (b : Nat) (left : UInt8 → Bool) : Txt :=
  if b = 10 then [92, 110] else if b = 9 then [92, 116] else if b = 13 then [92, 114]
  else if b < 32 ∨ 126 < b then [92, 120, digL (b / 16), digL (b % 16)]
  else if left (UInt8.ofNat b) then [92, UInt8.ofNat b] else [UInt8.ofNat b]
def tellA (c : UInt8) : Bool := leftA c || c == 92
def tellC (c : UInt8) : Bool := leftC c || c == 92
theorem aloneA_all : ∀ b : Fin 256, signF leftA (aloneL b tellA) = some (b.val, []) := by decide +kernel
theorem aloneC_all : ∀ b : Fin 256, signF leftC (aloneL b tellC) = some (b.val, []) := by decide +kernel
theorem aloneA (b : Nat) (h : b < 256) (r : Txt) : signF leftA (aloneL b tellA ++ r) = some (b, r) := by
  have := signF_ext r (aloneA_all ⟨b, h⟩)
  simpa using this
theorem aloneC (b : Nat) (h : b < 256) (r : Txt) : signF leftC (aloneL b tellC ++ r) = some (b, r) := by
  have := signF_ext r (aloneC_all ⟨b, h⟩)
  simpa using this
/-- how such a text begins: by none of the signs that mean something else there -/
theorem headA_all : ∀ b : Fin 256, (match aloneL b tellA with | c :: _ => !(leftA c) | [] => false) = true := by decide +kernel
theorem headC_all : ∀ b : Fin 256, (match aloneL b tellC with | c :: _ => !(leftC c) | [] => false) = true := by decide +kernel
theorem headA (b : Nat) (h : b < 256) : ∃ c r, aloneL b tellA = c :: r ∧ leftA c = false := by
  have := headA_all ⟨b, h⟩
  simp only at this
  split at this
  · rename_i c r e; exact ⟨c, r, e, by simpa using this⟩
  · cases this
theorem headC (b : Nat) (h : b < 256) : ∃ c r, aloneL b tellC = c :: r ∧ leftC c = false := by
  have := headC_all ⟨b, h⟩
  simp only at this
  split at this
  · rename_i c r e; exact ⟨c, r, e, by simpa using this⟩
  · cases this

end Go.Proofs.Ytgbecehggdkkmaa
namespace Go.Proofs.Ytgbecehggdkkmaa

/-- what a rule fits -/
inductive Mat : Rx → Txt → Prop
  | set {S : W4} {c : UInt8} : hasB S c.toNat = true → Mat (.set S) [c]
  | eps : Mat .eps []
  | cat {a b : Rx} {s t : Txt} : Mat a s → Mat b t → Mat (.cat a b) (s ++ t)
  | orL {a b : Rx} {s : Txt} : Mat a s → Mat (.or a b) s
  | orR {a b : Rx} {s : Txt} : Mat b s → Mat (.or a b) s
  | star0 {a : Rx} : Mat (.star a) []
  | starS {a : Rx} {s t : Txt} : Mat a s → Mat (.star a) t → Mat (.star a) (s ++ t)
  | plus {a : Rx} {s t : Txt} : Mat a s → Mat (.star a) t → Mat (.plus a) (s ++ t)
  | opt0 {a : Rx} : Mat (.opt a) []
  | opt1 {a : Rx} {s : Txt} : Mat a s → Mat (.opt a) s
/-- the sets of a rule's spots -/
def setsL : Rx → List W4
  | .set S => [S]
  | .eps => []
  | .cat a b => setsL a ++ setsL b
  | .or a b => setsL a ++ setsL b
  | .star a => setsL a
  | .plus a => setsL a
  | .opt a => setsL a
theorem setsL_len : ∀ t : Rx, (setsL t).length = nSets t
  | .set _ => rfl
  | .eps => rfl
  | .cat a b => by simp [setsL, nSets, setsL_len a, setsL_len b]
  | .or a b => by simp [setsL, nSets, setsL_len a, setsL_len b]
  | .star a => setsL_len a
  | .plus a => setsL_len a
  | .opt a => setsL_len a
/-- each byte in its spot's set -/
def RdS (g : Nat → W4) : List Nat → Txt → Prop
  | [], [] => True
  | k :: u, c :: s => hasB (g k) c.toNat = true ∧ RdS g u s
  | _, _ => False
theorem RdS.app {g : Nat → W4} : ∀ {u : List Nat} {s : Txt} {v : List Nat} {t : Txt}, RdS g u s → RdS g v t → RdS g (u ++ v) (s ++ t)
  | [], [], _, _, _, h => h
  | _ :: _, _ :: _, _, _, h, h' => ⟨h.1, RdS.app h.2 h'⟩
  | [], _ :: _, _, _, h, _ => h.elim
  | _ :: _, [], _, _, h, _ => h.elim
theorem RdS.split {g : Nat → W4} : ∀ {u v : List Nat} {s : Txt}, RdS g (u ++ v) s → ∃ s1 s2, s = s1 ++ s2 ∧ RdS g u s1 ∧ RdS g v s2
  | [], _, s, h => ⟨[], s, rfl, trivial, h⟩
  | _ :: u, v, [], h => h.elim
  | k :: u, v, c :: s, h => by
    obtain ⟨s1, s2, rfl, h1, h2⟩ := RdS.split (u := u) h.2
    exact ⟨c :: s1, s2, rfl, ⟨h.1, h1⟩, h2⟩
theorem RdS.len {g : Nat → W4} : ∀ {u : List Nat} {s : Txt}, RdS g u s → u.length = s.length
  | [], [], _ => rfl
  | _ :: _, _ :: _, h => by simp [RdS.len h.2]
  | [], _ :: _, h => h.elim
  | _ :: _, [], h => h.elim
/-- the sets of the spots from n on, told by g -/
def TldG (g : Nat → W4) (t : Rx) (n : Nat) : Prop := ∀ i (h : i < (setsL t).length), g (n + i) = (setsL t)[i]
theorem TldG.left {g : Nat → W4} {a b : Rx} {n : Nat} {t : Rx} (ht : setsL t = setsL a ++ setsL b) (h : TldG g t n) : TldG g a n := fun i hi => by
  have h1 : i < (setsL t).length := by rw [ht, List.length_append]; omega
  rw [h i h1]
  simp only [ht]
  rw [List.getElem_append_left hi]
theorem TldG.right {g : Nat → W4} {a b : Rx} {n : Nat} {t : Rx} (ht : setsL t = setsL a ++ setsL b) (h : TldG g t n) : TldG g b (n + nSets a) := fun i hi => by
  have h1 : (setsL a).length + i < (setsL t).length := by rw [ht, List.length_append]; omega
  have e : n + nSets a + i = n + ((setsL a).length + i) := by rw [setsL_len, Nat.add_assoc]
  rw [e, h _ h1]
  simp only [ht]
  rw [List.getElem_append_right (by omega)]
  congr 1
  omega
theorem way_mat {t : Rx} {n : Nat} {u : List Nat} (h : Way t n u) : ∀ (g : Nat → W4) (s : Txt), TldG g t n → RdS g u s → Mat t s := by
  induction h with
  | set S n =>
    intro g s hg hr
    match s, hr with
    | [c], hr =>
      have := hg 0 (by simp [setsL])
      simp [setsL] at this
      rw [RdS, this] at hr
      exact Mat.set hr.1
  | eps n =>
    intro g s _ hr
    match s, hr with
    | [], _ => exact Mat.eps
  | cat _ _ ha hb =>
    intro g s hg hr
    obtain ⟨s1, s2, rfl, h1, h2⟩ := hr.split
    exact Mat.cat (ha g s1 (hg.left rfl) h1) (hb g s2 (hg.right rfl) h2)
  | orL _ ha => exact fun g s hg hr => Mat.orL (ha g s (hg.left rfl) hr)
  | orR _ hb => exact fun g s hg hr => Mat.orR (hb g s (hg.right rfl) hr)
  | star0 a n =>
    intro g s _ hr
    match s, hr with
    | [], _ => exact Mat.star0
  | starS _ _ ha hb =>
    intro g s hg hr
    obtain ⟨s1, s2, rfl, h1, h2⟩ := hr.split
    exact Mat.starS (ha g s1 hg h1) (hb g s2 hg h2)
  | plus _ _ ha hb =>
    intro g s hg hr
    obtain ⟨s1, s2, rfl, h1, h2⟩ := hr.split
    exact Mat.plus (ha g s1 hg h1) (hb g s2 hg h2)
  | opt0 a n =>
    intro g s _ hr
    match s, hr with
    | [], _ => exact Mat.opt0
  | opt1 _ ha => exact fun g s hg hr => Mat.opt1 (ha g s hg hr)
theorem mat_way {t : Rx} {s : Txt} (h : Mat t s) : ∀ (g : Nat → W4) (n : Nat), TldG g t n → ∃ u, Way t n u ∧ RdS g u s := by
  induction h with
  | @set S c hc =>
    intro g n hg
    have := hg 0 (by simp [setsL])
    simp [setsL] at this
    exact ⟨[n], Way.set S n, by rw [this]; exact hc, trivial⟩
  | eps => exact fun g n _ => ⟨[], Way.eps n, trivial⟩
  | cat _ _ ha hb =>
    intro g n hg
    obtain ⟨u, hu, ru⟩ := ha g n (hg.left rfl)
    obtain ⟨v, hv, rv⟩ := hb g _ (hg.right rfl)
    exact ⟨u ++ v, Way.cat hu hv, ru.app rv⟩
  | orL _ ha =>
    intro g n hg
    obtain ⟨u, hu, ru⟩ := ha g n (hg.left rfl)
    exact ⟨u, Way.orL hu, ru⟩
  | orR _ hb =>
    intro g n hg
    obtain ⟨u, hu, ru⟩ := hb g _ (hg.right rfl)
    exact ⟨u, Way.orR hu, ru⟩
  | @star0 a => exact fun g n _ => ⟨[], Way.star0 a n, trivial⟩
  | starS _ _ ha hb =>
    intro g n hg
    obtain ⟨u, hu, ru⟩ := ha g n hg
    obtain ⟨v, hv, rv⟩ := hb g n hg
    exact ⟨u ++ v, Way.starS hu hv, ru.app rv⟩
  | plus _ _ ha hb =>
    intro g n hg
    obtain ⟨u, hu, ru⟩ := ha g n hg
    obtain ⟨v, hv, rv⟩ := hb g n hg
    exact ⟨u ++ v, Way.plus hu hv, ru.app rv⟩
  | @opt0 a => exact fun g n _ => ⟨[], Way.opt0 a n, trivial⟩
  | opt1 _ ha =>
    intro g n hg
    obtain ⟨u, hu, ru⟩ := ha g n hg
    exact ⟨u, Way.opt1 hu, ru⟩
/-- a rule fits a text just if a way of its spots does -/
theorem mat_iff (t : Rx) (s : Txt) (g : Nat → W4) (n : Nat) (hg : TldG g t n) : Mat t s ↔ ∃ u, Loc t n u ∧ RdS g u s :=
  ⟨fun h => by
    obtain ⟨u, hu, hr⟩ := mat_way h g n hg
    exact ⟨u, (way_iff t n u).1 hu, hr⟩, fun ⟨u, hu, hr⟩ => way_mat ((way_iff t n u).2 hu) g s hg hr⟩

/-! ### from place to place -/
/-- a text from a place to another -/
def seg (s : Txt) (j i : Nat) : Txt := (s.take i).drop j
theorem seg_len (s : Txt) (j i : Nat) (hi : i ≤ s.length) : (seg s j i).length = i - j := by simp [seg]; omega
theorem seg_app (s : Txt) {j m i : Nat} (h1 : j ≤ m) (h2 : m ≤ i) : seg s j m ++ seg s m i = seg s j i := by
  unfold seg
  have e : s.take m = (s.take i).take m := by rw [List.take_take, Nat.min_eq_left h2]
  rw [e]
  generalize s.take i = r
  rw [← List.take_append_drop (m - j) (r.drop j), List.drop_drop, show j + (m - j) = m by omega, List.drop_take]
theorem seg_self (s : Txt) (i : Nat) : seg s i i = [] := by unfold seg; rw [List.drop_eq_nil_of_le (by simp; omega)]
theorem seg_one (s : Txt) (j : Nat) (h : j < s.length) : seg s j (j + 1) = [s[j]] := by
  unfold seg
  rw [List.take_succ_eq_append_getElem h, List.drop_append_of_le_length (by simp; omega), List.drop_eq_nil_of_le (by simp; omega), List.nil_append]
theorem seg_cut {s : Txt} {j i : Nat} (hi : i ≤ s.length) {x y : Txt} (h : seg s j i = x ++ y) (hj : j ≤ i) : ∃ m, j ≤ m ∧ m ≤ i ∧ x = seg s j m ∧ y = seg s m i := by
  have hl := congrArg List.length h
  rw [seg_len s j i hi, List.length_append] at hl
  refine ⟨j + x.length, by omega, by omega, ?_⟩
  have e := seg_app s (j := j) (m := j + x.length) (i := i) (by omega) (by omega)
  rw [h] at e
  have hx : (seg s j (j + x.length)).length = x.length := by rw [seg_len s j _ (by omega)]; omega
  have := List.append_inj e hx
  exact ⟨this.1.symm, this.2.symm⟩
/-- the places that are come to by a rule from places -/
def Stp (t : Rx) (s : Txt) (F : Nat → Prop) (i : Nat) : Prop := ∃ j, j ≤ i ∧ F j ∧ Mat t (seg s j i)
theorem stp_set (S : W4) (s : Txt) (F : Nat → Prop) (i : Nat) (hi : i ≤ s.length) : Stp (.set S) s F i ↔ ∃ j, ∃ h : j < s.length, i = j + 1 ∧ F j ∧ hasB S s[j].toNat = true := by
  constructor
  · rintro ⟨j, hj, hf, hm⟩
    have hlen := seg_len s j i hi
    generalize hs : seg s j i = x at hm hlen
    cases hm with
    | @set _ c hc =>
      have hij : i = j + 1 := by simp at hlen; omega
      subst hij
      rw [seg_one s j (by omega)] at hs
      injection hs with hs
      exact ⟨j, by omega, rfl, hf, by rw [hs]; exact hc⟩
  · rintro ⟨j, h, rfl, hf, hc⟩
    exact ⟨j, by omega, hf, by rw [seg_one s j h]; exact Mat.set hc⟩
theorem stp_eps (s : Txt) (F : Nat → Prop) (i : Nat) (hi : i ≤ s.length) : Stp .eps s F i ↔ F i := by
  constructor
  · rintro ⟨j, hj, hf, hm⟩
    have hlen := seg_len s j i hi
    generalize seg s j i = x at hm hlen
    cases hm
    have : i = j := by simp at hlen; omega
    subst this
    exact hf
  · exact fun h => ⟨i, Nat.le_refl _, h, by rw [seg_self]; exact Mat.eps⟩
theorem stp_cat (a b : Rx) (s : Txt) (F : Nat → Prop) (i : Nat) (hi : i ≤ s.length) : Stp (.cat a b) s F i ↔ Stp b s (Stp a s F) i := by
  constructor
  · rintro ⟨j, hj, hf, hm⟩
    generalize hx : seg s j i = x at hm
    cases hm with
    | cat ha hb =>
      obtain ⟨m, h1, h2, rfl, rfl⟩ := seg_cut hi hx hj
      exact ⟨m, h2, ⟨j, h1, hf, ha⟩, hb⟩
  · rintro ⟨m, h2, ⟨j, h1, hf, ha⟩, hb⟩
    exact ⟨j, by omega, hf, by rw [← seg_app s h1 h2]; exact Mat.cat ha hb⟩
theorem stp_or (a b : Rx) (s : Txt) (F : Nat → Prop) (i : Nat) : Stp (.or a b) s F i ↔ Stp a s F i ∨ Stp b s F i := by
  constructor
  · rintro ⟨j, hj, hf, hm⟩
    generalize hx : seg s j i = x at hm
    cases hm with
    | orL h => exact Or.inl ⟨j, hj, hf, by rw [hx]; exact h⟩
    | orR h => exact Or.inr ⟨j, hj, hf, by rw [hx]; exact h⟩
  · rintro (⟨j, hj, hf, hm⟩ | ⟨j, hj, hf, hm⟩)
    · exact ⟨j, hj, hf, Mat.orL hm⟩
    · exact ⟨j, hj, hf, Mat.orR hm⟩
theorem stp_opt (a : Rx) (s : Txt) (F : Nat → Prop) (i : Nat) (hi : i ≤ s.length) : Stp (.opt a) s F i ↔ Stp a s F i ∨ F i := by
  constructor
  · rintro ⟨j, hj, hf, hm⟩
    have hlen := seg_len s j i hi
    generalize hx : seg s j i = x at hm hlen
    cases hm with
    | opt0 =>
      have : i = j := by simp at hlen; omega
      subst this
      exact Or.inr hf
    | opt1 h => exact Or.inl ⟨j, hj, hf, by rw [hx]; exact h⟩
  · rintro (⟨j, hj, hf, hm⟩ | h)
    · exact ⟨j, hj, hf, Mat.opt1 hm⟩
    · exact ⟨i, Nat.le_refl _, h, by rw [seg_self]; exact Mat.opt0⟩
/-- so many times -/
def Itr (a : Rx) (s : Txt) (F : Nat → Prop) : Nat → Nat → Prop
  | 0 => F
  | k + 1 => Stp a s (Itr a s F k)
theorem itr_front (a : Rx) (s : Txt) (F : Nat → Prop) : ∀ k i, Itr a s F (k + 1) i ↔ Itr a s (Stp a s F) k i
  | 0, i => Iff.rfl
  | k + 1, i => by
    constructor
    · rintro ⟨j, hj, hf, hm⟩
      exact ⟨j, hj, (itr_front a s F k j).1 hf, hm⟩
    · rintro ⟨j, hj, hf, hm⟩
      exact ⟨j, hj, (itr_front a s F k j).2 hf, hm⟩
theorem itr_mono {a : Rx} {s : Txt} {F G : Nat → Prop} (h : ∀ i, F i → G i) : ∀ k i, Itr a s F k i → Itr a s G k i
  | 0, i, hi => h i hi
  | k + 1, _, ⟨j, hj, hf, hm⟩ => ⟨j, hj, itr_mono h k j hf, hm⟩
theorem star_itr {a : Rx} {s : Txt} : ∀ {x : Txt}, Mat (.star a) x → ∀ j i, j ≤ i → i ≤ s.length → seg s j i = x → ∀ F : Nat → Prop, F j → ∃ k, Itr a s F k i := by
  intro x h
  generalize ht : Rx.star a = t at h
  induction h with
  | star0 =>
    intro j i hj hi hx F hf
    have := congrArg List.length hx
    rw [seg_len s j i hi] at this
    have e : i = j := by simp at this; omega
    subst e
    exact ⟨0, hf⟩
  | @starS a' x y hx hy _ ihy =>
    injection ht with ht
    subst ht
    intro j i hj hi he F hf
    obtain ⟨m, h1, h2, rfl, rfl⟩ := seg_cut hi he hj
    obtain ⟨k, hk⟩ := ihy rfl m i h2 hi rfl (Stp a s F) ⟨j, h1, hf, hx⟩
    exact ⟨k + 1, (itr_front a s F k i).2 hk⟩
  | set _ => cases ht
  | eps => cases ht
  | cat _ _ => cases ht
  | orL _ => cases ht
  | orR _ => cases ht
  | plus _ _ => cases ht
  | opt0 => cases ht
  | opt1 _ => cases ht
theorem itr_star {a : Rx} {s : Txt} : ∀ (k : Nat) (F : Nat → Prop) (i : Nat), Itr a s F k i → ∃ j, j ≤ i ∧ F j ∧ Mat (.star a) (seg s j i)
  | 0, F, i, h => ⟨i, Nat.le_refl _, h, by rw [seg_self]; exact Mat.star0⟩
  | k + 1, F, i, h => by
    obtain ⟨m, h2, ⟨j, h1, hf, ha⟩, hb⟩ := itr_star k (Stp a s F) i ((itr_front a s F k i).1 h)
    exact ⟨j, by omega, hf, by rw [← seg_app s h1 h2]; exact Mat.starS ha hb⟩
theorem stp_star (a : Rx) (s : Txt) (F : Nat → Prop) (i : Nat) (hi : i ≤ s.length) : Stp (.star a) s F i ↔ ∃ k, Itr a s F k i :=
  ⟨fun ⟨j, hj, hf, hm⟩ => star_itr hm j i hj hi rfl F hf, fun ⟨k, hk⟩ => itr_star k F i hk⟩
theorem stp_plus (a : Rx) (s : Txt) (F : Nat → Prop) (i : Nat) (hi : i ≤ s.length) : Stp (.plus a) s F i ↔ ∃ k, Itr a s F (k + 1) i := by
  constructor
  · rintro ⟨j, hj, hf, hm⟩
    generalize hx : seg s j i = x at hm
    cases hm with
    | plus ha hb =>
      obtain ⟨m, h1, h2, rfl, rfl⟩ := seg_cut hi hx hj
      obtain ⟨k, hk⟩ := star_itr hb m i h2 hi rfl (Stp a s F) ⟨j, h1, hf, ha⟩
      exact ⟨k, (itr_front a s F k i).2 hk⟩
  · rintro ⟨k, hk⟩
    obtain ⟨m, h2, ⟨j, h1, hf, ha⟩, hb⟩ := itr_star k (Stp a s F) i ((itr_front a s F k i).1 hk)
    exact ⟨j, by omega, hf, by rw [← seg_app s h1 h2]; exact Mat.plus ha hb⟩
/-- where nothing new comes, nothing comes any more -/
theorem itr_stop {a : Rx} {s : Txt} {F O : Nat → Prop} {k : Nat} (hO : ∀ i, O i ↔ ∃ m, 1 ≤ m ∧ m ≤ k ∧ Itr a s F m i) (hstop : ∀ i, i ≤ s.length → Itr a s F (k + 1) i → O i ∨ F i) (_hF : ∀ i, F i → i ≤ s.length) :
    ∀ m i, i ≤ s.length → Itr a s F m i → O i ∨ F i := by
  have step : ∀ i, i ≤ s.length → Stp a s (fun i => O i ∨ F i) i → O i ∨ F i := by
    rintro i hi ⟨j, hj, hf, hm⟩
    rcases hf with hf | hf
    · obtain ⟨m, h1, h2, h3⟩ := (hO j).1 hf
      by_cases e : m = k
      · subst e; exact hstop i hi ⟨j, hj, h3, hm⟩
      · exact Or.inl ((hO i).2 ⟨m + 1, by omega, by omega, j, hj, h3, hm⟩)
    · by_cases e : k = 0
      · subst e; exact hstop i hi ⟨j, hj, hf, hm⟩
      · exact Or.inl ((hO i).2 ⟨1, by omega, by omega, j, hj, hf, hm⟩)
  intro m
  induction m with
  | zero => exact fun i _ h => Or.inr h
  | succ m ih =>
    rintro i hi ⟨j, hj, hf, hm⟩
    exact step i hi ⟨j, hj, ih j (by omega) hf, hm⟩

end Go.Proofs.Ytgbecehggdkkmaa
