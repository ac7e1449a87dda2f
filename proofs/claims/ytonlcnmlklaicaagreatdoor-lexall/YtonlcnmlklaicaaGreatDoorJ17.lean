/- The maths of layer 8: places of all rules in one count, and a state as a text with one byte for each place. The maths of layer 8: a row by parts of bytes is the row byte by byte; when the building ends. The reference of layer 8: accept, wide. The reference of layer 8: spots one behind the other in memory; first. -/
import Derived.Test.YtonlcnmlklaicaaGreatDoorJ16
namespace Go.Proofs.YtonlcnmlklaicaaGreatDoor

theorem fst_some : ∀ (t : Rx) (n : Nat), t.null = false → ∃ k, Fst t n k
  | .set _, n, _ => ⟨n, rfl⟩
  | .eps, _, h => by simp [Rx.null] at h
  | .cat a b, n, h => by
    cases ha : a.null with
    | false =>
      obtain ⟨k, hk⟩ := fst_some a n ha
      exact ⟨k, Or.inl hk⟩
    | true =>
      have hb : b.null = false := by simpa [Rx.null, ha] using h
      obtain ⟨k, hk⟩ := fst_some b (n + nSets a) hb
      exact ⟨k, Or.inr ⟨ha, hk⟩⟩
  | .or a b, n, h => by
    have ha : a.null = false := by
      cases ha : a.null with
      | false => rfl
      | true => simp [Rx.null, ha] at h
    obtain ⟨k, hk⟩ := fst_some a n ha
    exact ⟨k, Or.inl hk⟩
  | .star a, _, h => by simp [Rx.null] at h
  | .plus a, n, h => fst_some a n (by simpa [Rx.null] using h)
  | .opt a, _, h => by simp [Rx.null] at h
/-- each spot leads somewhere -/
theorem leads_on : ∀ (t : Rx) (n j : Nat), n ≤ j → j < n + nSets t → Lst t n j ∨ ∃ k, Fol t n j k
  | .set _, n, j, h1, h2 => Or.inl (by simp only [nSets] at h2; show j = n; omega)
  | .eps, _, _, h1, h2 => by simp only [nSets] at h2; omega
  | .cat a b, n, j, h1, h2 => by
    simp only [nSets] at h2
    by_cases hj : j < n + nSets a
    · rcases leads_on a n j h1 hj with h | ⟨k, h⟩
      · cases hb : b.null with
        | true => exact Or.inl (Or.inr ⟨hb, h⟩)
        | false =>
          obtain ⟨k, hk⟩ := fst_some b (n + nSets a) hb
          exact Or.inr ⟨k, Or.inr (Or.inr ⟨h, hk⟩)⟩
      · exact Or.inr ⟨k, Or.inl h⟩
    · rcases leads_on b (n + nSets a) j (by omega) (by omega) with h | ⟨k, h⟩
      · exact Or.inl (Or.inl h)
      · exact Or.inr ⟨k, Or.inr (Or.inl h)⟩
  | .or a b, n, j, h1, h2 => by
    simp only [nSets] at h2
    by_cases hj : j < n + nSets a
    · rcases leads_on a n j h1 hj with h | ⟨k, h⟩
      · exact Or.inl (Or.inl h)
      · exact Or.inr ⟨k, Or.inl h⟩
    · rcases leads_on b (n + nSets a) j (by omega) (by omega) with h | ⟨k, h⟩
      · exact Or.inl (Or.inr h)
      · exact Or.inr ⟨k, Or.inr h⟩
  | .star a, n, j, h1, h2 => by
    rcases leads_on a n j h1 h2 with h | ⟨k, h⟩
    · exact Or.inl h
    · exact Or.inr ⟨k, Or.inl h⟩
  | .plus a, n, j, h1, h2 => by
    rcases leads_on a n j h1 h2 with h | ⟨k, h⟩
    · exact Or.inl h
    · exact Or.inr ⟨k, Or.inl h⟩
  | .opt a, n, j, h1, h2 => leads_on a n j h1 h2

/-- where a rule's spots begin: behind all ends, and the spots of the rules ahead -/
def offP (all : List Sp) : Nat → Nat
  | 0 => all.length
  | r + 1 => offP all r + (all.getD r noSp).sets.length
def totP (all : List Sp) : Nat := offP all all.length
theorem offP_mono (all : List Sp) (r : Nat) : ∀ d, offP all r ≤ offP all (r + d)
  | 0 => Nat.le_refl _
  | d + 1 => Nat.le_trans (offP_mono all r d) (Nat.le_add_right _ _)
theorem offP_le (all : List Sp) {r s : Nat} (h : r ≤ s) : offP all r ≤ offP all s := by
  have := offP_mono all r (s - r)
  rwa [show r + (s - r) = s by omega] at this
theorem offP_low (all : List Sp) (r : Nat) : all.length ≤ offP all r := offP_le all (Nat.zero_le r)
theorem offP_next (all : List Sp) {r s : Nat} (h : r < s) : offP all r + (all.getD r noSp).sets.length ≤ offP all s := offP_le all (show r + 1 ≤ s from h)
/-- a place is an end, or a spot of a rule -/
theorem place_is (all : List Sp) : ∀ m n, n < offP all m → n < all.length ∨ ∃ r k, r < m ∧ k < (all.getD r noSp).sets.length ∧ n = offP all r + k
  | 0, n, h => Or.inl h
  | m + 1, n, h => by
    by_cases hn : n < offP all m
    · rcases place_is all m n hn with h | ⟨r, k, h1, h2, h3⟩
      · exact Or.inl h
      · exact Or.inr ⟨r, k, by omega, h2, h3⟩
    · have : n < offP all m + (all.getD m noSp).sets.length := h
      exact Or.inr ⟨m, n - offP all m, by omega, by omega, by omega⟩
/-- the place of a state's number -/
def plOf (all : List Sp) (x : Int) : Int := if x % 1000 = 999 then x / 1000 else (offP all (x / 1000).toNat : Int) + x % 1000
theorem plOf_end (all : List Sp) (r : Nat) : plOf all (enc r 999) = (r : Int) := by
  have e : enc r 999 % 1000 = 999 := enc_mod (by omega)
  unfold plOf
  rw [if_pos e]
  unfold enc
  omega
theorem plOf_spot (all : List Sp) {r k : Nat} (h : k < 999) : plOf all (enc r k) = ((offP all r + k : Nat) : Int) := by
  unfold plOf
  rw [enc_mod (by omega), if_neg (by omega), enc_div (by omega)]
  omega
/-- numbers that states may have -/
def FrP (all : List Sp) (x : Int) : Prop := ∃ r k : Nat, x = enc r k ∧ r < all.length ∧ (k = 999 ∨ (k < (all.getD r noSp).sets.length ∧ k < 999))
theorem frP_of {ts : List Rx} {all : List Sp} (R : RuS ts all) {x : Int} (h : FrmS ts x) : FrP all x := by
  obtain ⟨r, hr, k, rfl, hk⟩ := h
  refine ⟨r, k, rfl, by rw [R.len]; exact hr, ?_⟩
  rcases hk with hk | hk
  · exact Or.inl hk
  · have := R.few r hr
    have e := (R.is r hr).n
    exact Or.inr ⟨by omega, by omega⟩
theorem plOf_inj {all : List Sp} {x y : Int} (hx : FrP all x) (hy : FrP all y) (h : plOf all x = plOf all y) : x = y := by
  obtain ⟨r, k, rfl, hr, hk⟩ := hx
  obtain ⟨s, j, rfl, hs, hj⟩ := hy
  have l1 := offP_low all r
  have l2 := offP_low all s
  rcases hk with rfl | ⟨hk, hk9⟩ <;> rcases hj with rfl | ⟨hj, hj9⟩
  · rw [plOf_end, plOf_end] at h
    have : r = s := by omega
    rw [this]
  · rw [plOf_end, plOf_spot all hj9] at h
    omega
  · rw [plOf_end, plOf_spot all hk9] at h
    omega
  · rw [plOf_spot all hk9, plOf_spot all hj9] at h
    have hrs : r = s := by
      rcases Nat.lt_trichotomy r s with h' | h' | h'
      · have := offP_next all h'
        omega
      · exact h'
      · have := offP_next all h'
        omega
    subst hrs
    have : k = j := by omega
    rw [this]
theorem plOf_in {all : List Sp} {x : Int} (hx : FrP all x) : 0 ≤ plOf all x ∧ plOf all x < (totP all : Int) := by
  obtain ⟨r, k, rfl, hr, hk⟩ := hx
  have l1 := offP_low all all.length
  rcases hk with rfl | ⟨hk, hk9⟩
  · rw [plOf_end]
    unfold totP
    omega
  · rw [plOf_spot all hk9]
    have := offP_next all hr
    unfold totP
    omega
/-- a text with a byte 1 for each number of a list -/
def markT (n : Nat) (l : List Int) : Txt := (List.range n).map fun (i : Nat) => if l.contains (i : Int) then 1 else 0
theorem markT_len (n : Nat) (l : List Int) : (markT n l).length = n := by simp [markT]
theorem markT_at {n i : Nat} (h : i < n) (l : List Int) : (markT n l).getD i 0 = if l.contains (i : Int) then 1 else 0 := by
  unfold markT
  rw [List.getD_eq_getElem?_getD, List.getElem?_map, List.getElem?_range h]
  rfl
theorem markT_one {n i : Nat} (h : i < n) (l : List Int) : (markT n l).getD i 0 = 1 ↔ (i : Int) ∈ l := by
  rw [markT_at h]
  by_cases hi : l.contains (i : Int) = true
  · rw [if_pos hi]
    simp [List.contains_iff_mem.1 hi]
  · rw [if_neg hi]
    have : ¬ (i : Int) ∈ l := fun h => hi (List.contains_iff_mem.2 h)
    simp [this]
theorem markT_congr {n : Nat} {l m : List Int} (h : ∀ i : Nat, i < n → ((i : Int) ∈ l ↔ (i : Int) ∈ m)) : markT n l = markT n m := by
  unfold markT
  refine List.map_congr_left fun i hi => ?_
  have hi' : i < n := by simpa using hi
  have e : l.contains (i : Int) = m.contains (i : Int) := by
    rw [Bool.eq_iff_iff, List.contains_iff_mem, List.contains_iff_mem]
    exact h i hi'
  rw [e]
/-- the text of a state -/
def txS (all : List Sp) (st : St) : Txt := markT (totP all) (st.map (plOf all))
theorem txS_one {all : List Sp} {st : St} (hs : ∀ x ∈ st, FrP all x) {x : Int} (hx : FrP all x) : (txS all st).getD (plOf all x).toNat 0 = 1 ↔ x ∈ st := by
  have hi := plOf_in hx
  unfold txS
  rw [markT_one (by omega), List.mem_map]
  rw [Int.toNat_of_nonneg hi.1]
  constructor
  · rintro ⟨y, hy, e⟩
    rw [← plOf_inj (hs y hy) hx e]
    exact hy
  · exact fun h => ⟨x, h, rfl⟩
theorem txS_inj {all : List Sp} {st su : St} (hs : ∀ x ∈ st, FrP all x) (hu : ∀ x ∈ su, FrP all x) (us : Up st) (uu : Up su) (h : txS all st = txS all su) : st = su := by
  refine up_uniq us uu fun x => ?_
  constructor
  · intro hx
    rw [← txS_one hu (hs x hx), ← h, txS_one hs (hs x hx)]
    exact hx
  · intro hx
    rw [← txS_one hs (hu x hx), h, txS_one hu (hu x hx)]
    exact hx
/-- the sets of the places, of the first m rules -/
def setsP (all : List Sp) : Nat → List W4
  | 0 => List.replicate all.length noneB
  | m + 1 => setsP all m ++ (all.getD m noSp).sets
def behOne (all : List Sp) (r k : Nat) : List Int := (((all.getD r noSp).follow.getD k []).map fun x => (offP all r : Int) + x) ++ (if (all.getD r noSp).last.contains (k : Int) then [(r : Int)] else [])
def behP (all : List Sp) : Nat → List (List Int)
  | 0 => List.replicate all.length []
  | m + 1 => behP all m ++ (List.range (all.getD m noSp).sets.length).map (behOne all m)
def firP (all : List Sp) : Nat → List Int
  | 0 => []
  | m + 1 => firP all m ++ (((all.getD m noSp).first.map fun x => (offP all m : Int) + x) ++ (if (all.getD m noSp).null then [(m : Int)] else []))
theorem setsP_len (all : List Sp) : ∀ m, (setsP all m).length = offP all m
  | 0 => by simp [setsP, offP]
  | m + 1 => by rw [setsP, List.length_append, setsP_len all m]; rfl
theorem behP_len (all : List Sp) : ∀ m, (behP all m).length = offP all m
  | 0 => by simp [behP, offP]
  | m + 1 => by rw [behP, List.length_append, behP_len all m, List.length_map, List.length_range]; rfl
theorem getD_left {α : Type} {l r : List α} {d : α} {i : Nat} (h : i < l.length) : (l ++ r).getD i d = l.getD i d := by
  simp [List.getD_eq_getElem?_getD, List.getElem?_append_left h]
theorem getD_right {α : Type} {l r : List α} {d : α} {i : Nat} : (l ++ r).getD (l.length + i) d = r.getD i d := by
  simp [List.getD_eq_getElem?_getD, List.getElem?_append_right]
theorem setsP_end (all : List Sp) : ∀ m n, n < all.length → (setsP all m).getD n noneB = noneB
  | 0, n, h => by simp [setsP, List.getD_eq_getElem?_getD, h]
  | m + 1, n, h => by
    have := offP_low all m
    rw [setsP, getD_left (by rw [setsP_len]; omega), setsP_end all m n h]
theorem behP_end (all : List Sp) : ∀ m n, n < all.length → (behP all m).getD n [] = []
  | 0, n, h => by simp [behP, List.getD_eq_getElem?_getD, h]
  | m + 1, n, h => by
    have := offP_low all m
    rw [behP, getD_left (by rw [behP_len]; omega), behP_end all m n h]
theorem setsP_at (all : List Sp) {r k : Nat} (hk : k < (all.getD r noSp).sets.length) : ∀ m, r < m → (setsP all m).getD (offP all r + k) noneB = (all.getD r noSp).sets.getD k noneB
  | 0, h => by omega
  | m + 1, h => by
    rw [setsP]
    by_cases e : r = m
    · subst e
      rw [← setsP_len all r, getD_right]
    · have := offP_next all (show r < m by omega)
      rw [getD_left (by rw [setsP_len]; omega), setsP_at all hk m (by omega)]
theorem behP_at (all : List Sp) {r k : Nat} (hk : k < (all.getD r noSp).sets.length) : ∀ m, r < m → (behP all m).getD (offP all r + k) [] = behOne all r k
  | 0, h => by omega
  | m + 1, h => by
    rw [behP]
    by_cases e : r = m
    · subst e
      rw [← behP_len all r, getD_right, List.getD_eq_getElem?_getD, List.getElem?_map, List.getElem?_range hk]
      rfl
    · have := offP_next all (show r < m by omega)
      rw [getD_left (by rw [behP_len]; omega), behP_at all hk m (by omega)]
theorem oneS_pl {ts : List Rx} {all : List Sp} (R : RuS ts all) {r : Nat} (h : r < ts.length) : (oneS r (all.getD r noSp)).map (plOf all) = ((all.getD r noSp).first.map fun x => (offP all r : Int) + x) ++ (if (all.getD r noSp).null then [(r : Int)] else []) := by
  unfold oneS
  rw [List.map_append]
  congr 1
  · unfold wideL
    rw [List.map_map]
    refine List.map_congr_left fun x hx => ?_
    obtain ⟨k, rfl, hk⟩ := ((R.is r h).first x).1 hx
    have := fst_in ts[r] 0 k hk
    have := R.few r h
    show plOf all (enc r k) = _
    rw [plOf_spot all (by omega)]
    omega
  · split
    · show [plOf all (enc r 999)] = _
      rw [plOf_end]
    · rfl
theorem firP_is {ts : List Rx} {all : List Sp} (R : RuS ts all) : ∀ m, m ≤ ts.length → firP all m = (firstS all m).map (plOf all)
  | 0, _ => rfl
  | m + 1, h => by rw [firP, firstS, List.map_append, firP_is R m (by omega), oneS_pl R (by omega)]
/-- what is behind a spot, by places -/
theorem beh_mem {ts : List Rx} {all : List Sp} (R : RuS ts all) {r k : Nat} (h : r < ts.length) (hk : k < nSets ts[r]) (i : Int) : i ∈ behOne all r k ↔ (∃ j, Fol ts[r] 0 k j ∧ i = plOf all (enc r j)) ∨ (Lst ts[r] 0 k ∧ i = plOf all (enc r 999)) := by
  have H := R.is r h
  have hf := R.few r h
  unfold behOne
  rw [List.mem_append, List.mem_map]
  refine or_congr ?_ ?_
  · constructor
    · rintro ⟨x, hx, rfl⟩
      obtain ⟨j, rfl, hj⟩ := (H.follow k x hk).1 hx
      have := fol_in ts[r] 0 k j hj
      refine ⟨j, hj, ?_⟩
      rw [plOf_spot all (by omega)]
      omega
    · rintro ⟨j, hj, rfl⟩
      have := fol_in ts[r] 0 k j hj
      refine ⟨(j : Int), (H.follow k _ hk).2 ⟨j, rfl, hj⟩, ?_⟩
      rw [plOf_spot all (by omega)]
      omega
  · rw [plOf_end]
    by_cases hl : (all.getD r noSp).last.contains (k : Int) = true
    · rw [if_pos hl]
      simp [(H.last_has k).1 hl]
    · rw [if_neg hl]
      have : ¬ Lst ts[r] 0 k := fun h => hl ((H.last_has k).2 h)
      simp [this]
/-- the places to which a state leads by a byte, when n places are gone through -/
def byN (S : List W4) (G : List (List Int)) (T : Txt) (b : Nat) : Nat → List Int
  | 0 => []
  | n + 1 => byN S G T b n ++ (if T.getD n 0 = 1 ∧ hasB (S.getD n noneB) b = true then G.getD n [] else [])
def leN (S : List W4) (T : Txt) (b : Nat) : Nat → Bool
  | 0 => false
  | n + 1 => leN S T b n || (decide (T.getD n 0 = 1) && hasB (S.getD n noneB) b)
theorem byN_mem (S : List W4) (G : List (List Int)) (T : Txt) (b : Nat) (i : Int) : ∀ n, i ∈ byN S G T b n ↔ ∃ m, m < n ∧ T.getD m 0 = 1 ∧ hasB (S.getD m noneB) b = true ∧ i ∈ G.getD m []
  | 0 => by simp [byN]
  | n + 1 => by
    rw [byN, List.mem_append, byN_mem S G T b i n]
    constructor
    · rintro (⟨m, h1, h2⟩ | h)
      · exact ⟨m, by omega, h2⟩
      · split at h
        · rename_i hc
          exact ⟨n, by omega, hc.1, hc.2, h⟩
        · cases h
    · rintro ⟨m, h1, h2, h3, h4⟩
      by_cases e : m = n
      · subst e
        exact Or.inr (by rw [if_pos ⟨h2, h3⟩]; exact h4)
      · exact Or.inl ⟨m, by omega, h2, h3, h4⟩
theorem leN_is (S : List W4) (T : Txt) (b : Nat) : ∀ n, leN S T b n = true ↔ ∃ m, m < n ∧ T.getD m 0 = 1 ∧ hasB (S.getD m noneB) b = true
  | 0 => by simp [leN]
  | n + 1 => by
    rw [leN, Bool.or_eq_true, Bool.and_eq_true, decide_eq_true_iff, leN_is S T b n]
    constructor
    · rintro (⟨m, h1, h2⟩ | h)
      · exact ⟨m, by omega, h2⟩
      · exact ⟨n, by omega, h.1, h.2⟩
    · rintro ⟨m, h1, h2, h3⟩
      by_cases e : m = n
      · subst e
        exact Or.inr ⟨h2, h3⟩
      · exact Or.inl ⟨m, by omega, h2, h3⟩
/-- the set of a place has a byte just where it is a spot that has it -/
theorem place_has {ts : List Rx} {all : List Sp} (R : RuS ts all) {st : St} (hs : ∀ x ∈ st, FrmS ts x) (b m : Nat) (hm : m < totP all) :
    ((txS all st).getD m 0 = 1 ∧ hasB ((setsP all all.length).getD m noneB) b = true) ↔ ∃ r, ∃ h : r < ts.length, ∃ k, k < nSets ts[r] ∧ m = offP all r + k ∧ enc r k ∈ st ∧ hasB (gOf ts[r] k) b = true := by
  have hs' : ∀ x ∈ st, FrP all x := fun x hx => frP_of R (hs x hx)
  rcases place_is all all.length m hm with h | ⟨r, k, h1, h2, h3⟩
  · rw [setsP_end all _ m h]
    constructor
    · rintro ⟨_, h'⟩
      rw [noneB_has] at h'
      cases h'
    · rintro ⟨r, hr, k, hk, e, _⟩
      have := offP_low all r
      omega
  · subst h3
    have hr : r < ts.length := by rw [← R.len]; exact h1
    have hn := (R.is r hr).n
    have hf := R.few r hr
    have e4 : ((all.getD r noSp).sets.getD k noneB) = gOf ts[r] k := by rw [(R.is r hr).sets]; rfl
    have hfr : FrP all (enc r k) := ⟨r, k, rfl, h1, Or.inr ⟨h2, by omega⟩⟩
    have hone := txS_one hs' hfr
    rw [plOf_spot all (by omega), Int.toNat_natCast] at hone
    rw [setsP_at all h2 _ h1, e4, hone]
    constructor
    · rintro ⟨h4, h5⟩
      exact ⟨r, hr, k, by omega, rfl, h4, h5⟩
    · rintro ⟨s, hs2, j, hj, e, h4, h5⟩
      have hns := (R.is s hs2).n
      have hfs := R.few s hs2
      have hfr' : FrP all (enc s j) := ⟨s, j, rfl, by rw [R.len]; exact hs2, Or.inr ⟨by omega, by omega⟩⟩
      have := plOf_inj hfr hfr' (by rw [plOf_spot all (by omega), plOf_spot all (by omega), e])
      obtain ⟨rfl, rfl⟩ := enc_inj (by omega) (by omega) this
      exact ⟨h4, h5⟩
/-- where the text of a state leads is the text of where the state leads -/
theorem byT_is {ts : List Rx} {all : List Sp} (R : RuS ts all) {st : St} (hs : ∀ x ∈ st, FrmS ts x) (b : Nat) :
    markT (totP all) (byN (setsP all all.length) (behP all all.length) (txS all st) b (totP all)) = txS all (byS all st b) := by
  unfold txS
  refine markT_congr fun i hi => ?_
  rw [byN_mem, List.mem_map]
  constructor
  · rintro ⟨m, hm, h1, h2, h3⟩
    obtain ⟨r, hr, k, hk, rfl, h4, h5⟩ := (place_has R hs b m hm).1 ⟨h1, h2⟩
    rw [behP_at all (by rw [(R.is r hr).n]; exact hk) _ (by rw [R.len]; exact hr)] at h3
    rcases (beh_mem R hr hk (i : Int)).1 h3 with ⟨j, hj, e⟩ | ⟨hl, e⟩
    · exact ⟨enc r j, (byS_mem all st b _).2 ⟨_, h4, (byOne_mem R hr hk b _).2 ⟨h5, Or.inl ⟨j, hj, rfl⟩⟩⟩, e.symm⟩
    · exact ⟨enc r 999, (byS_mem all st b _).2 ⟨_, h4, (byOne_mem R hr hk b _).2 ⟨h5, Or.inr ⟨hl, rfl⟩⟩⟩, e.symm⟩
  · rintro ⟨y, hy, e⟩
    obtain ⟨x, hx, hy⟩ := (byS_mem all st b y).1 hy
    obtain ⟨r, hr, k, rfl, rfl | hk⟩ := hs x hx
    · rw [byOne_end] at hy; cases hy
    · obtain ⟨h5, h6⟩ := (byOne_mem R hr hk b y).1 hy
      have hkn : k < (all.getD r noSp).sets.length := by rw [(R.is r hr).n]; exact hk
      have hm : offP all r + k < totP all := by
        have := offP_next all (show r < all.length by rw [R.len]; exact hr)
        unfold totP
        omega
      obtain ⟨h1, h2⟩ := (place_has R hs b _ hm).2 ⟨r, hr, k, hk, rfl, hx, h5⟩
      refine ⟨_, hm, h1, h2, ?_⟩
      rw [behP_at all hkn _ (by rw [R.len]; exact hr), beh_mem R hr hk]
      rcases h6 with ⟨j, hj, rfl⟩ | ⟨hl, rfl⟩
      · exact Or.inl ⟨j, hj, e.symm⟩
      · exact Or.inr ⟨hl, e.symm⟩
theorem leT_is {ts : List Rx} {all : List Sp} (R : RuS ts all) {st : St} (hs : ∀ x ∈ st, FrmS ts x) (b : Nat) :
    leN (setsP all all.length) (txS all st) b (totP all) = !decide (byS all st b = []) := by
  rw [Bool.eq_iff_iff, leN_is, Bool.not_eq_true', decide_eq_false_iff_not]
  constructor
  · rintro ⟨m, hm, h⟩
    obtain ⟨r, hr, k, hk, rfl, h4, h5⟩ := (place_has R hs b m hm).1 h
    have key : ∃ y, y ∈ byS all st b := by
      rcases leads_on ts[r] 0 k (by omega) (by omega) with hl | ⟨j, hj⟩
      · exact ⟨_, (byS_mem all st b _).2 ⟨_, h4, (byOne_mem R hr hk b _).2 ⟨h5, Or.inr ⟨hl, rfl⟩⟩⟩⟩
      · exact ⟨_, (byS_mem all st b _).2 ⟨_, h4, (byOne_mem R hr hk b _).2 ⟨h5, Or.inl ⟨j, hj, rfl⟩⟩⟩⟩
    obtain ⟨y, hy⟩ := key
    intro e
    rw [e] at hy
    cases hy
  · intro hne
    obtain ⟨y, hy⟩ := List.exists_mem_of_ne_nil _ hne
    obtain ⟨x, hx, hy⟩ := (byS_mem all st b y).1 hy
    obtain ⟨r, hr, k, rfl, rfl | hk⟩ := hs x hx
    · rw [byOne_end] at hy; cases hy
    · obtain ⟨h5, _⟩ := (byOne_mem R hr hk b y).1 hy
      have hkn : k < (all.getD r noSp).sets.length := by rw [(R.is r hr).n]; exact hk
      have hm : offP all r + k < totP all := by
        have := offP_next all (show r < all.length by rw [R.len]; exact hr)
        unfold totP
        omega
      exact ⟨_, hm, (place_has R hs b _ hm).2 ⟨r, hr, k, hk, rfl, hx, h5⟩⟩
theorem end_one {ts : List Rx} {all : List Sp} (R : RuS ts all) {st : St} (hs : ∀ x ∈ st, FrmS ts x) {r : Nat} (h : r < all.length) : (txS all st).getD r 0 = 1 ↔ enc r 999 ∈ st := by
  have := txS_one (all := all) (fun x hx => frP_of R (hs x hx)) (x := enc r 999) ⟨r, 999, rfl, h, Or.inl rfl⟩
  rwa [plOf_end, Int.toNat_natCast] at this
/-- what a text accepts: the first end -/
theorem accT_some {ts : List Rx} {all : List Sp} (R : RuS ts all) {st : St} (hs : ∀ x ∈ st, FrmS ts x) (hu : Up st) {r : Nat} (h : r < all.length) (h1 : (txS all st).getD r 0 = 1) (hn : ∀ s, s < r → (txS all st).getD s 0 ≠ 1) : accS st = (r : Int) :=
  acc_some hu hs ((end_one R hs h).1 h1) (fun s hs' he => hn s hs' ((end_one R hs (by omega)).2 he)) R.few
theorem accT_none {ts : List Rx} {all : List Sp} (R : RuS ts all) {st : St} (hs : ∀ x ∈ st, FrmS ts x) (hn : ∀ s, s < all.length → (txS all st).getD s 0 ≠ 1) : accS st = -1 :=
  acc_none hs (fun r hr he => hn r (by rw [R.len]; exact hr) ((end_one R hs (by rw [R.len]; exact hr)).2 he)) R.few
theorem stsK_up {ts : List Rx} {all : List Sp} (R : RuS ts all) : ∀ i, ∀ st ∈ stsK all i, Up st
  | 0 => by
    intro st hst
    have : st = firstS all all.length := by simpa [stsK] using hst
    subst this
    exact firstS_up R _ (by rw [R.len]; exact Nat.le_refl _)
  | i + 1 => by
    intro st hst
    obtain ⟨U, hU, hU'⟩ := stsK_more all i
    rw [hU] at hst
    rcases List.mem_append.1 hst with h | h
    · exact stsK_up R i st h
    · obtain ⟨c, _, rfl, _⟩ := hU' st h
      exact byS_up _ _ _
/-- bytes that no set tells apart lead to the same -/
theorem byS_alike {ts : List Rx} {all : List Sp} (R : RuS ts all) {st : St} (hs : ∀ x ∈ st, FrmS ts x) {b c : Nat} (h : al (setsP all all.length) b c = true) : byS all st b = byS all st c := by
  have hal : ∀ r (hr : r < ts.length) k, k < nSets ts[r] → hasB (gOf ts[r] k) b = hasB (gOf ts[r] k) c := by
    intro r hr k hk
    have hkn : k < (all.getD r noSp).sets.length := by rw [(R.is r hr).n]; exact hk
    have hra : r < all.length := by rw [R.len]; exact hr
    have e4 : ((all.getD r noSp).sets.getD k noneB) = gOf ts[r] k := by rw [(R.is r hr).sets]; rfl
    have hlt : offP all r + k < (setsP all all.length).length := by
      have := offP_next all hra
      rw [setsP_len]
      omega
    have := (al_iff _ b c).1 h ((setsP all all.length).getD (offP all r + k) noneB) (by
      rw [List.getD_eq_getElem?_getD, List.getElem?_eq_getElem hlt]
      exact List.getElem_mem hlt)
    rw [setsP_at all hkn _ hra, e4] at this
    exact this
  refine up_uniq (byS_up _ _ _) (byS_up _ _ _) fun y => ?_
  rw [byS_mem, byS_mem]
  have key : ∀ x ∈ st, (y ∈ byOne all b x ↔ y ∈ byOne all c x) := by
    intro x hx
    obtain ⟨r, hr, k, rfl, rfl | hk⟩ := hs x hx
    · rw [byOne_end, byOne_end]
    · rw [byOne_mem R hr hk, byOne_mem R hr hk, hal r hr k hk]
  exact ⟨fun ⟨x, hx, h⟩ => ⟨x, hx, (key x hx).1 h⟩, fun ⟨x, hx, h⟩ => ⟨x, hx, (key x hx).2 h⟩⟩

end Go.Proofs.YtonlcnmlklaicaaGreatDoor
namespace Go.Proofs.YtonlcnmlklaicaaGreatDoor

/-- one more state, if it is one, and wasn't met -/
def metS (L : List St) (to : St) : List St := if to = [] then L else if to ∈ L then L else L ++ [to]
theorem metS_nil (L : List St) : metS L [] = L := by unfold metS; rw [if_pos rfl]
theorem metS_old {L : List St} {to : St} (h : to ∈ L) : metS L to = L := by
  unfold metS
  split
  · rfl
  · first | rfl | rw [if_pos h]
theorem metS_new {L : List St} {to : St} (h0 : to ≠ []) (h : ¬ to ∈ L) : metS L to = L ++ [to] := by
  unfold metS
  rw [if_neg h0, if_neg h]
theorem metS_more (L : List St) (to : St) : ∃ U, metS L to = L ++ U := by
  unfold metS
  split
  · exact ⟨[], by simp⟩
  · split
    · exact ⟨[], by simp⟩
    · exact ⟨_, rfl⟩
theorem rowK_met1 (all : List Sp) (st : St) (S : List St) (b : Nat) : (rowK all st S (b + 1)).1 = metS (rowK all st S b).1 (byS all st b) := by
  rcases rowK_cases all st S b with ⟨h, e⟩ | ⟨h, hm, e⟩ | ⟨h, hm, e⟩
  · rw [e, h, metS_nil]
  · rw [e, metS_old hm]
  · rw [e, metS_new h hm]
/-- the states when k parts are gone through -/
def prtK (all : List Sp) (st : St) (S : List St) (reps : List Nat) : Nat → List St
  | 0 => S
  | k + 1 => metS (prtK all st S reps k) (byS all st (reps.getD k 0))
theorem repN_more (l : List W4) (c : Nat) : ∀ d, ∃ U, repN l (c + d) = repN l c ++ U
  | 0 => ⟨[], by simp⟩
  | d + 1 => by
    obtain ⟨U, hU⟩ := repN_more l c d
    rw [← Nat.add_assoc]
    cases hk : (repN l (c + d)).any (fun r => al l r (c + d)) with
    | true => exact ⟨U, by rw [repN_old hk, hU]⟩
    | false => exact ⟨U ++ [c + d], by rw [repN_new hk, hU, List.append_assoc]⟩
theorem rowOK_mem {T : List St} {to : St} {n : Int} (h : RowOK T to n) : to = [] ∨ to ∈ T := by
  rcases h with ⟨h, _⟩ | ⟨_, m, _, hm⟩
  · exact Or.inl h
  · exact Or.inr (List.mem_of_getElem? hm)
theorem metS_idle {T : List St} {to : St} (h : to = [] ∨ to ∈ T) : metS T to = T := by
  rcases h with rfl | h
  · exact metS_nil T
  · exact metS_old h
theorem prt_row {ts : List Rx} {all : List Sp} (R : RuS ts all) {st : St} (hs : ∀ x ∈ st, FrmS ts x) {S : List St} (hS : S.Nodup) : ∀ c, c ≤ 256 → prtK all st S (repN (setsP all all.length) 256) (repN (setsP all all.length) c).length = (rowK all st S c).1
  | 0, _ => by rw [repN_zero]; rfl
  | c + 1, hc => by
    have ih := prt_row R hs hS c (by omega)
    rw [rowK_met1]
    cases hk : (repN (setsP all all.length) c).any (fun r => al (setsP all all.length) r c) with
    | true =>
      rw [repN_old hk, ih]
      obtain ⟨r, hr, hal⟩ := List.any_eq_true.1 hk
      have hlt := repN_lt _ c r hr
      have hrow := (rowK_is all st S hS c).row r hlt
      rw [byS_alike R hs hal] at hrow
      exact (metS_idle (rowOK_mem hrow)).symm
    | false =>
      obtain ⟨U, hU⟩ := repN_more (setsP all all.length) (c + 1) (256 - (c + 1))
      rw [show c + 1 + (256 - (c + 1)) = 256 by omega] at hU
      have hat : (repN (setsP all all.length) 256).getD (repN (setsP all all.length) c).length 0 = c := by
        rw [hU, repN_new hk, List.append_assoc, List.getD_eq_getElem?_getD, List.getElem?_append_right (Nat.le_refl _)]
        simp
      rw [repN_new hk, List.length_append, List.length_singleton, prtK, ih, hat]
theorem prt_end {ts : List Rx} {all : List Sp} (R : RuS ts all) {st : St} (hs : ∀ x ∈ st, FrmS ts x) {S : List St} (hS : S.Nodup) : prtK all st S (repN (setsP all all.length) 256) (repN (setsP all all.length) 256).length = (rowK all st S 256).1 := prt_row R hs hS 256 (Nat.le_refl _)
theorem rowOK_uniq {T : List St} (hT : T.Nodup) {to : St} {n m : Int} (h : RowOK T to n) (h' : RowOK T to m) : n = m := by
  rcases h with ⟨h, e⟩ | ⟨h, a, e, ha⟩ <;> rcases h' with ⟨h', e'⟩ | ⟨h', a', e', ha'⟩
  · omega
  · exact absurd h h'
  · exact absurd h' h
  · have hlt : a < T.length := by
      rcases Nat.lt_or_ge a T.length with h | h
      · exact h
      · rw [List.getElem?_eq_none h] at ha; cases ha
    have := (List.getElem?_inj hlt hT).1 (ha.trans ha'.symm)
    omega
/-- what a row holds when k parts are gone through -/
def PrtR (all : List Sp) (st : St) (S : List St) (l : List W4) (k : Nat) (rw : List Int) : Prop := rw.length = 256 ∧ ∀ j, j < k → ∀ b, b < 256 → al l ((repN l 256).getD j 0) b = true → RowOK (prtK all st S (repN l 256) k) (byS all st b) (rw.getD b 0)
def putR (P : W4) (nx : Int) (rw : List Int) : List Int := (List.range 256).map fun b => if hasB P b then nx else rw.getD b 0
theorem putR_len (P : W4) (nx : Int) (rw : List Int) : (putR P nx rw).length = 256 := by simp [putR]
theorem putR_at (P : W4) (nx : Int) (rw : List Int) {b : Nat} (h : b < 256) : (putR P nx rw).getD b 0 = if hasB P b then nx else rw.getD b 0 := by
  unfold putR
  rw [List.getD_eq_getElem?_getD, List.getElem?_map, List.getElem?_range h]
  rfl
theorem PrtR.step {ts : List Rx} {all : List Sp} (R : RuS ts all) {st : St} (hs : ∀ x ∈ st, FrmS ts x) {S : List St} {k : Nat} {rw : List Int} (h : PrtR all st S (setsP all all.length) k rw) {nx : Int}
    (hn : RowOK (prtK all st S (repN (setsP all all.length) 256) (k + 1)) (byS all st ((repN (setsP all all.length) 256).getD k 0)) nx) :
    PrtR all st S (setsP all all.length) (k + 1) (putR (clsB (setsP all all.length) ((repN (setsP all all.length) 256).getD k 0)) nx rw) := by
  refine ⟨putR_len _ _ _, fun j hj b hb hal => ?_⟩
  rw [putR_at _ _ _ hb]
  have hcl : hasB (clsB (setsP all all.length) ((repN (setsP all all.length) 256).getD k 0)) b = al (setsP all all.length) ((repN (setsP all all.length) 256).getD k 0) b := by
    unfold clsB
    rw [mkB_has _ b hb]
  rw [hcl]
  by_cases hk : al (setsP all all.length) ((repN (setsP all all.length) 256).getD k 0) b = true
  · rw [if_pos hk, ← byS_alike R hs hk]
    exact hn
  · rw [if_neg hk]
    have hjk : j < k := by
      rcases Nat.lt_or_ge j k with h | h
      · exact h
      · have : j = k := by omega
        subst this
        exact absurd hal hk
    have := h.2 j hjk b hb hal
    rw [prtK]
    obtain ⟨U, hU⟩ := metS_more (prtK all st S (repN (setsP all all.length) 256) k) (byS all st ((repN (setsP all all.length) 256).getD k 0))
    rw [hU]
    exact this.more U
theorem list_ext {l m : List Int} {n : Nat} (hl : l.length = n) (hm : m.length = n) (h : ∀ i, i < n → l.getD i 0 = m.getD i 0) : l = m := by
  refine List.ext_getElem (by omega) fun i h1 h2 => ?_
  have := h i (by omega)
  rw [List.getD_eq_getElem?_getD, List.getD_eq_getElem?_getD, List.getElem?_eq_getElem h1, List.getElem?_eq_getElem h2] at this
  exact this
theorem PrtR.fin {ts : List Rx} {all : List Sp} (R : RuS ts all) {st : St} (hs : ∀ x ∈ st, FrmS ts x) {S : List St} (hS : S.Nodup) {rw : List Int} (h : PrtR all st S (setsP all all.length) (repN (setsP all all.length) 256).length rw) : rw = (rowK all st S 256).2 := by
  have H := rowK_is all st S hS 256
  refine list_ext h.1 H.len fun b hb => ?_
  obtain ⟨r, hr, hal⟩ := List.any_eq_true.1 (repN_all (setsP all all.length) 256 b hb)
  obtain ⟨j, hj, rfl⟩ := List.mem_iff_getElem.1 hr
  have e : (repN (setsP all all.length) 256).getD j 0 = (repN (setsP all all.length) 256)[j] := by
    rw [List.getD_eq_getElem?_getD, List.getElem?_eq_getElem hj]
    rfl
  have h1 := h.2 j hj b hb (by rw [e]; exact hal)
  rw [prt_end R hs hS] at h1
  exact rowOK_uniq H.nd h1 (H.row b hb)
theorem idx_map {S : List St} {f : St → Txt} {to : St} (h : ∀ x ∈ S, f x = f to → x = to) : (S.map f).idxOf (f to) = S.idxOf to := by
  induction S with
  | nil => rfl
  | cons a r ih =>
    rw [List.map_cons, List.idxOf_cons, List.idxOf_cons]
    by_cases e : a = to
    · subst e
      simp
    · have e' : f a ≠ f to := fun e2 => e (h a (by simp) e2)
      rw [beq_eq_false_iff_ne.2 e, beq_eq_false_iff_ne.2 e']
      simp only [cond_false]
      rw [ih fun x hx => h x (by simp [hx])]
theorem mem_map_inj {S : List St} {f : St → Txt} {to : St} (h : ∀ x ∈ S, f x = f to → x = to) : f to ∈ S.map f ↔ to ∈ S := by
  rw [List.mem_map]
  exact ⟨fun ⟨x, hx, e⟩ => by rw [← h x hx e]; exact hx, fun hx => ⟨to, hx, rfl⟩⟩
theorem rowOK_met (L : List St) {to : St} (h0 : to ≠ []) : RowOK (metS L to) to ((L.idxOf to : Nat) : Int) := by
  refine Or.inr ⟨h0, L.idxOf to, rfl, ?_⟩
  by_cases h : to ∈ L
  · rw [metS_old h]
    exact idx_at h
  · rw [metS_new h0 h, List.idxOf_eq_length h]
    simp
/-- the states of the parts' way are states of the rules -/
theorem prt_frm {ts : List Rx} {all : List Sp} (R : RuS ts all) {st : St} (hs : ∀ x ∈ st, FrmS ts x) {S : List St} (hS : ∀ x ∈ S, (∀ y ∈ x, FrmS ts y) ∧ Up x) (reps : List Nat) : ∀ k, ∀ x ∈ prtK all st S reps k, (∀ y ∈ x, FrmS ts y) ∧ Up x
  | 0 => hS
  | k + 1 => by
    intro x hx
    rw [prtK] at hx
    unfold metS at hx
    split at hx
    · exact prt_frm R hs hS reps k x hx
    · split at hx
      · exact prt_frm R hs hS reps k x hx
      · rcases List.mem_append.1 hx with h | h
        · exact prt_frm R hs hS reps k x h
        · have : x = byS all st (reps.getD k 0) := by simpa using h
          subst this
          exact ⟨by_frm R hs _, byS_up _ _ _⟩
/-- the building ends with n states -/
structure BldTo (all : List Sp) (n : Nat) : Prop where
  on : ∀ j, j < n → j < (stsK all j).length
  few : ∀ j, j ≤ n → (stsK all j).length ≤ 240
  fin : (stsK all n).length = n
/-- the building finds too many states -/
def BldFull (all : List Sp) : Prop := ∃ n, (∀ j, j ≤ n → j < (stsK all j).length ∧ (stsK all j).length ≤ 240) ∧ 240 < (stsK all (n + 1)).length
theorem BldTo.uniq {all : List Sp} {n m : Nat} (h : BldTo all n) (h' : BldTo all m) : n = m := by
  rcases Nat.lt_trichotomy n m with hl | hl | hl
  · have := h'.on n hl
    have := h.fin
    omega
  · exact hl
  · have := h.on m hl
    have := h'.fin
    omega
theorem BldTo.not_full {all : List Sp} {n : Nat} (h : BldTo all n) : ¬ BldFull all := by
  rintro ⟨m, h1, h2⟩
  rcases Nat.lt_or_ge m n with hl | hl
  · have := h.few (m + 1) (by omega)
    omega
  · have := h.fin
    have := (h1 n hl).1
    omega
theorem BldTo.le {all : List Sp} {n : Nat} (h : BldTo all n) : n ≤ 240 := by
  have := h.few n (Nat.le_refl _)
  rw [h.fin] at this
  exact this
theorem BldTo.pos {all : List Sp} {n : Nat} (h : BldTo all n) : 0 < n := by
  rcases Nat.eq_zero_or_pos n with h0 | h0
  · subst h0
    have := h.fin
    simp [stsK] at this
  · exact h0

end Go.Proofs.YtonlcnmlklaicaaGreatDoor
namespace Go.Proofs.YtonlcnmlklaicaaGreatDoor
open Go.RowKit

theorem wideL_len (r : Nat) (l : List Int) : (wideL r l).length = l.length := by simp [wideL]
end Go.Proofs.YtonlcnmlklaicaaGreatDoor
namespace Go.Proofs.YtonlcnmlklaicaaGreatDoor
open Go.RowKit

/-- spots lie at a place -/
def AtS (w : World) (b o : Nat) (p : Sp) : Prop := ∃ sv fv lv gv, w.cell? ⟨b, o, none⟩ = some sv ∧ w.cell? ⟨b, o + 1, none⟩ = some (.bool p.null) ∧ w.cell? ⟨b, o + 2, none⟩ = some fv ∧ w.cell? ⟨b, o + 3, none⟩ = some lv ∧ w.cell? ⟨b, o + 4, none⟩ = some gv ∧ SpV w sv fv lv gv p
theorem AtS.keep {w w' : World} {b o : Nat} {p : Sp} (h : AtS w b o p) (hb : Below w.heap.size w w') : AtS w' b o p := by
  obtain ⟨sv, fv, lv, gv, h0, h1, h2, h3, h4, h5⟩ := h
  exact ⟨sv, fv, lv, gv, keep_cell hb h0, keep_cell hb h1, keep_cell hb h2, keep_cell hb h3, keep_cell hb h4, h5.keep hb⟩
/-- a slice of spots -/
def Spss (w : World) (v : Value) (l : List Sp) : Prop := ∃ a cap, v = .slice a l.length cap ∧ l.length ≤ cap ∧ (a = none → cap = 0) ∧ ∀ j (h : j < l.length), ∃ b o, a = some ⟨b, o, none⟩ ∧ b < w.heap.size ∧ AtS w b (o + j * 5) l[j]
theorem Spss.keep {w w' : World} {v : Value} {l : List Sp} (h : Spss w v l) (hb : Below w.heap.size w w') : Spss w' v l := by
  obtain ⟨a, cap, hv, hc, hn, hat⟩ := h
  refine ⟨a, cap, hv, hc, hn, fun j hj => ?_⟩
  obtain ⟨b, o, ha, hlt, h1⟩ := hat j hj
  exact ⟨b, o, ha, Nat.lt_of_lt_of_le hlt hb.size, h1.keep hb⟩
/-- spots of a size that the walks can bear -/
structure SmlS (p : Sp) : Prop where
  sets : p.sets.length ≤ 60
  first : p.first.length ≤ 60
  firstIn : ∀ x ∈ p.first, 0 ≤ x ∧ x < 60
  last : p.last.length ≤ 60
  flen : p.follow.length = p.sets.length
  follow : ∀ l ∈ p.follow, l.length ≤ 60 ∧ ∀ x ∈ l, 0 ≤ x ∧ x < 60
theorem getD_at {all : List Sp} {k : Nat} (h : k < all.length) : all.getD k noSp = all[k] := by
  rw [List.getD_eq_getElem?_getD, List.getElem?_eq_getElem h]
  rfl
theorem oneS_len {r : Nat} {p : Sp} (h : SmlS p) : (oneS r p).length ≤ 61 := by
  have := h.first
  unfold oneS
  rw [List.length_append, wideL_len]
  split <;> simp <;> omega
theorem firstS_len {all : List Sp} (h : ∀ p ∈ all, SmlS p) : ∀ m, m ≤ all.length → (firstS all m).length ≤ m * 61
  | 0, _ => by simp [firstS]
  | m + 1, hm => by
    have ih := firstS_len h m (by omega)
    have h1 := oneS_len (r := m) (h all[m] (List.getElem_mem (by omega)))
    rw [firstS, List.length_append, getD_at (by omega)]
    omega
end Go.Proofs.YtonlcnmlklaicaaGreatDoor
