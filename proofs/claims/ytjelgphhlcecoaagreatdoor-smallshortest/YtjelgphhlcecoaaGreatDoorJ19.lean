/- spots.Of: small facts. The maths of layer 8: places of all rules in one count, and a state as a text with one byte for each place. Slices of sets: own ones, appended ones. Places in memory: the object that placesOf fills. -/
import Derived.Test.YtjelgphhlcecoaaGreatDoorJ18
import Derived.Test.YtjelgphhlcecoaaGreatDoorJ12
import Derived.Test.YtjelgphhlcecoaaGreatDoorJ15
import Derived.Test.YtjelgphhlcecoaaGreatDoorJ4
import Derived.Laws.AppendOwnNone
namespace Go.Proofs.YtjelgphhlcecoaaGreatDoor
open Go.RowKit

theorem own_shape {w : World} {B n size : Nat} {e : TypeId} {v : Value} {xs : List Value} (h : w.ownsRow B e size v n xs) : ∃ a c, v = .slice a n c := by
  rcases h.2 with ⟨rfl, h0⟩ | ⟨g, cap, cur, rfl, _⟩
  · exact ⟨none, 0, by rw [h0]⟩
  · exact ⟨_, _, rfl⟩
theorem bstep {B : Nat} {W w u : World} (h : Below B W w) (hu : Below w.heap.size w u) (hB : B ≤ w.heap.size) : Below B W u := h.trans (hu.mono hB)
theorem bgrow {B : Nat} {W u w' : World} {r : Option Nat} (h : Below B W u) (hg : u.grownBy w' r) (hB : B ≤ u.heap.size) (hr : ∀ k, r = some k → B ≤ k) : Below B W w' :=
  h.trans ((Kept.of_grown hg).below (fun k e => hr k e) hB)
theorem grown_blk {u w' : World} {r : Option Nat} {b : Nat} {x : Obj} (hg : u.grownBy w' r) (hx : u.heap[b]? = some x) (hr : r ≠ some b) : w'.heap[b]? = some x := (Kept.of_grown hg).blk hx hr

theorem set_size (w : World) (a : Addr) (v : Value) : (w.setCell a v).heap.size = w.heap.size := by simp
theorem heap_new_set (w : World) (a : Addr) (v : Value) (o : Obj) : ((w.setCell a v).alloc o).heap[w.heap.size]? = some o := by
  have h := heap_new (w.setCell a v) o
  rw [set_size] at h
  exact h

theorem setsL_post : ∀ (t : Rx) (S : W4), S ∈ setsL t → (⟨1, S⟩ : Cel) ∈ post t
  | .set T, S, h => by simp [setsL] at h; subst h; simp [post]
  | .eps, S, h => by simp [setsL] at h
  | .cat a b, S, h => by
    simp only [setsL, List.mem_append] at h
    simp only [post, List.mem_append]
    rcases h with h | h
    · exact Or.inl (setsL_post a S h)
    · exact Or.inr (Or.inl (setsL_post b S h))
  | .or a b, S, h => by
    simp only [setsL, List.mem_append] at h
    simp only [post, List.mem_append]
    rcases h with h | h
    · exact Or.inl (setsL_post a S h)
    · exact Or.inr (Or.inl (setsL_post b S h))
  | .star a, S, h => by
    simp only [post, List.mem_append]
    exact Or.inl (setsL_post a S h)
  | .plus a, S, h => by
    simp only [post, List.mem_append]
    exact Or.inl (setsL_post a S h)
  | .opt a, S, h => by
    simp only [post, List.mem_append]
    exact Or.inl (setsL_post a S h)
theorem setsS_eps (st : List Rx) : setsS (.eps :: st) = setsS st := by simp [setsS, setsL]
theorem two_top {st : List Rx} (h : (2 : Int) ≤ (st.length : Int)) : ∃ b a r, st = b :: a :: r := by
  match st, h with
  | b :: a :: r, _ => exact ⟨b, a, r, rfl⟩
  | [_], h => simp at h
  | [], h => simp at h
theorem one_top {st : List Rx} (h : (1 : Int) ≤ (st.length : Int)) : ∃ a r, st = a :: r := by
  match st, h with
  | a :: r, _ => exact ⟨a, r, rfl⟩
  | [], h => simp at h
theorem own_form3 {w : World} {B n size : Nat} {e : TypeId} {v : Value} {xs : List Value} (h : w.ownsRow B e size v n xs) (hn : 0 < n) : ∃ g cap, v = .slice (some ⟨g, 0, none⟩) n cap ∧ n ≤ cap := by
  rcases h.2 with ⟨rfl, h0⟩ | ⟨g, cap, cur, rfl, _, _, hc, _⟩
  · omega
  · exact ⟨g, cap, rfl, hc⟩
theorem OfM.push' {B pb n : Nat} {F : Nat → Prop} {u w' : World} {sv gv ov : Value} {S : List W4} {gs : List Value} {fl : List (List Int)} {st : List Rx} {xs : List Value} (h : OfM B pb F n u sv gv ov S gs fl st xs) {g cap : Nat} {t : Rx} {fv lv : Value} {nb : Bool} {f l : List Int} (hn : nb = t.null) (hf : f = firstL t (nS st)) (hl : l = lastL t (nS st)) (hp : PtV F u fv lv f l)
    (ho : w'.ownsRow B 117 3 (.slice (some ⟨g, 0, none⟩) (st.length + 1) cap) (st.length + 1) (xs ++ [.bool nb, fv, lv])) (hg : u.grownBy w' ov.ownBlock) (hat : ov.ownBlock = some g ∨ g = u.heap.size) :
    OfM B pb (fun k => F k ∨ k = g) n w' sv gv (.slice (some ⟨g, 0, none⟩) (st.length + 1) cap) S gs fl (t :: st) (xs ++ [.bool nb, fv, lv]) := by
  subst hn hf hl
  exact h.push hp ho hg hat
theorem OfM.put' {B pb n : Nat} {F : Nat → Prop} {w : World} {sv gv : Value} {S : List W4} {gs : List Value} {fl : List (List Int)} {a t : Rx} {r : List Rx} {ys : List Value} {x0 x1 x2 fv lv : Value} {g cap : Nat} {nb : Bool} (h : OfM B pb F n w sv gv (.slice (some ⟨g, 0, none⟩) (r.length + 1) cap) S gs fl (a :: r) (ys ++ [x0, x1, x2])) (hn : nb = t.null) (hl : ys.length = r.length * 3) (hr : PtS F w r ys) (hp : PtV F w fv lv (firstL t (nS r)) (lastL t (nS r))) :
    OfM B pb F n (((w.setCell ⟨g, r.length * 3, none⟩ (.bool nb)).setCell ⟨g, r.length * 3 + 1, none⟩ fv).setCell ⟨g, r.length * 3 + 2, none⟩ lv) sv gv (.slice (some ⟨g, 0, none⟩) (r.length + 1) cap) S gs fl (t :: r) (ys ++ [.bool nb, fv, lv]) := by
  subst hn
  exact h.put hl hr hp

end Go.Proofs.YtjelgphhlcecoaaGreatDoor
namespace Go.Proofs.YtjelgphhlcecoaaGreatDoor

theorem fst_some : ∀ (t : Rx) (n : Nat), t.null = false → ∃ k, Fst t n k
  | .set _, n, _ => ⟨n, rfl⟩
  | .eps, _, h => by simp [Rx.null] at h
  | .cat a b, n, h => by
    cases ha : a.null with
    | false =>
      obtain ⟨k, hk⟩ := fst_some a n ha
      exact ⟨k, Or.inl hk⟩
    | true =>
      have hb : b.null = false := by simpa [Rx.null, ha] using h
      obtain ⟨k, hk⟩ := fst_some b (n + nSets a) hb
      exact ⟨k, Or.inr ⟨ha, hk⟩⟩
  | .or a b, n, h => by
    have ha : a.null = false := by
      cases ha : a.null with
      | false => rfl
      | true => simp [Rx.null, ha] at h
    obtain ⟨k, hk⟩ := fst_some a n ha
    exact ⟨k, Or.inl hk⟩
  | .star a, _, h => by simp [Rx.null] at h
  | .plus a, n, h => fst_some a n (by simpa [Rx.null] using h)
  | .opt a, _, h => by simp [Rx.null] at h
/-- each spot leads somewhere -/
theorem leads_on : ∀ (t : Rx) (n j : Nat), n ≤ j → j < n + nSets t → Lst t n j ∨ ∃ k, Fol t n j k
  | .set _, n, j, h1, h2 => Or.inl (by simp only [nSets] at h2; show j = n; omega)
  | .eps, _, _, h1, h2 => by simp only [nSets] at h2; omega
  | .cat a b, n, j, h1, h2 => by
    simp only [nSets] at h2
    by_cases hj : j < n + nSets a
    · rcases leads_on a n j h1 hj with h | ⟨k, h⟩
      · cases hb : b.null with
        | true => exact Or.inl (Or.inr ⟨hb, h⟩)
        | false =>
          obtain ⟨k, hk⟩ := fst_some b (n + nSets a) hb
          exact Or.inr ⟨k, Or.inr (Or.inr ⟨h, hk⟩)⟩
      · exact Or.inr ⟨k, Or.inl h⟩
    · rcases leads_on b (n + nSets a) j (by omega) (by omega) with h | ⟨k, h⟩
      · exact Or.inl (Or.inl h)
      · exact Or.inr ⟨k, Or.inr (Or.inl h)⟩
  | .or a b, n, j, h1, h2 => by
    simp only [nSets] at h2
    by_cases hj : j < n + nSets a
    · rcases leads_on a n j h1 hj with h | ⟨k, h⟩
      · exact Or.inl (Or.inl h)
      · exact Or.inr ⟨k, Or.inl h⟩
    · rcases leads_on b (n + nSets a) j (by omega) (by omega) with h | ⟨k, h⟩
      · exact Or.inl (Or.inr h)
      · exact Or.inr ⟨k, Or.inr h⟩
  | .star a, n, j, h1, h2 => by
    rcases leads_on a n j h1 h2 with h | ⟨k, h⟩
    · exact Or.inl h
    · exact Or.inr ⟨k, Or.inl h⟩
  | .plus a, n, j, h1, h2 => by
    rcases leads_on a n j h1 h2 with h | ⟨k, h⟩
    · exact Or.inl h
    · exact Or.inr ⟨k, Or.inl h⟩
  | .opt a, n, j, h1, h2 => leads_on a n j h1 h2

/-- where a rule's spots begin: behind all ends, and the spots of the rules ahead -/
def offP (all : List Sp) : Nat → Nat
  | 0 => all.length
  | r + 1 => offP all r + (all.getD r noSp).sets.length
def totP (all : List Sp) : Nat := offP all all.length
theorem offP_mono (all : List Sp) (r : Nat) : ∀ d, offP all r ≤ offP all (r + d)
  | 0 => Nat.le_refl _
  | d + 1 => Nat.le_trans (offP_mono all r d) (Nat.le_add_right _ _)
theorem offP_le (all : List Sp) {r s : Nat} (h : r ≤ s) : offP all r ≤ offP all s := by
  have := offP_mono all r (s - r)
  rwa [show r + (s - r) = s by omega] at this
theorem offP_low (all : List Sp) (r : Nat) : all.length ≤ offP all r := offP_le all (Nat.zero_le r)
theorem offP_next (all : List Sp) {r s : Nat} (h : r < s) : offP all r + (all.getD r noSp).sets.length ≤ offP all s := offP_le all (show r + 1 ≤ s from h)
/-- a place is an end, or a spot of a rule -/
theorem place_is (all : List Sp) : ∀ m n, n < offP all m → n < all.length ∨ ∃ r k, r < m ∧ k < (all.getD r noSp).sets.length ∧ n = offP all r + k
  | 0, n, h => Or.inl h
  | m + 1, n, h => by
    by_cases hn : n < offP all m
    · rcases place_is all m n hn with h | ⟨r, k, h1, h2, h3⟩
      · exact Or.inl h
      · exact Or.inr ⟨r, k, by omega, h2, h3⟩
    · have : n < offP all m + (all.getD m noSp).sets.length := h
      exact Or.inr ⟨m, n - offP all m, by omega, by omega, by omega⟩
/-- the place of a state's number -/
def plOf (all : List Sp) (x : Int) : Int := if x % 1000 = 999 then x / 1000 else (offP all (x / 1000).toNat : Int) + x % 1000
theorem plOf_end (all : List Sp) (r : Nat) : plOf all (enc r 999) = (r : Int) := by
  have e : enc r 999 % 1000 = 999 := enc_mod (by omega)
  unfold plOf
  rw [if_pos e]
  unfold enc
  omega
theorem plOf_spot (all : List Sp) {r k : Nat} (h : k < 999) : plOf all (enc r k) = ((offP all r + k : Nat) : Int) := by
  unfold plOf
  rw [enc_mod (by omega), if_neg (by omega), enc_div (by omega)]
  omega
/-- numbers that states may have -/
def FrP (all : List Sp) (x : Int) : Prop := ∃ r k : Nat, x = enc r k ∧ r < all.length ∧ (k = 999 ∨ (k < (all.getD r noSp).sets.length ∧ k < 999))
theorem frP_of {ts : List Rx} {all : List Sp} (R : RuS ts all) {x : Int} (h : FrmS ts x) : FrP all x := by
  obtain ⟨r, hr, k, rfl, hk⟩ := h
  refine ⟨r, k, rfl, by rw [R.len]; exact hr, ?_⟩
  rcases hk with hk | hk
  · exact Or.inl hk
  · have := R.few r hr
    have e := (R.is r hr).n
    exact Or.inr ⟨by omega, by omega⟩
theorem plOf_inj {all : List Sp} {x y : Int} (hx : FrP all x) (hy : FrP all y) (h : plOf all x = plOf all y) : x = y := by
  obtain ⟨r, k, rfl, hr, hk⟩ := hx
  obtain ⟨s, j, rfl, hs, hj⟩ := hy
  have l1 := offP_low all r
  have l2 := offP_low all s
  rcases hk with rfl | ⟨hk, hk9⟩ <;> rcases hj with rfl | ⟨hj, hj9⟩
  · rw [plOf_end, plOf_end] at h
    have : r = s := by omega
    rw [this]
  · rw [plOf_end, plOf_spot all hj9] at h
    omega
  · rw [plOf_end, plOf_spot all hk9] at h
    omega
  · rw [plOf_spot all hk9, plOf_spot all hj9] at h
    have hrs : r = s := by
      rcases Nat.lt_trichotomy r s with h' | h' | h'
      · have := offP_next all h'
        omega
      · exact h'
      · have := offP_next all h'
        omega
    subst hrs
    have : k = j := by omega
    rw [this]
theorem plOf_in {all : List Sp} {x : Int} (hx : FrP all x) : 0 ≤ plOf all x ∧ plOf all x < (totP all : Int) := by
  obtain ⟨r, k, rfl, hr, hk⟩ := hx
  have l1 := offP_low all all.length
  rcases hk with rfl | ⟨hk, hk9⟩
  · rw [plOf_end]
    unfold totP
    omega
  · rw [plOf_spot all hk9]
    have := offP_next all hr
    unfold totP
    omega
/-- a text with a byte 1 for each number of a list -/
def markT (n : Nat) (l : List Int) : Txt := (List.range n).map fun (i : Nat) => if l.contains (i : Int) then 1 else 0
theorem markT_len (n : Nat) (l : List Int) : (markT n l).length = n := by simp [markT]
theorem markT_at {n i : Nat} (h : i < n) (l : List Int) : (markT n l).getD i 0 = if l.contains (i : Int) then 1 else 0 := by
  unfold markT
  rw [List.getD_eq_getElem?_getD, List.getElem?_map, List.getElem?_range h]
  rfl
theorem markT_one {n i : Nat} (h : i < n) (l : List Int) : (markT n l).getD i 0 = 1 ↔ (i : Int) ∈ l := by
  rw [markT_at h]
  by_cases hi : l.contains (i : Int) = true
  · rw [if_pos hi]
    simp [List.contains_iff_mem.1 hi]
  · rw [if_neg hi]
    have : ¬ (i : Int) ∈ l := fun h => hi (List.contains_iff_mem.2 h)
    simp [this]
theorem markT_congr {n : Nat} {l m : List Int} (h : ∀ i : Nat, i < n → ((i : Int) ∈ l ↔ (i : Int) ∈ m)) : markT n l = markT n m := by
  unfold markT
  refine List.map_congr_left fun i hi => ?_
  have hi' : i < n := by simpa using hi
  have e : l.contains (i : Int) = m.contains (i : Int) := by
    rw [Bool.eq_iff_iff, List.contains_iff_mem, List.contains_iff_mem]
    exact h i hi'
  rw [e]
/-- the text of a state -/
def txS (all : List Sp) (st : St) : Txt := markT (totP all) (st.map (plOf all))
theorem txS_one {all : List Sp} {st : St} (hs : ∀ x ∈ st, FrP all x) {x : Int} (hx : FrP all x) : (txS all st).getD (plOf all x).toNat 0 = 1 ↔ x ∈ st := by
  have hi := plOf_in hx
  unfold txS
  rw [markT_one (by omega), List.mem_map]
  rw [Int.toNat_of_nonneg hi.1]
  constructor
  · rintro ⟨y, hy, e⟩
    rw [← plOf_inj (hs y hy) hx e]
    exact hy
  · exact fun h => ⟨x, h, rfl⟩
theorem txS_inj {all : List Sp} {st su : St} (hs : ∀ x ∈ st, FrP all x) (hu : ∀ x ∈ su, FrP all x) (us : Up st) (uu : Up su) (h : txS all st = txS all su) : st = su := by
  refine up_uniq us uu fun x => ?_
  constructor
  · intro hx
    rw [← txS_one hu (hs x hx), ← h, txS_one hs (hs x hx)]
    exact hx
  · intro hx
    rw [← txS_one hs (hu x hx), h, txS_one hu (hu x hx)]
    exact hx
/-- the sets of the places, of the first m rules -/
def setsP (all : List Sp) : Nat → List W4
  | 0 => List.replicate all.length noneB
  | m + 1 => setsP all m ++ (all.getD m noSp).sets
def behOne (all : List Sp) (r k : Nat) : List Int := (((all.getD r noSp).follow.getD k []).map fun x => (offP all r : Int) + x) ++ (if (all.getD r noSp).last.contains (k : Int) then [(r : Int)] else [])
def behP (all : List Sp) : Nat → List (List Int)
  | 0 => List.replicate all.length []
  | m + 1 => behP all m ++ (List.range (all.getD m noSp).sets.length).map (behOne all m)
def firP (all : List Sp) : Nat → List Int
  | 0 => []
  | m + 1 => firP all m ++ (((all.getD m noSp).first.map fun x => (offP all m : Int) + x) ++ (if (all.getD m noSp).null then [(m : Int)] else []))
theorem setsP_len (all : List Sp) : ∀ m, (setsP all m).length = offP all m
  | 0 => by simp [setsP, offP]
  | m + 1 => by rw [setsP, List.length_append, setsP_len all m]; rfl
theorem behP_len (all : List Sp) : ∀ m, (behP all m).length = offP all m
  | 0 => by simp [behP, offP]
  | m + 1 => by rw [behP, List.length_append, behP_len all m, List.length_map, List.length_range]; rfl
theorem getD_left {α : Type} {l r : List α} {d : α} {i : Nat} (h : i < l.length) : (l ++ r).getD i d = l.getD i d := by
  simp [List.getD_eq_getElem?_getD, List.getElem?_append_left h]
theorem getD_right {α : Type} {l r : List α} {d : α} {i : Nat} : (l ++ r).getD (l.length + i) d = r.getD i d := by
  simp [List.getD_eq_getElem?_getD, List.getElem?_append_right]
theorem setsP_end (all : List Sp) : ∀ m n, n < all.length → (setsP all m).getD n noneB = noneB
  | 0, n, h => by simp [setsP, List.getD_eq_getElem?_getD, h]
  | m + 1, n, h => by
    have := offP_low all m
    rw [setsP, getD_left (by rw [setsP_len]; omega), setsP_end all m n h]
theorem behP_end (all : List Sp) : ∀ m n, n < all.length → (behP all m).getD n [] = []
  | 0, n, h => by simp [behP, List.getD_eq_getElem?_getD, h]
  | m + 1, n, h => by
    have := offP_low all m
    rw [behP, getD_left (by rw [behP_len]; omega), behP_end all m n h]
theorem setsP_at (all : List Sp) {r k : Nat} (hk : k < (all.getD r noSp).sets.length) : ∀ m, r < m → (setsP all m).getD (offP all r + k) noneB = (all.getD r noSp).sets.getD k noneB
  | 0, h => by omega
  | m + 1, h => by
    rw [setsP]
    by_cases e : r = m
    · subst e
      rw [← setsP_len all r, getD_right]
    · have := offP_next all (show r < m by omega)
      rw [getD_left (by rw [setsP_len]; omega), setsP_at all hk m (by omega)]
theorem behP_at (all : List Sp) {r k : Nat} (hk : k < (all.getD r noSp).sets.length) : ∀ m, r < m → (behP all m).getD (offP all r + k) [] = behOne all r k
  | 0, h => by omega
  | m + 1, h => by
    rw [behP]
    by_cases e : r = m
    · subst e
      rw [← behP_len all r, getD_right, List.getD_eq_getElem?_getD, List.getElem?_map, List.getElem?_range hk]
      rfl
    · have := offP_next all (show r < m by omega)
      rw [getD_left (by rw [behP_len]; omega), behP_at all hk m (by omega)]
theorem oneS_pl {ts : List Rx} {all : List Sp} (R : RuS ts all) {r : Nat} (h : r < ts.length) : (oneS r (all.getD r noSp)).map (plOf all) = ((all.getD r noSp).first.map fun x => (offP all r : Int) + x) ++ (if (all.getD r noSp).null then [(r : Int)] else []) := by
  unfold oneS
  rw [List.map_append]
  congr 1
  · unfold wideL
    rw [List.map_map]
    refine List.map_congr_left fun x hx => ?_
    obtain ⟨k, rfl, hk⟩ := ((R.is r h).first x).1 hx
    have := fst_in ts[r] 0 k hk
    have := R.few r h
    show plOf all (enc r k) = _
    rw [plOf_spot all (by omega)]
    omega
  · split
    · show [plOf all (enc r 999)] = _
      rw [plOf_end]
    · rfl
theorem firP_is {ts : List Rx} {all : List Sp} (R : RuS ts all) : ∀ m, m ≤ ts.length → firP all m = (firstS all m).map (plOf all)
  | 0, _ => rfl
  | m + 1, h => by rw [firP, firstS, List.map_append, firP_is R m (by omega), oneS_pl R (by omega)]
/-- what is behind a spot, by places -/
theorem beh_mem {ts : List Rx} {all : List Sp} (R : RuS ts all) {r k : Nat} (h : r < ts.length) (hk : k < nSets ts[r]) (i : Int) : i ∈ behOne all r k ↔ (∃ j, Fol ts[r] 0 k j ∧ i = plOf all (enc r j)) ∨ (Lst ts[r] 0 k ∧ i = plOf all (enc r 999)) := by
  have H := R.is r h
  have hf := R.few r h
  unfold behOne
  rw [List.mem_append, List.mem_map]
  refine or_congr ?_ ?_
  · constructor
    · rintro ⟨x, hx, rfl⟩
      obtain ⟨j, rfl, hj⟩ := (H.follow k x hk).1 hx
      have := fol_in ts[r] 0 k j hj
      refine ⟨j, hj, ?_⟩
      rw [plOf_spot all (by omega)]
      omega
    · rintro ⟨j, hj, rfl⟩
      have := fol_in ts[r] 0 k j hj
      refine ⟨(j : Int), (H.follow k _ hk).2 ⟨j, rfl, hj⟩, ?_⟩
      rw [plOf_spot all (by omega)]
      omega
  · rw [plOf_end]
    by_cases hl : (all.getD r noSp).last.contains (k : Int) = true
    · rw [if_pos hl]
      simp [(H.last_has k).1 hl]
    · rw [if_neg hl]
      have : ¬ Lst ts[r] 0 k := fun h => hl ((H.last_has k).2 h)
      simp [this]
/-- the places to which a state leads by a byte, when n places are gone through -/
def byN (S : List W4) (G : List (List Int)) (T : Txt) (b : Nat) : Nat → List Int
  | 0 => []
  | n + 1 => byN S G T b n ++ (if T.getD n 0 = 1 ∧ hasB (S.getD n noneB) b = true then G.getD n [] else [])
def leN (S : List W4) (T : Txt) (b : Nat) : Nat → Bool
  | 0 => false
  | n + 1 => leN S T b n || (decide (T.getD n 0 = 1) && hasB (S.getD n noneB) b)
theorem byN_mem (S : List W4) (G : List (List Int)) (T : Txt) (b : Nat) (i : Int) : ∀ n, i ∈ byN S G T b n ↔ ∃ m, m < n ∧ T.getD m 0 = 1 ∧ hasB (S.getD m noneB) b = true ∧ i ∈ G.getD m []
  | 0 => by simp [byN]
  | n + 1 => by
    rw [byN, List.mem_append, byN_mem S G T b i n]
    constructor
    · rintro (⟨m, h1, h2⟩ | h)
      · exact ⟨m, by omega, h2⟩
      · split at h
        · rename_i hc
          exact ⟨n, by omega, hc.1, hc.2, h⟩
        · cases h
    · rintro ⟨m, h1, h2, h3, h4⟩
      by_cases e : m = n
      · subst e
        exact Or.inr (by rw [if_pos ⟨h2, h3⟩]; exact h4)
      · exact Or.inl ⟨m, by omega, h2, h3, h4⟩
theorem leN_is (S : List W4) (T : Txt) (b : Nat) : ∀ n, leN S T b n = true ↔ ∃ m, m < n ∧ T.getD m 0 = 1 ∧ hasB (S.getD m noneB) b = true
  | 0 => by simp [leN]
  | n + 1 => by
    rw [leN, Bool.or_eq_true, Bool.and_eq_true, decide_eq_true_iff, leN_is S T b n]
    constructor
    · rintro (⟨m, h1, h2⟩ | h)
      · exact ⟨m, by omega, h2⟩
      · exact ⟨n, by omega, h.1, h.2⟩
    · rintro ⟨m, h1, h2, h3⟩
      by_cases e : m = n
      · subst e
        exact Or.inr ⟨h2, h3⟩
      · exact Or.inl ⟨m, by omega, h2, h3⟩
/-- the set of a place has a byte just where it is a spot that has it -/
theorem place_has {ts : List Rx} {all : List Sp} (R : RuS ts all) {st : St} (hs : ∀ x ∈ st, FrmS ts x) (b m : Nat) (hm : m < totP all) :
    ((txS all st).getD m 0 = 1 ∧ hasB ((setsP all all.length).getD m noneB) b = true) ↔ ∃ r, ∃ h : r < ts.length, ∃ k, k < nSets ts[r] ∧ m = offP all r + k ∧ enc r k ∈ st ∧ hasB (gOf ts[r] k) b = true := by
  have hs' : ∀ x ∈ st, FrP all x := fun x hx => frP_of R (hs x hx)
  rcases place_is all all.length m hm with h | ⟨r, k, h1, h2, h3⟩
  · rw [setsP_end all _ m h]
    constructor
    · rintro ⟨_, h'⟩
      rw [noneB_has] at h'
      cases h'
    · rintro ⟨r, hr, k, hk, e, _⟩
      have := offP_low all r
      omega
  · subst h3
    have hr : r < ts.length := by rw [← R.len]; exact h1
    have hn := (R.is r hr).n
    have hf := R.few r hr
    have e4 : ((all.getD r noSp).sets.getD k noneB) = gOf ts[r] k := by rw [(R.is r hr).sets]; rfl
    have hfr : FrP all (enc r k) := ⟨r, k, rfl, h1, Or.inr ⟨h2, by omega⟩⟩
    have hone := txS_one hs' hfr
    rw [plOf_spot all (by omega), Int.toNat_natCast] at hone
    rw [setsP_at all h2 _ h1, e4, hone]
    constructor
    · rintro ⟨h4, h5⟩
      exact ⟨r, hr, k, by omega, rfl, h4, h5⟩
    · rintro ⟨s, hs2, j, hj, e, h4, h5⟩
      have hns := (R.is s hs2).n
      have hfs := R.few s hs2
      have hfr' : FrP all (enc s j) := ⟨s, j, rfl, by rw [R.len]; exact hs2, Or.inr ⟨by omega, by omega⟩⟩
      have := plOf_inj hfr hfr' (by rw [plOf_spot all (by omega), plOf_spot all (by omega), e])
      obtain ⟨rfl, rfl⟩ := enc_inj (by omega) (by omega) this
      exact ⟨h4, h5⟩
/-- where the text of a state leads is the text of where the state leads -/
theorem byT_is {ts : List Rx} {all : List Sp} (R : RuS ts all) {st : St} (hs : ∀ x ∈ st, FrmS ts x) (b : Nat) :
    markT (totP all) (byN (setsP all all.length) (behP all all.length) (txS all st) b (totP all)) = txS all (byS all st b) := by
  unfold txS
  refine markT_congr fun i hi => ?_
  rw [byN_mem, List.mem_map]
  constructor
  · rintro ⟨m, hm, h1, h2, h3⟩
    obtain ⟨r, hr, k, hk, rfl, h4, h5⟩ := (place_has R hs b m hm).1 ⟨h1, h2⟩
    rw [behP_at all (by rw [(R.is r hr).n]; exact hk) _ (by rw [R.len]; exact hr)] at h3
    rcases (beh_mem R hr hk (i : Int)).1 h3 with ⟨j, hj, e⟩ | ⟨hl, e⟩
    · exact ⟨enc r j, (byS_mem all st b _).2 ⟨_, h4, (byOne_mem R hr hk b _).2 ⟨h5, Or.inl ⟨j, hj, rfl⟩⟩⟩, e.symm⟩
    · exact ⟨enc r 999, (byS_mem all st b _).2 ⟨_, h4, (byOne_mem R hr hk b _).2 ⟨h5, Or.inr ⟨hl, rfl⟩⟩⟩, e.symm⟩
  · rintro ⟨y, hy, e⟩
    obtain ⟨x, hx, hy⟩ := (byS_mem all st b y).1 hy
    obtain ⟨r, hr, k, rfl, rfl | hk⟩ := hs x hx
    · rw [byOne_end] at hy; cases hy
    · obtain ⟨h5, h6⟩ := (byOne_mem R hr hk b y).1 hy
      have hkn : k < (all.getD r noSp).sets.length := by rw [(R.is r hr).n]; exact hk
      have hm : offP all r + k < totP all := by
        have := offP_next all (show r < all.length by rw [R.len]; exact hr)
        unfold totP
        omega
      obtain ⟨h1, h2⟩ := (place_has R hs b _ hm).2 ⟨r, hr, k, hk, rfl, hx, h5⟩
      refine ⟨_, hm, h1, h2, ?_⟩
      rw [behP_at all hkn _ (by rw [R.len]; exact hr), beh_mem R hr hk]
      rcases h6 with ⟨j, hj, rfl⟩ | ⟨hl, rfl⟩
      · exact Or.inl ⟨j, hj, e.symm⟩
      · exact Or.inr ⟨hl, e.symm⟩
theorem leT_is {ts : List Rx} {all : List Sp} (R : RuS ts all) {st : St} (hs : ∀ x ∈ st, FrmS ts x) (b : Nat) :
    leN (setsP all all.length) (txS all st) b (totP all) = !decide (byS all st b = []) := by
  rw [Bool.eq_iff_iff, leN_is, Bool.not_eq_true', decide_eq_false_iff_not]
  constructor
  · rintro ⟨m, hm, h⟩
    obtain ⟨r, hr, k, hk, rfl, h4, h5⟩ := (place_has R hs b m hm).1 h
    have key : ∃ y, y ∈ byS all st b := by
      rcases leads_on ts[r] 0 k (by omega) (by omega) with hl | ⟨j, hj⟩
      · exact ⟨_, (byS_mem all st b _).2 ⟨_, h4, (byOne_mem R hr hk b _).2 ⟨h5, Or.inr ⟨hl, rfl⟩⟩⟩⟩
      · exact ⟨_, (byS_mem all st b _).2 ⟨_, h4, (byOne_mem R hr hk b _).2 ⟨h5, Or.inl ⟨j, hj, rfl⟩⟩⟩⟩
    obtain ⟨y, hy⟩ := key
    intro e
    rw [e] at hy
    cases hy
  · intro hne
    obtain ⟨y, hy⟩ := List.exists_mem_of_ne_nil _ hne
    obtain ⟨x, hx, hy⟩ := (byS_mem all st b y).1 hy
    obtain ⟨r, hr, k, rfl, rfl | hk⟩ := hs x hx
    · rw [byOne_end] at hy; cases hy
    · obtain ⟨h5, _⟩ := (byOne_mem R hr hk b y).1 hy
      have hkn : k < (all.getD r noSp).sets.length := by rw [(R.is r hr).n]; exact hk
      have hm : offP all r + k < totP all := by
        have := offP_next all (show r < all.length by rw [R.len]; exact hr)
        unfold totP
        omega
      exact ⟨_, hm, (place_has R hs b _ hm).2 ⟨r, hr, k, hk, rfl, hx, h5⟩⟩
theorem end_one {ts : List Rx} {all : List Sp} (R : RuS ts all) {st : St} (hs : ∀ x ∈ st, FrmS ts x) {r : Nat} (h : r < all.length) : (txS all st).getD r 0 = 1 ↔ enc r 999 ∈ st := by
  have := txS_one (all := all) (fun x hx => frP_of R (hs x hx)) (x := enc r 999) ⟨r, 999, rfl, h, Or.inl rfl⟩
  rwa [plOf_end, Int.toNat_natCast] at this
/-- what a text accepts: the first end -/
theorem accT_some {ts : List Rx} {all : List Sp} (R : RuS ts all) {st : St} (hs : ∀ x ∈ st, FrmS ts x) (hu : Up st) {r : Nat} (h : r < all.length) (h1 : (txS all st).getD r 0 = 1) (hn : ∀ s, s < r → (txS all st).getD s 0 ≠ 1) : accS st = (r : Int) :=
  acc_some hu hs ((end_one R hs h).1 h1) (fun s hs' he => hn s hs' ((end_one R hs (by omega)).2 he)) R.few
theorem accT_none {ts : List Rx} {all : List Sp} (R : RuS ts all) {st : St} (hs : ∀ x ∈ st, FrmS ts x) (hn : ∀ s, s < all.length → (txS all st).getD s 0 ≠ 1) : accS st = -1 :=
  acc_none hs (fun r hr he => hn r (by rw [R.len]; exact hr) ((end_one R hs (by rw [R.len]; exact hr)).2 he)) R.few
theorem stsK_up {ts : List Rx} {all : List Sp} (R : RuS ts all) : ∀ i, ∀ st ∈ stsK all i, Up st
  | 0 => by
    intro st hst
    have : st = firstS all all.length := by simpa [stsK] using hst
    subst this
    exact firstS_up R _ (by rw [R.len]; exact Nat.le_refl _)
  | i + 1 => by
    intro st hst
    obtain ⟨U, hU, hU'⟩ := stsK_more all i
    rw [hU] at hst
    rcases List.mem_append.1 hst with h | h
    · exact stsK_up R i st h
    · obtain ⟨c, _, rfl, _⟩ := hU' st h
      exact byS_up _ _ _
/-- bytes that no set tells apart lead to the same -/
theorem byS_alike {ts : List Rx} {all : List Sp} (R : RuS ts all) {st : St} (hs : ∀ x ∈ st, FrmS ts x) {b c : Nat} (h : al (setsP all all.length) b c = true) : byS all st b = byS all st c := by
  have hal : ∀ r (hr : r < ts.length) k, k < nSets ts[r] → hasB (gOf ts[r] k) b = hasB (gOf ts[r] k) c := by
    intro r hr k hk
    have hkn : k < (all.getD r noSp).sets.length := by rw [(R.is r hr).n]; exact hk
    have hra : r < all.length := by rw [R.len]; exact hr
    have e4 : ((all.getD r noSp).sets.getD k noneB) = gOf ts[r] k := by rw [(R.is r hr).sets]; rfl
    have hlt : offP all r + k < (setsP all all.length).length := by
      have := offP_next all hra
      rw [setsP_len]
      omega
    have := (al_iff _ b c).1 h ((setsP all all.length).getD (offP all r + k) noneB) (by
      rw [List.getD_eq_getElem?_getD, List.getElem?_eq_getElem hlt]
      exact List.getElem_mem hlt)
    rw [setsP_at all hkn _ hra, e4] at this
    exact this
  refine up_uniq (byS_up _ _ _) (byS_up _ _ _) fun y => ?_
  rw [byS_mem, byS_mem]
  have key : ∀ x ∈ st, (y ∈ byOne all b x ↔ y ∈ byOne all c x) := by
    intro x hx
    obtain ⟨r, hr, k, rfl, rfl | hk⟩ := hs x hx
    · rw [byOne_end, byOne_end]
    · rw [byOne_mem R hr hk, byOne_mem R hr hk, hal r hr k hk]
  exact ⟨fun ⟨x, hx, h⟩ => ⟨x, hx, (key x hx).1 h⟩, fun ⟨x, hx, h⟩ => ⟨x, hx, (key x hx).2 h⟩⟩

end Go.Proofs.YtjelgphhlcecoaaGreatDoor
namespace Go.Proofs.YtjelgphhlcecoaaGreatDoor
open Go.RowKit

theorem flatS_len (l : List W4) : (flatS l).length = l.length * 4 := by
  induction l with
  | nil => rfl
  | cons S t ih =>
    unfold flatS at ih ⊢
    rw [List.flatMap_cons, List.length_append, ih, List.length_cons]
    simp
    omega
def wordV (S : W4) : Nat → Value
  | 0 => .int .u64 (S.a : Int)
  | 1 => .int .u64 (S.b : Int)
  | 2 => .int .u64 (S.c : Int)
  | _ => .int .u64 (S.d : Int)
theorem flatS_atW : ∀ (l : List W4) (j i : Nat) (hj : j < l.length), i < 4 → (flatS l)[j * 4 + i]? = some (wordV l[j] i)
  | S :: t, 0, i, _, hi => by
    have h4 : i = 0 ∨ i = 1 ∨ i = 2 ∨ i = 3 := by omega
    rcases h4 with rfl | rfl | rfl | rfl <;> rfl
  | S :: t, j + 1, i, hj, hi => by
    have ih := flatS_atW t j i (by simpa using hj) hi
    unfold flatS at ih ⊢
    rw [List.flatMap_cons, show (j + 1) * 4 + i = 4 + (j * 4 + i) by omega, List.getElem?_append_right (by simp)]
    simpa using ih
theorem at4_of {w : World} {b o : Nat} {S : W4} (h : ∀ i, i < 4 → w.cell? ⟨b, o + i, none⟩ = some (wordV S i)) : At4 w b o S := ⟨h 0 (by omega), h 1 (by omega), h 2 (by omega), h 3 (by omega)⟩
theorem At4.word {w : World} {b o : Nat} {S : W4} (h : At4 w b o S) (i : Nat) (hi : i < 4) : w.cell? ⟨b, o + i, none⟩ = some (wordV S i) := by
  have h4 : i = 0 ∨ i = 1 ∨ i = 2 ∨ i = 3 := by omega
  rcases h4 with rfl | rfl | rfl | rfl
  · exact h.1
  · exact h.2.1
  · exact h.2.2.1
  · exact h.2.2.2
theorem Sets.news {w : World} {b o : Nat} {l : List W4} (h : ∀ j (hj : j < l.length), At4 w b (o + j * 4) l[j]) : ∀ j u, (flatS l)[j]? = some u → w.cell? ((⟨b, o, none⟩ : Addr).add j) = some u := fun j u hu => by
  have hj : j < l.length * 4 := by
    rcases Nat.lt_or_ge j (l.length * 4) with h' | h'
    · exact h'
    · rw [List.getElem?_eq_none (by rw [flatS_len]; exact h')] at hu; cases hu
  have e : j = j / 4 * 4 + j % 4 := by omega
  have hq : j / 4 < l.length := by omega
  rw [e, flatS_atW l (j / 4) (j % 4) hq (by omega)] at hu
  injection hu with hu
  subst hu
  rw [Go.WideShapes.add_plain]
  have := (h (j / 4) hq).word (j % 4) (by omega)
  rwa [Nat.add_assoc, ← e] at this
theorem Sets.parts {w : World} {v : Value} {l : List W4} (h : Sets w v l) : (v = .slice none 0 0 ∧ l = []) ∨ ∃ ad cap, v = .slice (some ad) l.length cap ∧ ∀ j u, (flatS l)[j]? = some u → w.cell? (ad.add j) = some u := by
  obtain ⟨a, cap, rfl, hcap, hnil, _, hc⟩ := h
  cases a with
  | none =>
    have h0 := hnil rfl
    have hl : l = [] := List.length_eq_zero_iff.1 (by omega)
    subst hl
    exact Or.inl ⟨by rw [h0]; rfl, rfl⟩
  | some ad =>
    refine Or.inr ⟨ad, cap, rfl, ?_⟩
    by_cases h0 : l = []
    · subst h0; intro j u hu; simp [flatS] at hu
    · obtain ⟨b, o, e, _, _⟩ := hc 0 (List.length_pos_iff.2 h0)
      injection e with e
      subst e
      refine Sets.news fun j hj => ?_
      obtain ⟨b', o', e', _, h4⟩ := hc j hj
      injection e' with e'
      injection e' with e1 e2
      subst e1; subst e2
      exact h4
set_option maxRecDepth 20000 in
theorem Tryz.info97 : (Tryz.prog.info? 97).map (fun i => (i.zero, i.size, i.bytes)) = some (some (.agg #[.int .u64 0, .int .u64 0, .int .u64 0, .int .u64 0]), 4, 32) := by kernel_rfl
theorem parts_fit (l : List W4) : ∀ S ∈ partsB l, Fit4 S := fun S hS => by
  unfold partsB at hS
  obtain ⟨r, _, rfl⟩ := List.mem_map.1 hS
  unfold clsB
  exact mkB_fit _
theorem news4 (w : World) (ca cb cc cd : Nat) : ∀ j u, [Value.int .u64 (ca : Int), .int .u64 (cb : Int), .int .u64 (cc : Int), .int .u64 (cd : Int)][j]? = some u → (w.alloc (.cells #[.int .u64 (ca : Int), .int .u64 (cb : Int), .int .u64 (cc : Int), .int .u64 (cd : Int)] 97)).cell? ((⟨w.heap.size, 0, none⟩ : Addr).add j) = some u := fun j u hj => by
  match j, hj with
  | 0, hj => simp at hj; subst hj; simp [Addr.add]
  | 1, hj => simp at hj; subst hj; simp [Addr.add]
  | 2, hj => simp at hj; subst hj; simp [Addr.add]
  | 3, hj => simp at hj; subst hj; simp [Addr.add]


end Go.Proofs.YtjelgphhlcecoaaGreatDoor
namespace Go.Proofs.YtjelgphhlcecoaaGreatDoor
open Go.RowKit

theorem SpVF.keep {F : Nat → Prop} {w w' : World} {sv fv lv gv : Value} {p : Sp} (h : SpVF F w sv fv lv gv p) (hb : Below w.heap.size w w') : SpVF F w' sv fv lv gv p :=
  ⟨h.spv.keep hb, h.os, h.of, h.ol, h.og, fun b o n c e j x hj hx => by
    obtain ⟨a, cap, e2, hc, hn, hat⟩ := h.spv.follow
    rw [e] at e2
    injection e2 with e3 e4 e5
    obtain ⟨b', o', x', e6, hlt, h1, _⟩ := hat j hj
    rw [← e3] at e6
    cases e6
    have := keep_cell hb h1
    rw [hx] at this
    injection this with this
    subst this
    exact h.oin b o n c e j _ hj h1⟩
theorem Sets.kept {F : Nat → Prop} {w w' : World} {v : Value} {l : List W4} (h : Sets w v l) (hk : Kept F w w') (ho : Off F v) : Sets w' v l := by
  obtain ⟨a, cap, rfl, hc, hn, hf, hat⟩ := h
  refine ⟨a, cap, rfl, hc, hn, hf, fun j hj => ?_⟩
  obtain ⟨b, o, rfl, hlt, h4⟩ := hat j hj
  have hn : ¬ F b := ho _ _ _ rfl (by omega)
  exact ⟨b, o, rfl, Nat.lt_of_lt_of_le hlt hk.size, hk.cell h4.1 hlt hn, hk.cell h4.2.1 hlt hn, hk.cell h4.2.2.1 hlt hn, hk.cell h4.2.2.2 hlt hn⟩
theorem SpVF.kept {F : Nat → Prop} {w w' : World} {sv fv lv gv : Value} {p : Sp} (h : SpVF F w sv fv lv gv p) (hk : Kept F w w') : SpV w' sv fv lv gv p := by
  refine ⟨h.spv.sets.kept hk h.os, h.spv.first.kept hk h.of, h.spv.last.kept hk h.ol, ?_⟩
  have hog := h.og
  have hoin := h.oin
  obtain ⟨a, cap, rfl, hc, hn, hat⟩ := h.spv.follow
  refine ⟨a, cap, rfl, hc, hn, fun j hj => ?_⟩
  obtain ⟨b, o, x, rfl, hlt, h1, h2⟩ := hat j hj
  have hn : ¬ F b := hog _ _ _ rfl (by omega)
  exact ⟨b, o, x, rfl, Nat.lt_of_lt_of_le hlt hk.size, hk.cell h1 hlt hn, h2.kept hk (hoin b o _ _ rfl j x hj h1)⟩

structure PlO (B pb e : Nat) (F : Nat → Prop) (w : World) (sv bv fv : Value) (S : List W4) (gs : List Value) (G : List (List Int)) (f : List Int) : Prop where
  blk : w.heap[pb]? = some (.cells #[.int .i64 (e : Int), sv, bv, fv] 76 (0, 0))
  sets : OwnS w B sv S
  sF : ∀ k, sv.ownBlock = some k → F k ∧ k ≠ pb ∧ bv.ownBlock ≠ some k ∧ fv.ownBlock ≠ some k
  beh : w.ownsRow B 23 1 bv gs.length gs
  bF : ∀ k, bv.ownBlock = some k → F k ∧ k ≠ pb ∧ fv.ownBlock ≠ some k
  fir : Own w B fv f
  fF : ∀ k, fv.ownBlock = some k → F k ∧ k ≠ pb
  nums : NumsF F w gs G
  inF : F pb
  lt : ∀ k, F k → k < w.heap.size
  base : B ≤ pb
  low : ∀ k, k < B → F k
theorem PlO.size {B pb e : Nat} {F : Nat → Prop} {w : World} {sv bv fv : Value} {S : List W4} {gs : List Value} {G : List (List Int)} {f : List Int} (h : PlO B pb e F w sv bv fv S gs G f) : B ≤ w.heap.size := Nat.le_of_lt (Nat.lt_of_le_of_lt h.base (blk_lt h.blk))
theorem PlO.keep {B pb e : Nat} {F : Nat → Prop} {w u : World} {sv bv fv : Value} {S : List W4} {gs : List Value} {G : List (List Int)} {f : List Int} (h : PlO B pb e F w sv bv fv S gs G f) (hu : Below w.heap.size w u) : PlO B pb e F u sv bv fv S gs G f :=
  ⟨hs_keep h.blk hu, own_below h.sets hu, h.sF, own_below h.beh hu, h.bF, own_below h.fir hu, h.fF, h.nums.kept (Kept.of_below hu), h.inF, fun k hk => Nat.lt_of_lt_of_le (h.lt k hk) hu.size, h.base, h.low⟩
theorem own_set {w : World} {pb o size n B : Nat} {e : TypeId} {v x : Value} {xs : List Value} (h : w.ownsRow B e size v n xs) (hn : v.ownBlock ≠ some pb) : (w.setCell ⟨pb, o, none⟩ x).ownsRow B e size v n xs :=
  own_keep h fun k hk => Below.heap_setCell w ⟨pb, o, none⟩ x k (fun e => hn (by rw [hk, e]))
theorem cells4p {w : World} {b : Nat} {x0 x1 x2 x3 : Value} {T : TypeId} (h : w.heap[b]? = some (.cells #[x0, x1, x2, x3] T (0, 0))) :
    w.cell? ⟨b, 0, none⟩ = some x0 ∧ w.cell? ⟨b, 1, none⟩ = some x1 ∧ w.cell? ⟨b, 2, none⟩ = some x2 ∧ w.cell? ⟨b, 3, none⟩ = some x3 ∧ w.frozen? ⟨b, 0, none⟩ = false ∧ w.frozen? ⟨b, 1, none⟩ = false ∧ w.frozen? ⟨b, 2, none⟩ = false ∧ w.frozen? ⟨b, 3, none⟩ = false :=
  ⟨blk_cell h rfl, blk_cell h rfl, blk_cell h rfl, blk_cell h rfl, blk_frozen h 0, blk_frozen h 1, blk_frozen h 2, blk_frozen h 3⟩
/-- more of the first ones -/
theorem PlO.addFirst {B pb e : Nat} {F : Nat → Prop} {u w' : World} {sv bv fv v' : Value} {S : List W4} {gs : List Value} {G : List (List Int)} {f f' : List Int} (h : PlO B pb e F u sv bv fv S gs G f)
    (ho : Own w' B v' f') (hg : u.grownBy w' fv.ownBlock) (hat : ∀ k, v'.ownBlock = some k → fv.ownBlock = some k ∨ u.heap.size ≤ k) :
    PlO B pb e (fun k => F k ∨ v'.ownBlock = some k) (w'.setCell ⟨pb, 3, none⟩ v') sv bv v' S gs G f' := by
  have hk := Kept.of_grown hg
  have hpb : ¬ fv.ownBlock = some pb := fun e => (h.fF _ e).2 rfl
  have hb1 := hk.blk h.blk hpb
  have hG : ∀ k, (F k ∨ v'.ownBlock = some k) → F k ∨ u.heap.size ≤ k := fun k hk' => by
    rcases hk' with h1 | h1
    · exact Or.inl h1
    · rcases hat k h1 with h2 | h2
      · exact Or.inl (h.fF k h2).1
      · exact Or.inr h2
  have hpv : v'.ownBlock ≠ some pb := fun e => by
    rcases hat _ e with h1 | h1
    · exact hpb h1
    · have := blk_lt h.blk; omega
  have hkF : Kept (fun k => F k ∨ v'.ownBlock = some k) u (w'.setCell ⟨pb, 3, none⟩ v') := (hk.mono fun k _ e => Or.inl (h.fF k e).1).setCell fun _ => Or.inl h.inF
  refine ⟨heap_setCell hb1, own_set (own_kept h.sets hk fun k e e' => (h.sF k e).2.2.2 e') (fun e => (h.sF _ e).2.1 rfl), fun k e => ⟨Or.inl (h.sF k e).1, (h.sF k e).2.1, (h.sF k e).2.2.1, fun e' => ?_⟩, own_set (own_kept h.beh hk fun k e e' => (h.bF k e).2.2 e') (fun e => (h.bF _ e).2.1 rfl), fun k e => ⟨Or.inl (h.bF k e).1, (h.bF k e).2.1, fun e' => ?_⟩, own_set ho hpv, fun k e => ⟨Or.inr e, fun e' => hpv (by rw [← e']; exact e)⟩, (h.nums.more hG).kept hkF, Or.inl h.inF, fun k hk' => ?_, h.base, fun k hk' => Or.inl (h.low k hk')⟩
  · rcases hat k e' with h1 | h1
    · exact (h.sF k e).2.2.2 h1
    · have := (h.sets.lt k e).2; omega
  · rcases hat k e' with h1 | h1
    · exact (h.bF k e).2.2 h1
    · have := (h.beh.lt k e).2; omega
  · rcases hk' with h1 | h1
    · exact Nat.lt_of_lt_of_le (h.lt k h1) hkF.size
    · have := (ho.lt k h1).2; simpa using this
/-- one set more -/
theorem PlO.addSet {B pb e : Nat} {F : Nat → Prop} {u w' : World} {sv bv fv v' : Value} {S S' : List W4} {gs : List Value} {G : List (List Int)} {f : List Int} (h : PlO B pb e F u sv bv fv S gs G f)
    (ho : OwnS w' B v' S') (hg : u.grownBy w' sv.ownBlock) (hat : ∀ k, v'.ownBlock = some k → sv.ownBlock = some k ∨ u.heap.size ≤ k) :
    PlO B pb e (fun k => F k ∨ v'.ownBlock = some k) (w'.setCell ⟨pb, 1, none⟩ v') v' bv fv S' gs G f := by
  have hk := Kept.of_grown hg
  have hpb : ¬ sv.ownBlock = some pb := fun e => (h.sF _ e).2.1 rfl
  have hb1 := hk.blk h.blk hpb
  have hG : ∀ k, (F k ∨ v'.ownBlock = some k) → F k ∨ u.heap.size ≤ k := fun k hk' => by
    rcases hk' with h1 | h1
    · exact Or.inl h1
    · rcases hat k h1 with h2 | h2
      · exact Or.inl (h.sF k h2).1
      · exact Or.inr h2
  have hpv : v'.ownBlock ≠ some pb := fun e => by
    rcases hat _ e with h1 | h1
    · exact hpb h1
    · have := blk_lt h.blk; omega
  have hkF : Kept (fun k => F k ∨ v'.ownBlock = some k) u (w'.setCell ⟨pb, 1, none⟩ v') := (hk.mono fun k _ e => Or.inl (h.sF k e).1).setCell fun _ => Or.inl h.inF
  refine ⟨heap_setCell hb1, own_set ho hpv, fun k e => ⟨Or.inr e, fun e' => hpv (by rw [← e']; exact e), fun e' => ?_, fun e' => ?_⟩, own_set (own_kept h.beh hk fun k e e' => (h.sF k e').2.2.1 e) (fun e => (h.bF _ e).2.1 rfl), fun k e => ⟨Or.inl (h.bF k e).1, (h.bF k e).2⟩, own_set (own_kept h.fir hk fun k e e' => (h.sF k e').2.2.2 e) (fun e => (h.fF _ e).2 rfl), fun k e => ⟨Or.inl (h.fF k e).1, (h.fF k e).2⟩, (h.nums.more hG).kept hkF, Or.inl h.inF, fun k hk' => ?_, h.base, fun k hk' => Or.inl (h.low k hk')⟩
  · rcases hat k e with h1 | h1
    · exact (h.sF k h1).2.2.1 e'
    · have := (h.beh.lt k e').2; omega
  · rcases hat k e with h1 | h1
    · exact (h.sF k h1).2.2.2 e'
    · have := (h.fir.lt k e').2; omega
  · rcases hk' with h1 | h1
    · exact Nat.lt_of_lt_of_le (h.lt k h1) hkF.size
    · have := (ho.lt k h1).2; simpa using this
/-- one list more of what is behind -/
theorem PlO.addBeh {B pb e : Nat} {F : Nat → Prop} {u w' : World} {sv bv fv v' x : Value} {S : List W4} {gs : List Value} {G : List (List Int)} {f l : List Int} (h : PlO B pb e F u sv bv fv S gs G f) (hx : Nums u x l) (hxo : Off F x)
    (ho : w'.ownsRow B 23 1 v' (gs.length + 1) (gs ++ [x])) (hg : u.grownBy w' bv.ownBlock) (hat : ∀ k, v'.ownBlock = some k → bv.ownBlock = some k ∨ u.heap.size ≤ k) :
    PlO B pb e (fun k => F k ∨ v'.ownBlock = some k) (w'.setCell ⟨pb, 2, none⟩ v') sv v' fv S (gs ++ [x]) (G ++ [l]) f := by
  have hk := Kept.of_grown hg
  have hpb : ¬ bv.ownBlock = some pb := fun e => (h.bF _ e).2.1 rfl
  have hb1 := hk.blk h.blk hpb
  have hG : ∀ k, (F k ∨ v'.ownBlock = some k) → F k ∨ u.heap.size ≤ k := fun k hk' => by
    rcases hk' with h1 | h1
    · exact Or.inl h1
    · rcases hat k h1 with h2 | h2
      · exact Or.inl (h.bF k h2).1
      · exact Or.inr h2
  have hpv : v'.ownBlock ≠ some pb := fun e => by
    rcases hat _ e with h1 | h1
    · exact hpb h1
    · have := blk_lt h.blk; omega
  have hkF : Kept (fun k => F k ∨ v'.ownBlock = some k) u (w'.setCell ⟨pb, 2, none⟩ v') := (hk.mono fun k _ e => Or.inl (h.bF k e).1).setCell fun _ => Or.inl h.inF
  have hlen : (gs ++ [x]).length = gs.length + 1 := by simp
  refine ⟨heap_setCell hb1, own_set (own_kept h.sets hk fun k e e' => (h.sF k e).2.2.1 e') (fun e => (h.sF _ e).2.1 rfl), fun k e => ⟨Or.inl (h.sF k e).1, (h.sF k e).2.1, fun e' => ?_, (h.sF k e).2.2.2⟩, by rw [hlen]; exact own_set ho hpv, fun k e => ⟨Or.inr e, fun e' => hpv (by rw [← e']; exact e), fun e' => ?_⟩, own_set (own_kept h.fir hk fun k e e' => (h.bF k e').2.2 e) (fun e => (h.fF _ e).2 rfl), fun k e => ⟨Or.inl (h.fF k e).1, (h.fF k e).2⟩, ((h.nums.snoc hx hxo).more hG).kept hkF, Or.inl h.inF, fun k hk' => ?_, h.base, fun k hk' => Or.inl (h.low k hk')⟩
  · rcases hat k e' with h1 | h1
    · exact (h.sF k e).2.2.1 h1
    · have := (h.sets.lt k e).2; omega
  · rcases hat k e with h1 | h1
    · exact (h.bF k h1).2.2 e'
    · have := (h.fir.lt k e').2; omega
  · rcases hk' with h1 | h1
    · exact Nat.lt_of_lt_of_le (h.lt k h1) hkF.size
    · have := (ho.lt k h1).2; simpa using this

end Go.Proofs.YtjelgphhlcecoaaGreatDoor
