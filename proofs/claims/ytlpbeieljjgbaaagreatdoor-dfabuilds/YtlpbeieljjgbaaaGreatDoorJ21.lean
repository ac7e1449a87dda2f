/- spots.Of: small facts. The maths of layer 8: states of rules, and what they are behind a text. The maths of layer 8: the automaton of the states that are met. -/
import Derived.Test.YtlpbeieljjgbaaaGreatDoorJ20
import Derived.Test.YtlpbeieljjgbaaaGreatDoorJ15
namespace Go.Proofs.YtlpbeieljjgbaaaGreatDoor
open Go.RowKit

theorem own_shape {w : World} {B n size : Nat} {e : TypeId} {v : Value} {xs : List Value} (h : w.ownsRow B e size v n xs) : ∃ a c, v = .slice a n c := by
  rcases h.2 with ⟨rfl, h0⟩ | ⟨g, cap, cur, rfl, _⟩
  · exact ⟨none, 0, by rw [h0]⟩
  · exact ⟨_, _, rfl⟩
theorem bstep {B : Nat} {W w u : World} (h : Below B W w) (hu : Below w.heap.size w u) (hB : B ≤ w.heap.size) : Below B W u := h.trans (hu.mono hB)
theorem bgrow {B : Nat} {W u w' : World} {r : Option Nat} (h : Below B W u) (hg : u.grownBy w' r) (hB : B ≤ u.heap.size) (hr : ∀ k, r = some k → B ≤ k) : Below B W w' :=
  h.trans ((Kept.of_grown hg).below (fun k e => hr k e) hB)
theorem grown_blk {u w' : World} {r : Option Nat} {b : Nat} {x : Obj} (hg : u.grownBy w' r) (hx : u.heap[b]? = some x) (hr : r ≠ some b) : w'.heap[b]? = some x := (Kept.of_grown hg).blk hx hr

theorem set_size (w : World) (a : Addr) (v : Value) : (w.setCell a v).heap.size = w.heap.size := by simp
theorem heap_new_set (w : World) (a : Addr) (v : Value) (o : Obj) : ((w.setCell a v).alloc o).heap[w.heap.size]? = some o := by
  have h := heap_new (w.setCell a v) o
  rw [set_size] at h
  exact h

theorem setsL_post : ∀ (t : Rx) (S : W4), S ∈ setsL t → (⟨1, S⟩ : Cel) ∈ post t
  | .set T, S, h => by simp [setsL] at h; subst h; simp [post]
  | .eps, S, h => by simp [setsL] at h
  | .cat a b, S, h => by
    simp only [setsL, List.mem_append] at h
    simp only [post, List.mem_append]
    rcases h with h | h
    · exact Or.inl (setsL_post a S h)
    · exact Or.inr (Or.inl (setsL_post b S h))
  | .or a b, S, h => by
    simp only [setsL, List.mem_append] at h
    simp only [post, List.mem_append]
    rcases h with h | h
    · exact Or.inl (setsL_post a S h)
    · exact Or.inr (Or.inl (setsL_post b S h))
  | .star a, S, h => by
    simp only [post, List.mem_append]
    exact Or.inl (setsL_post a S h)
  | .plus a, S, h => by
    simp only [post, List.mem_append]
    exact Or.inl (setsL_post a S h)
  | .opt a, S, h => by
    simp only [post, List.mem_append]
    exact Or.inl (setsL_post a S h)
theorem setsS_eps (st : List Rx) : setsS (.eps :: st) = setsS st := by simp [setsS, setsL]
theorem two_top {st : List Rx} (h : (2 : Int) ≤ (st.length : Int)) : ∃ b a r, st = b :: a :: r := by
  match st, h with
  | b :: a :: r, _ => exact ⟨b, a, r, rfl⟩
  | [_], h => simp at h
  | [], h => simp at h
theorem one_top {st : List Rx} (h : (1 : Int) ≤ (st.length : Int)) : ∃ a r, st = a :: r := by
  match st, h with
  | a :: r, _ => exact ⟨a, r, rfl⟩
  | [], h => simp at h
theorem own_form3 {w : World} {B n size : Nat} {e : TypeId} {v : Value} {xs : List Value} (h : w.ownsRow B e size v n xs) (hn : 0 < n) : ∃ g cap, v = .slice (some ⟨g, 0, none⟩) n cap ∧ n ≤ cap := by
  rcases h.2 with ⟨rfl, h0⟩ | ⟨g, cap, cur, rfl, _, _, hc, _⟩
  · omega
  · exact ⟨g, cap, rfl, hc⟩
theorem OfM.push' {B pb n : Nat} {F : Nat → Prop} {u w' : World} {sv gv ov : Value} {S : List W4} {gs : List Value} {fl : List (List Int)} {st : List Rx} {xs : List Value} (h : OfM B pb F n u sv gv ov S gs fl st xs) {g cap : Nat} {t : Rx} {fv lv : Value} {nb : Bool} {f l : List Int} (hn : nb = t.null) (hf : f = firstL t (nS st)) (hl : l = lastL t (nS st)) (hp : PtV F u fv lv f l)
    (ho : w'.ownsRow B 107 3 (.slice (some ⟨g, 0, none⟩) (st.length + 1) cap) (st.length + 1) (xs ++ [.bool nb, fv, lv])) (hg : u.grownBy w' ov.ownBlock) (hat : ov.ownBlock = some g ∨ g = u.heap.size) :
    OfM B pb (fun k => F k ∨ k = g) n w' sv gv (.slice (some ⟨g, 0, none⟩) (st.length + 1) cap) S gs fl (t :: st) (xs ++ [.bool nb, fv, lv]) := by
  subst hn hf hl
  exact h.push hp ho hg hat
theorem OfM.put' {B pb n : Nat} {F : Nat → Prop} {w : World} {sv gv : Value} {S : List W4} {gs : List Value} {fl : List (List Int)} {a t : Rx} {r : List Rx} {ys : List Value} {x0 x1 x2 fv lv : Value} {g cap : Nat} {nb : Bool} (h : OfM B pb F n w sv gv (.slice (some ⟨g, 0, none⟩) (r.length + 1) cap) S gs fl (a :: r) (ys ++ [x0, x1, x2])) (hn : nb = t.null) (hl : ys.length = r.length * 3) (hr : PtS F w r ys) (hp : PtV F w fv lv (firstL t (nS r)) (lastL t (nS r))) :
    OfM B pb F n (((w.setCell ⟨g, r.length * 3, none⟩ (.bool nb)).setCell ⟨g, r.length * 3 + 1, none⟩ fv).setCell ⟨g, r.length * 3 + 2, none⟩ lv) sv gv (.slice (some ⟨g, 0, none⟩) (r.length + 1) cap) S gs fl (t :: r) (ys ++ [.bool nb, fv, lv]) := by
  subst hn
  exact h.put hl hr hp

end Go.Proofs.YtlpbeieljjgbaaaGreatDoor
namespace Go.Proofs.YtlpbeieljjgbaaaGreatDoor

abbrev St := List Int
def noSp : Sp := ⟨[], false, [], [], []⟩
def enc (r k : Nat) : Int := (r : Int) * 1000 + (k : Int)
theorem enc_div {r k : Nat} (h : k < 1000) : (enc r k / 1000).toNat = r := by unfold enc; omega
theorem enc_mod {r k : Nat} (h : k < 1000) : enc r k % 1000 = (k : Int) := by unfold enc; omega
theorem enc_inj {r k r' k' : Nat} (h : k < 1000) (h' : k' < 1000) (e : enc r k = enc r' k') : r = r' ∧ k = k' := by unfold enc at e; omega
def wideL (r : Nat) (l : List Int) : List Int := l.map fun x => (r : Int) * 1000 + x
theorem wideL_mem (r : Nat) (l : List Int) (y : Int) : y ∈ wideL r l ↔ ∃ x ∈ l, y = (r : Int) * 1000 + x := by
  unfold wideL
  rw [List.mem_map]
  exact ⟨fun ⟨x, h, e⟩ => ⟨x, h, e.symm⟩, fun ⟨x, h, e⟩ => ⟨x, h, e.symm⟩⟩
def oneS (r : Nat) (p : Sp) : List Int := wideL r p.first ++ (if p.null then [(r : Int) * 1000 + 999] else [])
/-- the first state, of the first m rules -/
def firstS (all : List Sp) : Nat → St
  | 0 => []
  | m + 1 => firstS all m ++ oneS m (all.getD m noSp)
/-- where a state's number leads by a byte -/
def byOne (all : List Sp) (b : Nat) (x : Int) : List Int :=
  if x % 1000 = 999 ∨ hasB ((all.getD (x / 1000).toNat noSp).sets.getD (x % 1000).toNat noneB) b = false then []
  else wideL (x / 1000).toNat ((all.getD (x / 1000).toNat noSp).follow.getD (x % 1000).toNat []) ++ (if (all.getD (x / 1000).toNat noSp).last.contains (x % 1000) then [x / 1000 * 1000 + 999] else [])
def byS (all : List Sp) (st : St) (b : Nat) : St := ofL (st.flatMap (byOne all b))
def accS : St → Int
  | [] => -1
  | x :: l => if x % 1000 = 999 then x / 1000 else accS l
theorem byS_nil (all : List Sp) (b : Nat) : byS all [] b = [] := rfl
theorem byS_up (all : List Sp) (st : St) (b : Nat) : Up (byS all st b) := ofL_up _
theorem byS_mem (all : List Sp) (st : St) (b : Nat) (y : Int) : y ∈ byS all st b ↔ ∃ x ∈ st, y ∈ byOne all b x := by
  unfold byS
  rw [ofL_mem, List.mem_flatMap]
/-- these are the rules' spots -/
structure RuS (ts : List Rx) (all : List Sp) : Prop where
  len : all.length = ts.length
  is : ∀ r (h : r < ts.length), IsSp ts[r] (all.getD r noSp)
  few : ∀ r (h : r < ts.length), nSets ts[r] ≤ 60
  up : ∀ r, r < ts.length → Up (all.getD r noSp).first
/-- what a state's number may be -/
def FrmS (ts : List Rx) (x : Int) : Prop := ∃ r, ∃ h : r < ts.length, ∃ k, x = enc r k ∧ (k = 999 ∨ k < nSets ts[r])
theorem FrmS.pos {ts : List Rx} {x : Int} (h : FrmS ts x) : 0 ≤ x := by
  obtain ⟨r, _, k, rfl, _⟩ := h
  unfold enc
  omega
theorem oneS_mem {ts : List Rx} {all : List Sp} (R : RuS ts all) {r : Nat} (h : r < ts.length) (x : Int) :
    x ∈ oneS r (all.getD r noSp) ↔ (∃ k, Fst ts[r] 0 k ∧ x = enc r k) ∨ (ts[r].null = true ∧ x = enc r 999) := by
  unfold oneS
  rw [List.mem_append, wideL_mem]
  have H := R.is r h
  constructor
  · rintro (⟨y, h1, h2⟩ | h1)
    · obtain ⟨k, rfl, hk⟩ := (H.first y).1 h1
      exact Or.inl ⟨k, hk, h2⟩
    · rw [H.null] at h1
      split at h1
      · rename_i hn
        exact Or.inr ⟨hn, by simpa [enc] using h1⟩
      · cases h1
  · rintro (⟨k, hk, rfl⟩ | ⟨hn, rfl⟩)
    · exact Or.inl ⟨(k : Int), (H.first _).2 ⟨k, rfl, hk⟩, rfl⟩
    · refine Or.inr ?_
      rw [H.null, if_pos hn]
      simp [enc]
theorem firstS_mem (all : List Sp) (x : Int) : ∀ m, x ∈ firstS all m ↔ ∃ r, r < m ∧ x ∈ oneS r (all.getD r noSp)
  | 0 => by simp [firstS]
  | m + 1 => by
    rw [firstS, List.mem_append, firstS_mem all x m]
    constructor
    · rintro (⟨r, h, hx⟩ | hx)
      · exact ⟨r, by omega, hx⟩
      · exact ⟨m, by omega, hx⟩
    · rintro ⟨r, h, hx⟩
      by_cases e : r = m
      · subst e; exact Or.inr hx
      · exact Or.inl ⟨r, by omega, hx⟩
theorem oneS_in {ts : List Rx} {all : List Sp} (R : RuS ts all) {r : Nat} (h : r < ts.length) {x : Int} (hx : x ∈ oneS r (all.getD r noSp)) : ∃ k, x = enc r k ∧ k < 1000 ∧ (k = 999 ∨ k < nSets ts[r]) := by
  rcases (oneS_mem R h x).1 hx with ⟨k, hk, rfl⟩ | ⟨_, rfl⟩
  · have := fst_in ts[r] 0 k hk
    have := R.few r h
    exact ⟨k, rfl, by omega, Or.inr (by omega)⟩
  · exact ⟨999, rfl, by omega, Or.inl rfl⟩
theorem up_app {a b : List Int} (ha : Up a) (hb : Up b) (h : ∀ x ∈ a, ∀ y ∈ b, x < y) : Up (a ++ b) := List.pairwise_append.2 ⟨ha, hb, h⟩
theorem wideL_up (r : Nat) {l : List Int} (h : Up l) : Up (wideL r l) := by
  unfold wideL
  rw [Up, List.pairwise_map]
  exact List.Pairwise.imp (fun h => by omega) h
theorem oneS_up {ts : List Rx} {all : List Sp} (R : RuS ts all) {r : Nat} (h : r < ts.length) : Up (oneS r (all.getD r noSp)) := by
  unfold oneS
  refine up_app (wideL_up r (R.up r h)) (by split <;> simp [Up]) ?_
  intro x hx y hy
  rw [wideL_mem] at hx
  obtain ⟨z, hz, rfl⟩ := hx
  obtain ⟨k, rfl, hk⟩ := ((R.is r h).first z).1 hz
  have := fst_in ts[r] 0 k hk
  have := R.few r h
  split at hy
  · have : y = (r : Int) * 1000 + 999 := by simpa using hy
    omega
  · cases hy
theorem firstS_up {ts : List Rx} {all : List Sp} (R : RuS ts all) : ∀ m, m ≤ ts.length → Up (firstS all m)
  | 0, _ => List.Pairwise.nil
  | m + 1, hm => by
    refine up_app (firstS_up R m (by omega)) (oneS_up R (by omega)) ?_
    intro x hx y hy
    obtain ⟨r, hr, hx⟩ := (firstS_mem all x m).1 hx
    obtain ⟨k, rfl, _, _⟩ := oneS_in R (by omega) hx
    obtain ⟨k', rfl, _, _⟩ := oneS_in R (by omega) hy
    unfold enc
    omega
theorem byOne_end (all : List Sp) (b r : Nat) : byOne all b (enc r 999) = [] := by
  have e : enc r 999 % 1000 = 999 := enc_mod (by omega)
  unfold byOne
  rw [if_pos (Or.inl e)]
theorem byOne_mem {ts : List Rx} {all : List Sp} (R : RuS ts all) {r j : Nat} (h : r < ts.length) (hj : j < nSets ts[r]) (b : Nat) (y : Int) :
    y ∈ byOne all b (enc r j) ↔ hasB (gOf ts[r] j) b = true ∧ ((∃ k, Fol ts[r] 0 j k ∧ y = enc r k) ∨ (Lst ts[r] 0 j ∧ y = enc r 999)) := by
  have hf := R.few r h
  have H := R.is r h
  have e1 : (enc r j / 1000).toNat = r := enc_div (by omega)
  have e2 : enc r j % 1000 = (j : Int) := enc_mod (by omega)
  have e3 : enc r j / 1000 * 1000 + 999 = enc r 999 := by unfold enc; omega
  have e4 : ((all.getD r noSp).sets.getD j noneB) = gOf ts[r] j := by rw [H.sets]; rfl
  unfold byOne
  rw [e1, e2, e3, Int.toNat_natCast, e4]
  by_cases hb : hasB (gOf ts[r] j) b = true
  · rw [if_neg (by rw [hb]; simp; omega)]
    simp only [hb, true_and]
    rw [List.mem_append, wideL_mem]
    refine or_congr ?_ ?_
    · constructor
      · rintro ⟨x, h1, rfl⟩
        obtain ⟨k, rfl, hk⟩ := (H.follow j x hj).1 h1
        exact ⟨k, hk, rfl⟩
      · rintro ⟨k, hk, rfl⟩
        exact ⟨(k : Int), (H.follow j _ hj).2 ⟨k, rfl, hk⟩, rfl⟩
    · by_cases hl : (all.getD r noSp).last.contains (j : Int) = true
      · rw [if_pos hl]
        have := (H.last_has j).1 hl
        simp [this]
      · rw [if_neg hl]
        have : ¬ Lst ts[r] 0 j := fun h => hl ((H.last_has j).2 h)
        simp [this]
  · rw [if_pos (Or.inr (by simpa using hb))]
    simp [hb]
/-- a state's numbers lead to numbers of states -/
theorem by_frm {ts : List Rx} {all : List Sp} (R : RuS ts all) {st : St} (h : ∀ x ∈ st, FrmS ts x) (b : Nat) : ∀ y ∈ byS all st b, FrmS ts y := by
  intro y hy
  obtain ⟨x, hx, hy⟩ := (byS_mem all st b y).1 hy
  obtain ⟨r, hr, k, rfl, rfl | hk⟩ := h x hx
  · rw [byOne_end] at hy; cases hy
  · rcases ((byOne_mem R hr hk b y).1 hy).2 with ⟨k', hf, rfl⟩ | ⟨_, rfl⟩
    · have := fol_in ts[r] 0 k k' hf
      exact ⟨r, hr, k', rfl, Or.inr (by omega)⟩
    · exact ⟨r, hr, 999, rfl, Or.inl rfl⟩
theorem first_frm {ts : List Rx} {all : List Sp} (R : RuS ts all) : ∀ x ∈ firstS all all.length, FrmS ts x := by
  intro x hx
  obtain ⟨r, hr, hx⟩ := (firstS_mem all x _).1 hx
  have hr' : r < ts.length := by rw [← R.len]; exact hr
  obtain ⟨k, rfl, _, h⟩ := oneS_in R hr' hx
  exact ⟨r, hr', k, rfl, h⟩
/-- the state behind i bytes of a text -/
def runK (all : List Sp) (s : Txt) : Nat → St
  | 0 => firstS all all.length
  | i + 1 => byS all (runK all s i) (s.getD i 0).toNat
theorem runK_frm {ts : List Rx} {all : List Sp} (R : RuS ts all) (s : Txt) : ∀ i, ∀ x ∈ runK all s i, FrmS ts x
  | 0 => first_frm R
  | i + 1 => by_frm R (runK_frm R s i) _
theorem runK_up {ts : List Rx} {all : List Sp} (R : RuS ts all) (s : Txt) : ∀ i, Up (runK all s i)
  | 0 => firstS_up R _ (by rw [R.len]; exact Nat.le_refl _)
  | _ + 1 => byS_up _ _ _
/-- who is in the state behind i bytes -/
theorem runK_is {ts : List Rx} {all : List Sp} (R : RuS ts all) (s : Txt) : ∀ i, i ≤ s.length → ∀ r (h : r < ts.length),
    (∀ k, k < nSets ts[r] → (enc r k ∈ runK all s i ↔ InT ts[r] (s.take i) k)) ∧ (enc r 999 ∈ runK all s i ↔ Mat ts[r] (s.take i))
  | 0, _, r, h => by
    have key : ∀ k, k < 1000 → (enc r k ∈ runK all s 0 ↔ enc r k ∈ oneS r (all.getD r noSp)) := by
      intro k hk
      rw [runK, firstS_mem]
      constructor
      · rintro ⟨r', h', hx⟩
        have hr' : r' < ts.length := by rw [← R.len]; exact h'
        obtain ⟨k', e, hk', _⟩ := oneS_in R hr' hx
        obtain ⟨rfl, rfl⟩ := enc_inj hk hk' e
        exact hx
      · exact fun hx => ⟨r, by rw [R.len]; exact h, hx⟩
    have hf := R.few r h
    refine ⟨fun k hk => ?_, ?_⟩
    · rw [key k (by omega), oneS_mem R h, List.take_zero, inT_nil]
      constructor
      · rintro (⟨k', h1, e⟩ | ⟨_, e⟩)
        · have := fst_in ts[r] 0 k' h1
          obtain ⟨_, rfl⟩ := enc_inj (by omega) (by omega) e
          exact h1
        · have := (enc_inj (by omega) (by omega) e).2
          omega
      · exact fun h1 => Or.inl ⟨k, h1, rfl⟩
    · rw [key 999 (by omega), oneS_mem R h, List.take_zero, mat_nil]
      constructor
      · rintro (⟨k', h1, e⟩ | ⟨h1, _⟩)
        · have := fst_in ts[r] 0 k' h1
          have := (enc_inj (by omega) (by omega) e).2
          omega
        · exact h1
      · exact fun h1 => Or.inr ⟨h1, rfl⟩
  | i + 1, hi, r, h => by
    have ih := runK_is R s i (by omega)
    have hf := R.few r h
    rw [take_more s i (by omega)]
    have key : ∀ y, y ∈ runK all s (i + 1) ↔ ∃ r', ∃ h' : r' < ts.length, ∃ j, InT ts[r'] (s.take i) j ∧ hasB (gOf ts[r'] j) (s.getD i 0).toNat = true ∧ ((∃ k, Fol ts[r'] 0 j k ∧ y = enc r' k) ∨ (Lst ts[r'] 0 j ∧ y = enc r' 999)) := by
      intro y
      rw [runK, byS_mem]
      constructor
      · rintro ⟨x, hx, hy⟩
        obtain ⟨r', h', j, rfl, rfl | hj⟩ := runK_frm R s i x hx
        · rw [byOne_end] at hy; cases hy
        · obtain ⟨hb, hy⟩ := (byOne_mem R h' hj _ y).1 hy
          exact ⟨r', h', j, ((ih r' h').1 j hj).1 hx, hb, hy⟩
      · rintro ⟨r', h', j, h1, h2, h3⟩
        exact ⟨enc r' j, ((ih r' h').1 j h1.lt).2 h1, (byOne_mem R h' h1.lt _ y).2 ⟨h2, h3⟩⟩
    refine ⟨fun k hk => ?_, ?_⟩
    · rw [key, inT_snoc]
      constructor
      · rintro ⟨r', h', j, h1, h2, ⟨k', h3, e⟩ | ⟨_, e⟩⟩
        · have := fol_in ts[r'] 0 j k' h3
          have := R.few r' h'
          obtain ⟨rfl, rfl⟩ := enc_inj (by omega) (by omega) e
          exact ⟨j, ⟨h1, h2⟩, h3⟩
        · have := (enc_inj (by omega) (by omega) e).2
          omega
      · rintro ⟨j, ⟨h1, h2⟩, h3⟩
        exact ⟨r, h, j, h1, h2, Or.inl ⟨k, h3, rfl⟩⟩
    · rw [key, mat_snoc]
      constructor
      · rintro ⟨r', h', j, h1, h2, ⟨k', h3, e⟩ | ⟨h3, e⟩⟩
        · have := fol_in ts[r'] 0 j k' h3
          have := R.few r' h'
          have := (enc_inj (by omega) (by omega) e).2
          omega
        · obtain ⟨rfl, _⟩ := enc_inj (by omega) (by omega) e
          exact ⟨j, ⟨h1, h2⟩, h3⟩
      · rintro ⟨j, ⟨h1, h2⟩, h3⟩
        exact ⟨r, h, j, h1, h2, Or.inr ⟨h3, rfl⟩⟩
/-- the first rule whose end is in a state -/
theorem acc_none {ts : List Rx} : ∀ {st : St}, (∀ x ∈ st, FrmS ts x) → (∀ r, r < ts.length → ¬ enc r 999 ∈ st) → (∀ r (h : r < ts.length), nSets ts[r] ≤ 60) → accS st = -1
  | [], _, _, _ => rfl
  | x :: l, hf, hn, h60 => by
    have hx : ¬ x % 1000 = 999 := by
      intro hx
      obtain ⟨r, h, k, rfl, rfl | hk⟩ := hf x (by simp)
      · exact hn r h (by simp)
      · have := h60 r h
        rw [enc_mod (by omega)] at hx
        omega
    rw [accS, if_neg hx]
    exact acc_none (fun y hy => hf y (by simp [hy])) (fun r h hm => hn r h (by simp [hm])) h60
theorem acc_some {ts : List Rx} {r : Nat} : ∀ {st : St}, Up st → (∀ x ∈ st, FrmS ts x) → enc r 999 ∈ st → (∀ r', r' < r → ¬ enc r' 999 ∈ st) → (∀ r (h : r < ts.length), nSets ts[r] ≤ 60) → accS st = (r : Int)
  | [], _, _, h, _, _ => by cases h
  | x :: l, hu, hf, hm, hn, h60 => by
    rw [Up, List.pairwise_cons] at hu
    by_cases hx : x % 1000 = 999
    · rw [accS, if_pos hx]
      obtain ⟨r0, h, k, rfl, hk⟩ := hf x (by simp)
      have hk9 : k = 999 := by
        rcases hk with rfl | hk
        · rfl
        · have := h60 r0 h
          rw [enc_mod (by omega)] at hx
          omega
      subst hk9
      have hle : enc r0 999 ≤ enc r 999 := by
        rcases List.mem_cons.1 hm with e | hm
        · omega
        · have := hu.1 _ hm; omega
      have hge : ¬ r0 < r := fun hlt => hn r0 hlt (by simp)
      have hr : r0 = r := by unfold enc at hle; omega
      subst hr
      unfold enc
      omega
    · rw [accS, if_neg hx]
      have hm' : enc r 999 ∈ l := by
        rcases List.mem_cons.1 hm with e | hm
        · rw [← e, enc_mod (by omega)] at hx
          exact absurd rfl hx
        · exact hm
      exact acc_some hu.2 (fun y hy => hf y (by simp [hy])) hm' (fun r' h' h => hn r' h' (by simp [h])) h60
theorem acc_ge {ts : List Rx} : ∀ {st : St}, (∀ x ∈ st, FrmS ts x) → -1 ≤ accS st
  | [], _ => by simp [accS]
  | x :: l, hf => by
    rw [accS]
    split
    · have := (hf x (by simp)).pos; omega
    · exact acc_ge fun y hy => hf y (by simp [hy])

end Go.Proofs.YtlpbeieljjgbaaaGreatDoor
namespace Go.Proofs.YtlpbeieljjgbaaaGreatDoor

/-- behind b bytes of a state: the states that are met by then, and its row -/
def rowK (all : List Sp) (st : St) (S : List St) : Nat → List St × List Int
  | 0 => (S, [])
  | b + 1 =>
    if byS all st b = [] then ((rowK all st S b).1, (rowK all st S b).2 ++ [-1])
    else if byS all st b ∈ (rowK all st S b).1 then ((rowK all st S b).1, (rowK all st S b).2 ++ [((rowK all st S b).1.idxOf (byS all st b) : Int)])
    else ((rowK all st S b).1 ++ [byS all st b], (rowK all st S b).2 ++ [((rowK all st S b).1.length : Int)])
theorem rowK_none {all : List Sp} {st : St} {S : List St} {b : Nat} (h : byS all st b = []) : rowK all st S (b + 1) = ((rowK all st S b).1, (rowK all st S b).2 ++ [-1]) := by rw [rowK, if_pos h]
theorem rowK_old {all : List Sp} {st : St} {S : List St} {b : Nat} (h : ¬ byS all st b = []) (hm : byS all st b ∈ (rowK all st S b).1) : rowK all st S (b + 1) = ((rowK all st S b).1, (rowK all st S b).2 ++ [((rowK all st S b).1.idxOf (byS all st b) : Int)]) := by rw [rowK, if_neg h, if_pos hm]
theorem rowK_new {all : List Sp} {st : St} {S : List St} {b : Nat} (h : ¬ byS all st b = []) (hm : ¬ byS all st b ∈ (rowK all st S b).1) : rowK all st S (b + 1) = ((rowK all st S b).1 ++ [byS all st b], (rowK all st S b).2 ++ [((rowK all st S b).1.length : Int)]) := by rw [rowK, if_neg h, if_neg hm]
theorem rowK_cases (all : List Sp) (st : St) (S : List St) (b : Nat) :
    (byS all st b = [] ∧ rowK all st S (b + 1) = ((rowK all st S b).1, (rowK all st S b).2 ++ [-1])) ∨
    (byS all st b ≠ [] ∧ byS all st b ∈ (rowK all st S b).1 ∧ rowK all st S (b + 1) = ((rowK all st S b).1, (rowK all st S b).2 ++ [((rowK all st S b).1.idxOf (byS all st b) : Int)])) ∨
    (byS all st b ≠ [] ∧ ¬ byS all st b ∈ (rowK all st S b).1 ∧ rowK all st S (b + 1) = ((rowK all st S b).1 ++ [byS all st b], (rowK all st S b).2 ++ [((rowK all st S b).1.length : Int)])) := by
  by_cases h : byS all st b = []
  · exact Or.inl ⟨h, rowK_none h⟩
  · by_cases hm : byS all st b ∈ (rowK all st S b).1
    · exact Or.inr (Or.inl ⟨h, hm, rowK_old h hm⟩)
    · exact Or.inr (Or.inr ⟨h, hm, rowK_new h hm⟩)
/-- a row's number is right -/
def RowOK (T : List St) (to : St) (n : Int) : Prop := (to = [] ∧ n = -1) ∨ (to ≠ [] ∧ ∃ m : Nat, n = (m : Int) ∧ T[m]? = some to)
theorem RowOK.more {T : List St} {to : St} {n : Int} (h : RowOK T to n) (U : List St) : RowOK (T ++ U) to n := by
  rcases h with h | ⟨h, m, e, hm⟩
  · exact Or.inl h
  · refine Or.inr ⟨h, m, e, ?_⟩
    have hlt : m < T.length := by
      rcases Nat.lt_or_ge m T.length with h | h
      · exact h
      · rw [List.getElem?_eq_none h] at hm; cases hm
    rw [List.getElem?_append_left hlt]
    exact hm
theorem RowOK.range {T : List St} {to : St} {n : Int} (h : RowOK T to n) : -1 ≤ n ∧ n < (T.length : Int) ∨ (n = -1) := by
  rcases h with ⟨_, h⟩ | ⟨_, m, e, hm⟩
  · exact Or.inr h
  · have hlt : m < T.length := by
      rcases Nat.lt_or_ge m T.length with h | h
      · exact h
      · rw [List.getElem?_eq_none h] at hm; cases hm
    exact Or.inl ⟨by omega, by omega⟩
theorem idx_at {T : List St} {to : St} (h : to ∈ T) : T[T.idxOf to]? = some to := by
  have hl : T.idxOf to < T.length := List.idxOf_lt_length_of_mem h
  rw [List.getElem?_eq_getElem hl, List.getElem_idxOf hl]
theorem getD_snoc_left {α : Type} {l : List α} {x d : α} {c : Nat} (h : c < l.length) : (l ++ [x]).getD c d = l.getD c d := by
  simp [List.getD_eq_getElem?_getD, List.getElem?_append_left h]
theorem getD_snoc_at {α : Type} {l : List α} {x d : α} {c : Nat} (h : c = l.length) : (l ++ [x]).getD c d = x := by
  subst h
  simp [List.getD_eq_getElem?_getD]
/-- what a row is, when b of its bytes are gone through -/
structure RowIs (all : List Sp) (st : St) (S : List St) (b : Nat) (q : List St × List Int) : Prop where
  pre : ∃ U, q.1 = S ++ U ∧ (∀ x ∈ U, ∃ c, c < b ∧ x = byS all st c ∧ x ≠ [])
  nd : q.1.Nodup
  len : q.2.length = b
  row : ∀ c, c < b → RowOK q.1 (byS all st c) (q.2.getD c 0)
theorem rowK_is (all : List Sp) (st : St) (S : List St) (hS : S.Nodup) : ∀ b, RowIs all st S b (rowK all st S b)
  | 0 => ⟨⟨[], by simp [rowK], by simp⟩, hS, rfl, fun c hc => by omega⟩
  | b + 1 => by
    have ih := rowK_is all st S hS b
    obtain ⟨U, hU, hU'⟩ := ih.pre
    rcases rowK_cases all st S b with ⟨h, e⟩ | ⟨h, hm, e⟩ | ⟨h, hm, e⟩
    · rw [e]
      refine ⟨⟨U, hU, fun x hx => ?_⟩, ih.nd, by simp [ih.len], fun c hc => ?_⟩
      · obtain ⟨c, hc, hx⟩ := hU' x hx
        exact ⟨c, by omega, hx⟩
      · rcases Nat.lt_or_ge c b with hlt | hge
        · rw [getD_snoc_left (by rw [ih.len]; exact hlt)]
          exact ih.row c hlt
        · obtain rfl : c = b := by omega
          rw [getD_snoc_at ih.len.symm]
          exact Or.inl ⟨h, rfl⟩
    · rw [e]
      refine ⟨⟨U, hU, fun x hx => ?_⟩, ih.nd, by simp [ih.len], fun c hc => ?_⟩
      · obtain ⟨c, hc, hx⟩ := hU' x hx
        exact ⟨c, by omega, hx⟩
      · rcases Nat.lt_or_ge c b with hlt | hge
        · rw [getD_snoc_left (by rw [ih.len]; exact hlt)]
          exact ih.row c hlt
        · obtain rfl : c = b := by omega
          rw [getD_snoc_at ih.len.symm]
          exact Or.inr ⟨h, _, rfl, idx_at hm⟩
    · rw [e]
      refine ⟨⟨U ++ [byS all st b], by rw [hU, List.append_assoc], fun x hx => ?_⟩, ?_, by simp [ih.len], fun c hc => ?_⟩
      · rcases List.mem_append.1 hx with hx | hx
        · obtain ⟨c, hc, hx⟩ := hU' x hx
          exact ⟨c, by omega, hx⟩
        · have : x = byS all st b := by simpa using hx
          exact ⟨b, by omega, this, by rw [this]; exact h⟩
      · rw [List.nodup_append]
        refine ⟨ih.nd, by simp, fun a ha b' hb => ?_⟩
        have : b' = byS all st b := by simpa using hb
        subst this
        exact fun e => hm (e ▸ ha)
      · rcases Nat.lt_or_ge c b with hlt | hge
        · rw [getD_snoc_left (by rw [ih.len]; exact hlt)]
          exact (ih.row c hlt).more _
        · obtain rfl : c = b := by omega
          rw [getD_snoc_at ih.len.symm]
          exact Or.inr ⟨h, _, rfl, by simp⟩
theorem rowK_mono (all : List Sp) (st : St) (S : List St) (b : Nat) : ∀ d, (rowK all st S b).1.length ≤ (rowK all st S (b + d)).1.length
  | 0 => Nat.le_refl _
  | d + 1 => by
    have ih := rowK_mono all st S b d
    rcases rowK_cases all st S (b + d) with ⟨_, e⟩ | ⟨_, _, e⟩ | ⟨_, _, e⟩ <;> rw [← Nat.add_assoc, e]
    · exact ih
    · exact ih
    · simp; omega
/-- numbers as they are met: the law's own count -/
def metF : Nat → List Int → Option Nat
  | m, [] => some m
  | m, k :: l => if (m : Int) < k then none else metF (if k = (m : Int) then m + 1 else m) l
theorem metF_app : ∀ (l l' : List Int) (m n : Nat), metF m l = some n → metF m (l ++ l') = metF n l'
  | [], _, m, n, h => by
    have : m = n := by simpa [metF] using h
    rw [this]; rfl
  | k :: l, l', m, n, h => by
    rw [List.cons_append, metF]
    rw [metF] at h
    split at h
    · cases h
    · rename_i hk
      rw [if_neg hk]
      exact metF_app l l' _ n h
theorem rowK_met (all : List Sp) (st : St) (S : List St) : ∀ b, metF S.length (rowK all st S b).2 = some (rowK all st S b).1.length
  | 0 => rfl
  | b + 1 => by
    have ih := rowK_met all st S b
    rcases rowK_cases all st S b with ⟨h, e⟩ | ⟨h, hm, e⟩ | ⟨h, hm, e⟩
    · rw [e]
      simp only
      rw [metF_app _ _ _ _ ih]
      unfold metF
      rw [if_neg (by omega), if_neg (by omega)]
      rfl
    · rw [e]
      simp only
      rw [metF_app _ _ _ _ ih]
      have hl := List.idxOf_lt_length_of_mem hm
      unfold metF
      rw [if_neg (by omega), if_neg (by omega)]
      rfl
    · rw [e]
      simp only
      rw [metF_app _ _ _ _ ih]
      unfold metF
      rw [if_neg (by omega), if_pos rfl]
      simp [metF]
/-- the states, the rows and what they accept, when i states are gone through -/
def stsK (all : List Sp) : Nat → List St
  | 0 => [firstS all all.length]
  | i + 1 => (rowK all ((stsK all i).getD i []) (stsK all i) 256).1
def nxtK (all : List Sp) : Nat → List (List Int)
  | 0 => []
  | i + 1 => nxtK all i ++ [(rowK all ((stsK all i).getD i []) (stsK all i) 256).2]
def accK (all : List Sp) : Nat → List Int
  | 0 => []
  | i + 1 => accK all i ++ [accS ((stsK all i).getD i [])]
theorem nxtK_len (all : List Sp) : ∀ i, (nxtK all i).length = i
  | 0 => rfl
  | i + 1 => by simp [nxtK, nxtK_len all i]
theorem accK_len (all : List Sp) : ∀ i, (accK all i).length = i
  | 0 => rfl
  | i + 1 => by simp [accK, accK_len all i]
theorem stsK_nd (all : List Sp) : ∀ i, (stsK all i).Nodup
  | 0 => by simp [stsK]
  | i + 1 => (rowK_is all _ _ (stsK_nd all i) 256).nd
theorem stsK_more (all : List Sp) (i : Nat) : ∃ U, stsK all (i + 1) = stsK all i ++ U ∧ (∀ x ∈ U, ∃ c, c < 256 ∧ x = byS all ((stsK all i).getD i []) c ∧ x ≠ []) := (rowK_is all _ _ (stsK_nd all i) 256).pre
theorem stsK_mono (all : List Sp) (i : Nat) : ∀ d, ∃ U, stsK all (i + d) = stsK all i ++ U
  | 0 => ⟨[], by simp⟩
  | d + 1 => by
    obtain ⟨U, hU⟩ := stsK_mono all i d
    obtain ⟨V, hV, _⟩ := stsK_more all (i + d)
    exact ⟨U ++ V, by rw [← Nat.add_assoc, hV, hU, List.append_assoc]⟩
theorem stsK_first (all : List Sp) (i : Nat) : (stsK all i)[0]? = some (firstS all all.length) := by
  obtain ⟨U, hU⟩ := stsK_mono all 0 i
  rw [Nat.zero_add] at hU
  rw [hU]
  simp [stsK]
theorem stsK_keep (all : List Sp) {i j : Nat} (h : i ≤ j) {m : Nat} (hm : m < (stsK all i).length) : (stsK all j).getD m [] = (stsK all i).getD m [] := by
  obtain ⟨U, hU⟩ := stsK_mono all i (j - i)
  rw [show i + (j - i) = j by omega] at hU
  rw [hU]
  simp [List.getD_eq_getElem?_getD, List.getElem?_append_left hm]
/-- a row is right at every later time -/
theorem nxtK_row (all : List Sp) {i j : Nat} (hij : j < i) : ((nxtK all i).getD j []).length = 256 ∧ ∀ c, c < 256 → RowOK (stsK all i) (byS all ((stsK all j).getD j []) c) (((nxtK all i).getD j []).getD c 0) := by
  induction i with
  | zero => omega
  | succ i ih =>
    rw [nxtK]
    rcases Nat.lt_or_ge j i with hlt | hge
    · rw [getD_snoc_left (by rw [nxtK_len]; exact hlt)]
      obtain ⟨h1, h2⟩ := ih hlt
      refine ⟨h1, fun c hc => ?_⟩
      obtain ⟨U, hU, _⟩ := stsK_more all i
      rw [hU]
      exact (h2 c hc).more U
    · obtain rfl : j = i := by omega
      rw [getD_snoc_at (nxtK_len all j).symm]
      have H := rowK_is all ((stsK all j).getD j []) (stsK all j) (stsK_nd all j) 256
      exact ⟨H.len, H.row⟩
theorem accK_at (all : List Sp) {i j : Nat} (hij : j < i) : (accK all i).getD j 0 = accS ((stsK all j).getD j []) := by
  induction i with
  | zero => omega
  | succ i ih =>
    rw [accK]
    rcases Nat.lt_or_ge j i with hlt | hge
    · rw [getD_snoc_left (by rw [accK_len]; exact hlt)]
      exact ih hlt
    · obtain rfl : j = i := by omega
      rw [getD_snoc_at (accK_len all j).symm]
theorem stsK_frm {ts : List Rx} {all : List Sp} (R : RuS ts all) : ∀ i, ∀ st ∈ stsK all i, ∀ x ∈ st, FrmS ts x
  | 0 => by
    intro st hst
    have : st = firstS all all.length := by simpa [stsK] using hst
    subst this
    exact first_frm R
  | i + 1 => by
    have ih := stsK_frm R i
    intro st hst
    obtain ⟨U, hU, hU'⟩ := stsK_more all i
    rw [hU] at hst
    rcases List.mem_append.1 hst with h | h
    · exact ih st h
    · obtain ⟨c, _, rfl, _⟩ := hU' st h
      refine by_frm R (fun x hx => ?_) c
      rcases Nat.lt_or_ge i (stsK all i).length with hl | hl
      · have hm : (stsK all i).getD i [] ∈ stsK all i := by
          rw [List.getD_eq_getElem?_getD, List.getElem?_eq_getElem hl]
          exact List.getElem_mem hl
        exact ih _ hm x hx
      · rw [List.getD_eq_getElem?_getD, List.getElem?_eq_none hl] at hx
        cases hx
/-- where the rows lead behind i bytes -/
def goK (N : List (List Int)) (s : Txt) : Nat → Int
  | 0 => 0
  | i + 1 => if goK N s i < 0 then -1 else (N.getD (goK N s i).toNat []).getD (s.getD i 0).toNat 0
/-- where the finished automaton leads is the state of rules behind the text -/
theorem go_run (all : List Sp) {n : Nat} (hn : (stsK all n).length = n) (hj : ∀ j, j < n → j < (stsK all j).length) (s : Txt) : ∀ i,
    (goK (nxtK all n) s i = -1 ∧ runK all s i = []) ∨ (∃ m : Nat, goK (nxtK all n) s i = (m : Int) ∧ (stsK all n)[m]? = some (runK all s i))
  | 0 => Or.inr ⟨0, rfl, stsK_first all n⟩
  | i + 1 => by
    rcases go_run all hn hj s i with ⟨h1, h2⟩ | ⟨m, h1, h2⟩
    · left
      rw [goK, h1, runK, h2]
      exact ⟨rfl, byS_nil _ _⟩
    · have hm : m < n := by
        rcases Nat.lt_or_ge m (stsK all n).length with h | h
        · omega
        · rw [List.getElem?_eq_none h] at h2; cases h2
      have hb : (s.getD i 0).toNat < 256 := (s.getD i 0).toNat_lt
      have hrow := (nxtK_row all hm).2 _ hb
      have hge : (stsK all n).getD m [] = runK all s i := by rw [List.getD_eq_getElem?_getD, h2]; rfl
      rw [goK, h1, if_neg (by omega), Int.toNat_natCast, runK]
      rw [stsK_keep all (by omega) (hj m hm)] at hge
      rw [hge] at hrow
      rcases hrow with ⟨e1, e2⟩ | ⟨_, k, e2, e3⟩
      · exact Or.inl ⟨e2, e1⟩
      · exact Or.inr ⟨k, e2, e3⟩
/-- what the finished automaton accepts a text by -/
def accG (all : List Sp) (n : Nat) (s : Txt) : Int := if goK (nxtK all n) s s.length < 0 then -1 else (accK all n).getD (goK (nxtK all n) s s.length).toNat 0
theorem accG_run (all : List Sp) {n : Nat} (hn : (stsK all n).length = n) (hj : ∀ j, j < n → j < (stsK all j).length) (s : Txt) : accG all n s = accS (runK all s s.length) := by
  unfold accG
  rcases go_run all hn hj s s.length with ⟨h1, h2⟩ | ⟨m, h1, h2⟩
  · rw [h1, h2]; rfl
  · have hm : m < n := by
      rcases Nat.lt_or_ge m (stsK all n).length with h | h
      · omega
      · rw [List.getElem?_eq_none h] at h2; cases h2
    have hge : (stsK all n).getD m [] = runK all s s.length := by rw [List.getD_eq_getElem?_getD, h2]; rfl
    rw [h1, if_neg (by omega), Int.toNat_natCast, accK_at all hm, ← stsK_keep all (Nat.le_of_lt hm) (hj m hm), hge]
/-- the first rule that fits -/
theorem accG_some {ts : List Rx} {all : List Sp} (R : RuS ts all) {n : Nat} (hn : (stsK all n).length = n) (hj : ∀ j, j < n → j < (stsK all j).length) (s : Txt) {r : Nat} (h : r < ts.length) (hm : Mat ts[r] s) (hf : ∀ r' (h' : r' < ts.length), r' < r → ¬ Mat ts[r'] s) : accG all n s = (r : Int) := by
  rw [accG_run all hn hj s]
  have key : ∀ r (h : r < ts.length), enc r 999 ∈ runK all s s.length ↔ Mat ts[r] s := fun r h => by
    have := (runK_is R s s.length (Nat.le_refl _) r h).2
    rw [List.take_length] at this
    exact this
  exact acc_some (runK_up R s _) (runK_frm R s _) ((key r h).2 hm) (fun r' hr' hc => hf r' (by omega) hr' ((key r' (by omega)).1 hc)) R.few
theorem accG_none {ts : List Rx} {all : List Sp} (R : RuS ts all) {n : Nat} (hn : (stsK all n).length = n) (hj : ∀ j, j < n → j < (stsK all j).length) (s : Txt) (hf : ∀ r (h : r < ts.length), ¬ Mat ts[r] s) : accG all n s = -1 := by
  rw [accG_run all hn hj s]
  exact acc_none (runK_frm R s _) (fun r h hc => hf r h (by
    have := (runK_is R s s.length (Nat.le_refl _) r h).2
    rw [List.take_length] at this
    exact this.1 hc)) R.few
/-- the law's count over all rows: met behind i states -/
def metsF (N : List (List Int)) : Nat → Option Nat
  | 0 => some 1
  | i + 1 => (metsF N i).bind fun m => if m ≤ i then none else metF m (N.getD i [])
theorem nxtK_keep (all : List Sp) {i j m : Nat} (h : i ≤ j) (hm : m < i) : (nxtK all j).getD m [] = (nxtK all i).getD m [] := by
  induction j with
  | zero => omega
  | succ j ih =>
    rcases Nat.lt_or_ge j i with hlt | hge
    · obtain rfl : i = j + 1 := by omega
      rfl
    · rw [nxtK, getD_snoc_left (by rw [nxtK_len]; omega)]
      exact ih hge
theorem nxtK_last (all : List Sp) (i : Nat) : (nxtK all (i + 1)).getD i [] = (rowK all ((stsK all i).getD i []) (stsK all i) 256).2 := by
  rw [nxtK, getD_snoc_at (nxtK_len all i).symm]
theorem mets_is (all : List Sp) {n : Nat} (hj : ∀ j, j < n → j < (stsK all j).length) : ∀ i, i ≤ n → metsF (nxtK all n) i = some (stsK all i).length
  | 0, _ => rfl
  | i + 1, hi => by
    rw [metsF, mets_is all hj i (by omega)]
    simp only [Option.bind_some]
    rw [if_neg (by have := hj i (by omega); omega), nxtK_keep all hi (by omega), nxtK_last]
    exact rowK_met all _ _ 256
/-- the automaton is right -/
theorem nxtK_right {ts : List Rx} {all : List Sp} (R : RuS ts all) {n : Nat} (hn : (stsK all n).length = n) (hj : ∀ j, j < n → j < (stsK all j).length) (h0 : 0 < n) : (∀ j, j < n → ((nxtK all n).getD j []).length = 256 ∧ -1 ≤ (accK all n).getD j 0 ∧ ∀ c, c < 256 → -1 ≤ ((nxtK all n).getD j []).getD c 0 ∧ ((nxtK all n).getD j []).getD c 0 < (n : Int)) := by
  intro j hlt
  obtain ⟨h1, h2⟩ := nxtK_row all hlt
  refine ⟨h1, ?_, fun c hc => ?_⟩
  · rw [accK_at all hlt]
    have hl := hj j hlt
    refine acc_ge (ts := ts) (stsK_frm R j _ ?_)
    rw [List.getD_eq_getElem?_getD, List.getElem?_eq_getElem hl]
    exact List.getElem_mem hl
  · rcases (h2 c hc).range with h | h
    · rw [hn] at h; exact h
    · rw [h]; omega

end Go.Proofs.YtlpbeieljjgbaaaGreatDoor
