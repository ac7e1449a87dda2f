/- The reference of layer 8: by. What Parts must answer is the one list of its kind: the classes, in the order of their least bytes. The maths of rowOf's walk: what is behind places is places; a row's bytes of one part. What spots.Of answers is one; lists of spots that agree. -/
import Derived.Test.YtonlcnmlklaicaaGreatDoorJ17
import Derived.Test.YtonlcnmlklaicaaGreatDoorJ4
import Derived.Test.YtonlcnmlklaicaaGreatDoorJ16
namespace Go.Proofs.YtonlcnmlklaicaaGreatDoor
open Go.RowKit

theorem byOne_eq (all : List Sp) (b r j : Nat) (h : j < 999) : byOne all b (enc r j) = if hasB ((all.getD r noSp).sets.getD j noneB) b then wideL r ((all.getD r noSp).follow.getD j []) ++ (if (all.getD r noSp).last.contains (j : Int) then [(r : Int) * 1000 + 999] else []) else [] := by
  have e1 : (enc r j / 1000).toNat = r := enc_div (by omega)
  have e2 : enc r j % 1000 = (j : Int) := enc_mod (by omega)
  have e3 : enc r j / 1000 * 1000 + 999 = (r : Int) * 1000 + 999 := by unfold enc; omega
  unfold byOne
  rw [e1, e2, e3, Int.toNat_natCast]
  by_cases hb : hasB ((all.getD r noSp).sets.getD j noneB) b = true
  · rw [if_neg (by rw [hb]; simp; omega), if_pos hb]
  · rw [if_pos (Or.inr (by simpa using hb)), if_neg hb]
theorem SmlS.fol {p : Sp} (h : SmlS p) (j : Nat) : (p.follow.getD j []).length ≤ 60 ∧ ∀ x ∈ p.follow.getD j [], 0 ≤ x ∧ x < 60 := by
  rw [List.getD_eq_getElem?_getD]
  rcases Nat.lt_or_ge j p.follow.length with hl | hl
  · rw [List.getElem?_eq_getElem hl]
    exact h.follow _ (List.getElem_mem hl)
  · rw [List.getElem?_eq_none hl]
    simp
end Go.Proofs.YtonlcnmlklaicaaGreatDoor
namespace Go.Proofs.YtonlcnmlklaicaaGreatDoor

theorem rise_uniq {α : Type} (f : α → Int) : ∀ s t : List α, s.Pairwise (fun a b => f a < f b) → t.Pairwise (fun a b => f a < f b) → (∀ x, x ∈ s ↔ x ∈ t) → s = t
  | [], t, _, _, h => by
    cases t with
    | nil => rfl
    | cons b t => exact absurd ((h b).2 (List.mem_cons_self ..)) (List.not_mem_nil)
  | a :: s, [], _, _, h => absurd ((h a).1 (List.mem_cons_self ..)) (List.not_mem_nil)
  | a :: s, b :: t, hs, ht, h => by
    rw [List.pairwise_cons] at hs ht
    have hab : a = b := by
      rcases List.mem_cons.1 ((h a).1 (List.mem_cons_self ..)) with e | ha
      · exact e
      · rcases List.mem_cons.1 ((h b).2 (List.mem_cons_self ..)) with e | hb
        · exact e.symm
        · have h1 := ht.1 a ha
          have h2 := hs.1 b hb
          omega
    subst hab
    rw [rise_uniq f s t hs.2 ht.2 fun x => ⟨fun hx => ?_, fun hx => ?_⟩]
    · rcases List.mem_cons.1 ((h x).1 (List.mem_cons_of_mem _ hx)) with e | h'
      · subst e; have := hs.1 x hx; omega
      · exact h'
    · rcases List.mem_cons.1 ((h x).2 (List.mem_cons_of_mem _ hx)) with e | h'
      · subst e; have := ht.1 x hx; omega
      · exact h'
theorem cls_has (l : List W4) (r x : Nat) (hx : x < 256) : hasB (clsB l r) x = al l r x := by unfold clsB; rw [mkB_has _ x hx]
theorem cls_same {l : List W4} {a b : Nat} (h : al l a b = true) : clsB l a = clsB l b := by
  unfold clsB
  refine mkB_congr fun x _ => ?_
  rw [Bool.eq_iff_iff]
  exact ⟨fun h' => al_trans (al_symm h) h', fun h' => al_trans h h'⟩
theorem rep_min (l : List W4) : ∀ k, ∀ r ∈ repN l k, ∀ x, x < r → al l r x = false
  | 0, r, hr, _, _ => by rw [repN_zero] at hr; exact absurd hr (List.not_mem_nil)
  | k + 1, r, hr, x, hx => by
    cases h : (repN l k).any (fun r => al l r k) with
    | true => rw [repN_old h] at hr; exact rep_min l k r hr x hx
    | false =>
      rw [repN_new h, List.mem_append, List.mem_singleton] at hr
      rcases hr with hr | rfl
      · exact rep_min l k r hr x hx
      · exact cls_low h hx
theorem rep_up (l : List W4) : ∀ k, (repN l k).Pairwise (· < ·)
  | 0 => by rw [repN_zero]; exact List.Pairwise.nil
  | k + 1 => by
    cases h : (repN l k).any (fun r => al l r k) with
    | true => rw [repN_old h]; exact rep_up l k
    | false =>
      rw [repN_new h, List.pairwise_append]
      exact ⟨rep_up l k, List.pairwise_singleton _ _, fun a ha b hb => by rw [List.mem_singleton] at hb; subst hb; exact repN_lt l _ a ha⟩
theorem least_cls (l : List W4) (r : Nat) (hr : r ∈ repN l 256) : leastB (clsB l r) = (r : Int) := by
  have h := repN_lt l 256 r hr
  exact least_at (by rw [cls_has l r r h]; exact al_refl l r) h fun x hx => by rw [cls_has l r x (by omega)]; exact rep_min l 256 r hr x hx
theorem parts_rise (l : List W4) : (partsB l).Pairwise (fun P Q => leastB P < leastB Q) := by
  unfold partsB
  rw [List.pairwise_map]
  refine (rep_up l 256).imp_of_mem fun {a b} ha hb h => ?_
  rw [least_cls l a ha, least_cls l b hb]
  exact Int.ofNat_lt.2 h
theorem parts_cls (l : List W4) : ∀ P ∈ partsB l, ∃ r, r < 256 ∧ P = clsB l r := fun P hP => by
  unfold partsB at hP
  obtain ⟨r, hr, rfl⟩ := List.mem_map.1 hP
  exact ⟨r, repN_lt l 256 r hr, rfl⟩
theorem parts_mem (l : List W4) (x : Nat) (hx : x < 256) : clsB l x ∈ partsB l := by
  obtain ⟨r, hr, ha⟩ := List.any_eq_true.1 (repN_all l 256 x hx)
  unfold partsB
  exact List.mem_map.2 ⟨r, hr, cls_same ha⟩
/-- Whatever the way: classes, all of them, in the order of their least bytes: it is the one list. -/
theorem parts_uniq {l ps : List W4} (h1 : ∀ P ∈ ps, ∃ r, r < 256 ∧ P = clsB l r) (h2 : ∀ r, r < 256 → clsB l r ∈ ps) (h3 : ps.Pairwise (fun P Q => leastB P < leastB Q)) : ps = partsB l :=
  rise_uniq leastB ps (partsB l) h3 (parts_rise l) fun P => ⟨fun hP => by obtain ⟨r, hr, rfl⟩ := h1 P hP; exact parts_mem l r hr, fun hP => by obtain ⟨r, hr, rfl⟩ := parts_cls l P hP; exact h2 r hr⟩
/-- a set alike on one more set: the class is cut in two -/
theorem al_snoc (l : List W4) (S : W4) (a b : Nat) : al (l ++ [S]) a b = (al l a b && (hasB S a == hasB S b)) := by simp [al]
theorem cls_snoc (l : List W4) (S : W4) (_hS : Fit4 S) (r : Nat) : clsB (l ++ [S]) r = andB (clsB l r) (if hasB S r then S else notB S) := by
  unfold andB
  conv => lhs; unfold clsB
  refine mkB_congr fun x hx => ?_
  rw [al_snoc, cls_has l r x hx]
  congr 1
  cases h : hasB S r with
  | true => simp
  | false => unfold notB; simp [mkB_has _ x hx]
theorem cls_nil (r : Nat) : clsB [] r = notB noneB := by
  unfold notB clsB
  refine mkB_congr fun x _ => ?_
  rw [noneB_has]; rfl

end Go.Proofs.YtonlcnmlklaicaaGreatDoor
namespace Go.Proofs.YtonlcnmlklaicaaGreatDoor

theorem prtK_pre (all : List Sp) (st : St) (S : List St) (reps : List Nat) : ∀ k, ∃ U, prtK all st S reps k = S ++ U
  | 0 => ⟨[], by simp [prtK]⟩
  | k + 1 => by
    obtain ⟨U, hU⟩ := prtK_pre all st S reps k
    obtain ⟨V, hV⟩ := metS_more (prtK all st S reps k) (byS all st (reps.getD k 0))
    exact ⟨U ++ V, by rw [prtK, hV, hU, List.append_assoc]⟩
theorem prtK_nd (all : List Sp) (st : St) {S : List St} (hS : S.Nodup) (reps : List Nat) : ∀ k, (prtK all st S reps k).Nodup
  | 0 => hS
  | k + 1 => by
    have ih := prtK_nd all st hS reps k
    rw [prtK]
    unfold metS
    split
    · exact ih
    · split
      · exact ih
      · rename_i hm
        rw [List.nodup_append]
        refine ⟨ih, by simp, fun a ha b hb => ?_⟩
        have : b = byS all st (reps.getD k 0) := by simpa using hb
        subst this
        exact fun e => hm (e ▸ ha)
theorem prtK_len (all : List Sp) (st : St) (S : List St) (reps : List Nat) : ∀ k, (prtK all st S reps k).length ≤ S.length + k
  | 0 => Nat.le_refl _
  | k + 1 => by
    have ih := prtK_len all st S reps k
    rw [prtK]
    unfold metS
    split
    · omega
    · split
      · omega
      · simp; omega
theorem nodup_map {S : List St} {f : St → Txt} (hS : S.Nodup) (h : ∀ x ∈ S, ∀ y ∈ S, f x = f y → x = y) : (S.map f).Nodup := by
  induction S with
  | nil => simp
  | cons a r ih =>
    rw [List.nodup_cons] at hS
    rw [List.map_cons, List.nodup_cons]
    refine ⟨fun hm => ?_, ih hS.2 (fun x hx y hy => h x (by simp [hx]) y (by simp [hy]))⟩
    obtain ⟨x, hx, e⟩ := List.mem_map.1 hm
    have := h x (by simp [hx]) a (by simp) e
    exact hS.1 (this ▸ hx)
/-- the first c bytes of a part are put into a row -/
def putB8 (P : W4) (nx : Int) (rw : List Int) (c : Nat) : List Int := (List.range 256).map fun b => if b < c ∧ hasB P b = true then nx else rw.getD b 0
theorem putB8_len (P : W4) (nx : Int) (rw : List Int) (c : Nat) : (putB8 P nx rw c).length = 256 := by simp [putB8]
theorem putB8_at (P : W4) (nx : Int) (rw : List Int) (c : Nat) {b : Nat} (h : b < 256) : (putB8 P nx rw c).getD b 0 = if b < c ∧ hasB P b = true then nx else rw.getD b 0 := by
  unfold putB8
  rw [List.getD_eq_getElem?_getD, List.getElem?_map, List.getElem?_range h]
  rfl
theorem putB8_zero (P : W4) (nx : Int) {rw : List Int} (h : rw.length = 256) : putB8 P nx rw 0 = rw :=
  list_ext (putB8_len _ _ _ _) h fun b hb => by rw [putB8_at _ _ _ _ hb, if_neg (fun h => absurd h.1 (Nat.not_lt_zero _))]
theorem putB8_end (P : W4) (nx : Int) (rw : List Int) : putB8 P nx rw 256 = putR P nx rw :=
  list_ext (putB8_len _ _ _ _) (putR_len _ _ _) fun b hb => by
    rw [putB8_at _ _ _ _ hb, putR_at _ _ _ hb]
    by_cases h : hasB P b = true
    · rw [if_pos ⟨hb, h⟩, if_pos h]
    · rw [if_neg (fun h' => h h'.2), if_neg h]
theorem putB8_yes {P : W4} {nx : Int} {rw : List Int} {c : Nat} (hc : c < 256) (h : hasB P c = true) : putB8 P nx rw (c + 1) = (putB8 P nx rw c).set c nx :=
  list_ext (putB8_len _ _ _ _) (by rw [List.length_set, putB8_len]) fun b hb => by
    rw [putB8_at _ _ _ _ hb, List.getD_eq_getElem?_getD (l := (putB8 P nx rw c).set c nx), List.getElem?_set]
    by_cases e : c = b
    · subst e
      rw [if_pos ⟨by omega, h⟩, if_pos rfl, if_pos (by rw [putB8_len]; exact hc)]
      rfl
    · rw [if_neg e, ← List.getD_eq_getElem?_getD (l := putB8 P nx rw c), putB8_at _ _ _ _ hb]
      by_cases h' : b < c ∧ hasB P b = true
      · rw [if_pos h', if_pos ⟨by omega, h'.2⟩]
      · rw [if_neg h', if_neg (fun h2 => h' ⟨by omega, h2.2⟩)]
theorem putB8_no {P : W4} {nx : Int} {rw : List Int} {c : Nat} (h : hasB P c = false) : putB8 P nx rw (c + 1) = putB8 P nx rw c :=
  list_ext (putB8_len _ _ _ _) (putB8_len _ _ _ _) fun b hb => by
    rw [putB8_at _ _ _ _ hb, putB8_at _ _ _ _ hb]
    by_cases e : c = b
    · subst e
      rw [if_neg (by rw [h]; simp), if_neg (by omega)]
    · by_cases h' : b < c ∧ hasB P b = true
      · rw [if_pos h', if_pos ⟨by omega, h'.2⟩]
      · rw [if_neg h', if_neg (fun h2 => h' ⟨by omega, h2.2⟩)]
theorem behOne_in {ts : List Rx} {all : List Sp} (R : RuS ts all) (hp : ∀ p ∈ all, SmlS p) {r k : Nat} (h : r < ts.length) (hk : k < nSets ts[r]) : (behOne all r k).length ≤ 61 ∧ ∀ x ∈ behOne all r k, 0 ≤ x ∧ x < (totP all : Int) := by
  have hra : r < all.length := by rw [R.len]; exact h
  have hn := (R.is r h).n
  have hf := R.few r h
  constructor
  · have h1 := ((hp all[r] (List.getElem_mem hra)).fol k).1
    unfold behOne
    rw [List.length_append, List.length_map, getD_at hra]
    split <;> simp only [List.length_singleton, List.length_nil] <;> omega
  · intro x hx
    rcases (beh_mem R h hk x).1 hx with ⟨j, hj, e⟩ | ⟨_, e⟩ <;> rw [e]
    · have := fol_in ts[r] 0 k j hj
      exact plOf_in ⟨r, j, rfl, hra, Or.inr ⟨by omega, by omega⟩⟩
    · exact plOf_in ⟨r, 999, rfl, hra, Or.inl rfl⟩
theorem behP_in {ts : List Rx} {all : List Sp} (R : RuS ts all) (hp : ∀ p ∈ all, SmlS p) : ∀ l ∈ behP all all.length, l.length ≤ 4000 ∧ ∀ x ∈ l, 0 ≤ x ∧ x < (totP all : Int) := by
  intro l hl
  obtain ⟨i, hi, rfl⟩ := List.getElem_of_mem hl
  have hi' : i < totP all := by rw [behP_len] at hi; exact hi
  have e : (behP all all.length)[i] = (behP all all.length).getD i [] := by rw [List.getD_eq_getElem?_getD, List.getElem?_eq_getElem hi]; rfl
  rw [e]
  rcases place_is all all.length i hi' with h | ⟨r, k, h1, h2, rfl⟩
  · rw [behP_end all _ i h]
    simp
  · rw [behP_at all h2 _ h1]
    have hr : r < ts.length := by rw [← R.len]; exact h1
    have := behOne_in R hp hr (k := k) (by rw [← (R.is r hr).n]; exact h2)
    exact ⟨by omega, this.2⟩
theorem offP_max {all : List Sp} (hl : all.length ≤ 16) (hp : ∀ p ∈ all, SmlS p) : ∀ m, m ≤ all.length → offP all m ≤ all.length + m * 60
  | 0, _ => by simp [offP]
  | m + 1, hm => by
    have ih := offP_max hl hp m (by omega)
    have := (hp all[m] (List.getElem_mem (show m < all.length by omega))).sets
    rw [offP, getD_at (show m < all.length by omega)]
    omega
theorem totP_max {all : List Sp} (hl : all.length ≤ 16) (hp : ∀ p ∈ all, SmlS p) : totP all ≤ 976 := by
  have := offP_max hl hp all.length (Nat.le_refl _)
  unfold totP
  omega

end Go.Proofs.YtonlcnmlklaicaaGreatDoor
namespace Go.Proofs.YtonlcnmlklaicaaGreatDoor
open Go.RowKit

theorem Cels.shape {w : World} {v : Value} {l : List Cel} (h : Cels w v l) : ∃ a c, v = .slice a l.length c := by
  obtain ⟨a, c, e, _⟩ := h
  exact ⟨a, c, e⟩
theorem folOK_uniq {R : Nat → Nat → Prop} {n : Nat} {a b : List (List Int)} (ha : FolOK R n a) (hb : FolOK R n b) : a = b := by
  have l1 := ha.len
  have l2 := hb.len
  refine List.ext_getElem (by omega) fun j h1 h2 => ?_
  have := up_uniq (ha.up j (by omega)) (hb.up j (by omega)) fun x => (ha.mem j x (by omega)).trans (hb.mem j x (by omega)).symm
  simp only [List.getD_eq_getElem?_getD, List.getElem?_eq_getElem h1, List.getElem?_eq_getElem h2] at this
  exact this
/-- a rule's spots, with these lists behind each -/
def spOf (t : Rx) (fl : List (List Int)) : Sp := ⟨setsS [t], t.null, firstL t 0, lastL t 0, fl⟩
theorem spOf_is {t : Rx} {fl : List (List Int)} (h : FolOK (FolS [t]) (nS [t]) fl) : IsSp t (spOf t fl) := isSp_of h (firstL_mem t 0) (lastL_mem t 0)
theorem nS_one (t : Rx) : nS [t] = nSets t := by simp [nS]
theorem spOf_bounds {t : Rx} {fl : List (List Int)} (h : FolOK (FolS [t]) (nS [t]) fl) (h60 : (post t).length ≤ 60) : (spOf t fl).sets.length ≤ 60 ∧ (spOf t fl).follow.length = (spOf t fl).sets.length ∧ (spOf t fl).first.length ≤ 60 ∧ (spOf t fl).last.length ≤ 60 ∧ ∀ l ∈ (spOf t fl).follow, l.length ≤ 60 := by
  have hn : nSets t ≤ 60 := Nat.le_trans (nSets_le t) h60
  have hs : (setsS [t]).length = nSets t := by rw [setsS_len, nS_one]
  refine ⟨by show (setsS [t]).length ≤ 60; omega, ?_, Nat.le_trans (firstL_len t 0) hn, Nat.le_trans (lastL_len t 0) hn, fun l hl => ?_⟩
  · show fl.length = (setsS [t]).length
    rw [h.len, nS_one, hs]
  · have hl' : l ∈ fl := hl
    obtain ⟨j, hj, rfl⟩ := List.getElem_of_mem hl'
    have hj' : j < nS [t] := by rw [← h.len]; exact hj
    have e : fl.getD j [] = fl[j] := by rw [List.getD_eq_getElem?_getD, List.getElem?_eq_getElem hj]; rfl
    have hu := h.up j hj'
    have hi := h.inN (fun j k hjk => (folS_in [t] j k hjk).2) j hj'
    rw [e] at hu hi
    exact Nat.le_trans (inN_len hu hi) (by rw [nS_one]; exact hn)


/-- these are the rule's spots -/
def SpAt (t : Rx) (p : Sp) : Prop := ∃ fl, p = spOf t fl ∧ FolOK (FolS [t]) (nS [t]) fl
theorem SpAt.uniq {t : Rx} {p q : Sp} (h : SpAt t p) (h' : SpAt t q) : p = q := by
  obtain ⟨fl, rfl, h1⟩ := h
  obtain ⟨fl', rfl, h2⟩ := h'
  rw [folOK_uniq h1 h2]
theorem SpAt.sml {t : Rx} {p : Sp} (h : SpAt t p) (h60 : (post t).length ≤ 60) : SmlS p := by
  obtain ⟨fl, rfl, h1⟩ := h
  have hn : nSets t ≤ 60 := Nat.le_trans (nSets_le t) h60
  obtain ⟨b1, b2, b3, b4, b5⟩ := spOf_bounds h1 h60
  have H := spOf_is h1
  refine ⟨b1, b3, fun x hx => ?_, b4, b2, fun l hl => ⟨b5 l hl, fun x hx => ?_⟩⟩
  · obtain ⟨k, rfl, hk⟩ := (H.first x).1 hx
    have := fst_in t 0 k hk
    omega
  · obtain ⟨j, hj, rfl⟩ := List.getElem_of_mem hl
    have hj' : j < nSets t := by rw [← H.len]; exact hj
    have e : (spOf t fl).follow.getD j [] = (spOf t fl).follow[j] := by rw [List.getD_eq_getElem?_getD, List.getElem?_eq_getElem hj]; rfl
    obtain ⟨k, rfl, hk⟩ := (H.follow j x hj').1 (by rw [e]; exact hx)
    have := fol_in t 0 j k hk
    omega
/-- all of them -/
structure SpAll (ts : List Rx) (all : List Sp) : Prop where
  len : all.length = ts.length
  is : ∀ r (h : r < ts.length), SpAt ts[r] (all.getD r noSp)
theorem getD_all {all : List Sp} {r : Nat} (h : r < all.length) : all.getD r noSp = all[r] := getD_at h
theorem SpAll.uniq {ts : List Rx} {a b : List Sp} (ha : SpAll ts a) (hb : SpAll ts b) : a = b := by
  refine List.ext_getElem (by rw [ha.len, hb.len]) fun i h1 h2 => ?_
  have hi : i < ts.length := by rw [← ha.len]; exact h1
  have := (ha.is i hi).uniq (hb.is i hi)
  rw [getD_all h1, getD_all h2] at this
  exact this
theorem SpAll.ru {ts : List Rx} {all : List Sp} (h : SpAll ts all) (h60 : ∀ t ∈ ts, (post t).length ≤ 60) : RuS ts all where
  len := h.len
  is := fun r hr => by
    obtain ⟨fl, e, h1⟩ := h.is r hr
    rw [e]
    exact spOf_is h1
  few := fun r hr => Nat.le_trans (nSets_le _) (h60 _ (List.getElem_mem hr))
  up := fun r hr => by
    obtain ⟨fl, e, h1⟩ := h.is r hr
    rw [e]
    exact firstL_up _ _
theorem SpAll.sml {ts : List Rx} {all : List Sp} (h : SpAll ts all) (h60 : ∀ t ∈ ts, (post t).length ≤ 60) : ∀ p ∈ all, SmlS p := by
  intro p hp
  obtain ⟨i, hi, rfl⟩ := List.getElem_of_mem hp
  have hi' : i < ts.length := by rw [← h.len]; exact hi
  have := (h.is i hi').sml (h60 _ (List.getElem_mem hi'))
  rwa [getD_all hi] at this
/-- lists that agree in their first m -/
def agr (a b : List Sp) (m : Nat) : Prop := a.length = b.length ∧ ∀ i, i < m → a.getD i noSp = b.getD i noSp
theorem offP_congr {a b : List Sp} {m : Nat} (h : agr a b m) : ∀ k, k ≤ m → offP a k = offP b k
  | 0, _ => h.1
  | k + 1, hk => by rw [offP, offP, offP_congr h k (by omega), h.2 k (by omega)]
theorem setsP_congr {a b : List Sp} {m : Nat} (h : agr a b m) : ∀ k, k ≤ m → setsP a k = setsP b k
  | 0, _ => by rw [setsP, setsP, h.1]
  | k + 1, hk => by rw [setsP, setsP, setsP_congr h k (by omega), h.2 k (by omega)]
theorem behP_congr {a b : List Sp} {m : Nat} (h : agr a b m) : ∀ k, k ≤ m → behP a k = behP b k
  | 0, _ => by rw [behP, behP, h.1]
  | k + 1, hk => by
    rw [behP, behP, behP_congr h k (by omega), h.2 k (by omega)]
    congr 1
    refine List.map_congr_left fun j _ => ?_
    unfold behOne
    rw [h.2 k (by omega), offP_congr h k (by omega)]
theorem firP_congr {a b : List Sp} {m : Nat} (h : agr a b m) : ∀ k, k ≤ m → firP a k = firP b k
  | 0, _ => rfl
  | k + 1, hk => by rw [firP, firP, firP_congr h k (by omega), h.2 k (by omega), offP_congr h k (by omega)]
theorem agr_set {a : List Sp} {k : Nat} (p : Sp) : agr a (a.set k p) k := by
  refine ⟨by simp, fun i hi => ?_⟩
  rw [List.getD_eq_getElem?_getD, List.getD_eq_getElem?_getD, List.getElem?_set, if_neg (by omega)]
theorem set_at {a : List Sp} {k : Nat} (h : k < a.length) (p : Sp) : (a.set k p).getD k noSp = p := by
  rw [List.getD_eq_getElem?_getD, List.getElem?_set, if_pos rfl, if_pos h]
  rfl

end Go.Proofs.YtonlcnmlklaicaaGreatDoor
