/- The maths of layer 8: a row by parts of bytes is the row byte by byte; when the building ends. What Parts must answer is the one list of its kind: the classes, in the order of their least bytes. The maths of rowOf's walk: what is behind places is places; a row's bytes of one part. The contract of math/bits.TrailingZeros64, where its table lies as it was laid. -/
import Derived.Test.YtjelgphhlcecoaaGreatDoorJ19
import Derived.Test.YtjelgphhlcecoaaGreatDoorJ4
import Derived.Test.YtjelgphhlcecoaaGreatDoorJ13
import Derived.Test.YtjelgphhlcecoaaGreatDoorJ2
import Derived.Test.YtjelgphhlcecoaaGreatDoorJ22
namespace Go.Proofs.YtjelgphhlcecoaaGreatDoor

/-- one more state, if it is one, and wasn't met -/
def metS (L : List St) (to : St) : List St := if to = [] then L else if to ∈ L then L else L ++ [to]
theorem metS_nil (L : List St) : metS L [] = L := by unfold metS; rw [if_pos rfl]
theorem metS_old {L : List St} {to : St} (h : to ∈ L) : metS L to = L := by
  unfold metS
  split
  · rfl
  · first | rfl | rw [if_pos h]
theorem metS_new {L : List St} {to : St} (h0 : to ≠ []) (h : ¬ to ∈ L) : metS L to = L ++ [to] := by
  unfold metS
  rw [if_neg h0, if_neg h]
theorem metS_more (L : List St) (to : St) : ∃ U, metS L to = L ++ U := by
  unfold metS
  split
  · exact ⟨[], by simp⟩
  · split
    · exact ⟨[], by simp⟩
    · exact ⟨_, rfl⟩
theorem rowK_met1 (all : List Sp) (st : St) (S : List St) (b : Nat) : (rowK all st S (b + 1)).1 = metS (rowK all st S b).1 (byS all st b) := by
  rcases rowK_cases all st S b with ⟨h, e⟩ | ⟨h, hm, e⟩ | ⟨h, hm, e⟩
  · rw [e, h, metS_nil]
  · rw [e, metS_old hm]
  · rw [e, metS_new h hm]
/-- the states when k parts are gone through -/
def prtK (all : List Sp) (st : St) (S : List St) (reps : List Nat) : Nat → List St
  | 0 => S
  | k + 1 => metS (prtK all st S reps k) (byS all st (reps.getD k 0))
theorem repN_more (l : List W4) (c : Nat) : ∀ d, ∃ U, repN l (c + d) = repN l c ++ U
  | 0 => ⟨[], by simp⟩
  | d + 1 => by
    obtain ⟨U, hU⟩ := repN_more l c d
    rw [← Nat.add_assoc]
    cases hk : (repN l (c + d)).any (fun r => al l r (c + d)) with
    | true => exact ⟨U, by rw [repN_old hk, hU]⟩
    | false => exact ⟨U ++ [c + d], by rw [repN_new hk, hU, List.append_assoc]⟩
theorem rowOK_mem {T : List St} {to : St} {n : Int} (h : RowOK T to n) : to = [] ∨ to ∈ T := by
  rcases h with ⟨h, _⟩ | ⟨_, m, _, hm⟩
  · exact Or.inl h
  · exact Or.inr (List.mem_of_getElem? hm)
theorem metS_idle {T : List St} {to : St} (h : to = [] ∨ to ∈ T) : metS T to = T := by
  rcases h with rfl | h
  · exact metS_nil T
  · exact metS_old h
theorem prt_row {ts : List Rx} {all : List Sp} (R : RuS ts all) {st : St} (hs : ∀ x ∈ st, FrmS ts x) {S : List St} (hS : S.Nodup) : ∀ c, c ≤ 256 → prtK all st S (repN (setsP all all.length) 256) (repN (setsP all all.length) c).length = (rowK all st S c).1
  | 0, _ => by rw [repN_zero]; rfl
  | c + 1, hc => by
    have ih := prt_row R hs hS c (by omega)
    rw [rowK_met1]
    cases hk : (repN (setsP all all.length) c).any (fun r => al (setsP all all.length) r c) with
    | true =>
      rw [repN_old hk, ih]
      obtain ⟨r, hr, hal⟩ := List.any_eq_true.1 hk
      have hlt := repN_lt _ c r hr
      have hrow := (rowK_is all st S hS c).row r hlt
      rw [byS_alike R hs hal] at hrow
      exact (metS_idle (rowOK_mem hrow)).symm
    | false =>
      obtain ⟨U, hU⟩ := repN_more (setsP all all.length) (c + 1) (256 - (c + 1))
      rw [show c + 1 + (256 - (c + 1)) = 256 by omega] at hU
      have hat : (repN (setsP all all.length) 256).getD (repN (setsP all all.length) c).length 0 = c := by
        rw [hU, repN_new hk, List.append_assoc, List.getD_eq_getElem?_getD, List.getElem?_append_right (Nat.le_refl _)]
        simp
      rw [repN_new hk, List.length_append, List.length_singleton, prtK, ih, hat]
theorem prt_end {ts : List Rx} {all : List Sp} (R : RuS ts all) {st : St} (hs : ∀ x ∈ st, FrmS ts x) {S : List St} (hS : S.Nodup) : prtK all st S (repN (setsP all all.length) 256) (repN (setsP all all.length) 256).length = (rowK all st S 256).1 := prt_row R hs hS 256 (Nat.le_refl _)
theorem rowOK_uniq {T : List St} (hT : T.Nodup) {to : St} {n m : Int} (h : RowOK T to n) (h' : RowOK T to m) : n = m := by
  rcases h with ⟨h, e⟩ | ⟨h, a, e, ha⟩ <;> rcases h' with ⟨h', e'⟩ | ⟨h', a', e', ha'⟩
  · omega
  · exact absurd h h'
  · exact absurd h' h
  · have hlt : a < T.length := by
      rcases Nat.lt_or_ge a T.length with h | h
      · exact h
      · rw [List.getElem?_eq_none h] at ha; cases ha
    have := (List.getElem?_inj hlt hT).1 (ha.trans ha'.symm)
    omega
/-- what a row holds when k parts are gone through -/
def PrtR (all : List Sp) (st : St) (S : List St) (l : List W4) (k : Nat) (rw : List Int) : Prop := rw.length = 256 ∧ ∀ j, j < k → ∀ b, b < 256 → al l ((repN l 256).getD j 0) b = true → RowOK (prtK all st S (repN l 256) k) (byS all st b) (rw.getD b 0)
def putR (P : W4) (nx : Int) (rw : List Int) : List Int := (List.range 256).map fun b => if hasB P b then nx else rw.getD b 0
theorem putR_len (P : W4) (nx : Int) (rw : List Int) : (putR P nx rw).length = 256 := by simp [putR]
theorem putR_at (P : W4) (nx : Int) (rw : List Int) {b : Nat} (h : b < 256) : (putR P nx rw).getD b 0 = if hasB P b then nx else rw.getD b 0 := by
  unfold putR
  rw [List.getD_eq_getElem?_getD, List.getElem?_map, List.getElem?_range h]
  rfl
theorem PrtR.step {ts : List Rx} {all : List Sp} (R : RuS ts all) {st : St} (hs : ∀ x ∈ st, FrmS ts x) {S : List St} {k : Nat} {rw : List Int} (h : PrtR all st S (setsP all all.length) k rw) {nx : Int}
    (hn : RowOK (prtK all st S (repN (setsP all all.length) 256) (k + 1)) (byS all st ((repN (setsP all all.length) 256).getD k 0)) nx) :
    PrtR all st S (setsP all all.length) (k + 1) (putR (clsB (setsP all all.length) ((repN (setsP all all.length) 256).getD k 0)) nx rw) := by
  refine ⟨putR_len _ _ _, fun j hj b hb hal => ?_⟩
  rw [putR_at _ _ _ hb]
  have hcl : hasB (clsB (setsP all all.length) ((repN (setsP all all.length) 256).getD k 0)) b = al (setsP all all.length) ((repN (setsP all all.length) 256).getD k 0) b := by
    unfold clsB
    rw [mkB_has _ b hb]
  rw [hcl]
  by_cases hk : al (setsP all all.length) ((repN (setsP all all.length) 256).getD k 0) b = true
  · rw [if_pos hk, ← byS_alike R hs hk]
    exact hn
  · rw [if_neg hk]
    have hjk : j < k := by
      rcases Nat.lt_or_ge j k with h | h
      · exact h
      · have : j = k := by omega
        subst this
        exact absurd hal hk
    have := h.2 j hjk b hb hal
    rw [prtK]
    obtain ⟨U, hU⟩ := metS_more (prtK all st S (repN (setsP all all.length) 256) k) (byS all st ((repN (setsP all all.length) 256).getD k 0))
    rw [hU]
    exact this.more U
theorem list_ext {l m : List Int} {n : Nat} (hl : l.length = n) (hm : m.length = n) (h : ∀ i, i < n → l.getD i 0 = m.getD i 0) : l = m := by
  refine List.ext_getElem (by omega) fun i h1 h2 => ?_
  have := h i (by omega)
  rw [List.getD_eq_getElem?_getD, List.getD_eq_getElem?_getD, List.getElem?_eq_getElem h1, List.getElem?_eq_getElem h2] at this
  exact this
theorem PrtR.fin {ts : List Rx} {all : List Sp} (R : RuS ts all) {st : St} (hs : ∀ x ∈ st, FrmS ts x) {S : List St} (hS : S.Nodup) {rw : List Int} (h : PrtR all st S (setsP all all.length) (repN (setsP all all.length) 256).length rw) : rw = (rowK all st S 256).2 := by
  have H := rowK_is all st S hS 256
  refine list_ext h.1 H.len fun b hb => ?_
  obtain ⟨r, hr, hal⟩ := List.any_eq_true.1 (repN_all (setsP all all.length) 256 b hb)
  obtain ⟨j, hj, rfl⟩ := List.mem_iff_getElem.1 hr
  have e : (repN (setsP all all.length) 256).getD j 0 = (repN (setsP all all.length) 256)[j] := by
    rw [List.getD_eq_getElem?_getD, List.getElem?_eq_getElem hj]
    rfl
  have h1 := h.2 j hj b hb (by rw [e]; exact hal)
  rw [prt_end R hs hS] at h1
  exact rowOK_uniq H.nd h1 (H.row b hb)
theorem idx_map {S : List St} {f : St → Txt} {to : St} (h : ∀ x ∈ S, f x = f to → x = to) : (S.map f).idxOf (f to) = S.idxOf to := by
  induction S with
  | nil => rfl
  | cons a r ih =>
    rw [List.map_cons, List.idxOf_cons, List.idxOf_cons]
    by_cases e : a = to
    · subst e
      simp
    · have e' : f a ≠ f to := fun e2 => e (h a (by simp) e2)
      rw [beq_eq_false_iff_ne.2 e, beq_eq_false_iff_ne.2 e']
      simp only [cond_false]
      rw [ih fun x hx => h x (by simp [hx])]
theorem mem_map_inj {S : List St} {f : St → Txt} {to : St} (h : ∀ x ∈ S, f x = f to → x = to) : f to ∈ S.map f ↔ to ∈ S := by
  rw [List.mem_map]
  exact ⟨fun ⟨x, hx, e⟩ => by rw [← h x hx e]; exact hx, fun hx => ⟨to, hx, rfl⟩⟩
theorem rowOK_met (L : List St) {to : St} (h0 : to ≠ []) : RowOK (metS L to) to ((L.idxOf to : Nat) : Int) := by
  refine Or.inr ⟨h0, L.idxOf to, rfl, ?_⟩
  by_cases h : to ∈ L
  · rw [metS_old h]
    exact idx_at h
  · rw [metS_new h0 h, List.idxOf_eq_length h]
    simp
/-- the states of the parts' way are states of the rules -/
theorem prt_frm {ts : List Rx} {all : List Sp} (R : RuS ts all) {st : St} (hs : ∀ x ∈ st, FrmS ts x) {S : List St} (hS : ∀ x ∈ S, (∀ y ∈ x, FrmS ts y) ∧ Up x) (reps : List Nat) : ∀ k, ∀ x ∈ prtK all st S reps k, (∀ y ∈ x, FrmS ts y) ∧ Up x
  | 0 => hS
  | k + 1 => by
    intro x hx
    rw [prtK] at hx
    unfold metS at hx
    split at hx
    · exact prt_frm R hs hS reps k x hx
    · split at hx
      · exact prt_frm R hs hS reps k x hx
      · rcases List.mem_append.1 hx with h | h
        · exact prt_frm R hs hS reps k x h
        · have : x = byS all st (reps.getD k 0) := by simpa using h
          subst this
          exact ⟨by_frm R hs _, byS_up _ _ _⟩
/-- the building ends with n states -/
structure BldTo (all : List Sp) (n : Nat) : Prop where
  on : ∀ j, j < n → j < (stsK all j).length
  few : ∀ j, j ≤ n → (stsK all j).length ≤ 240
  fin : (stsK all n).length = n
/-- the building finds too many states -/
def BldFull (all : List Sp) : Prop := ∃ n, (∀ j, j ≤ n → j < (stsK all j).length ∧ (stsK all j).length ≤ 240) ∧ 240 < (stsK all (n + 1)).length
theorem BldTo.uniq {all : List Sp} {n m : Nat} (h : BldTo all n) (h' : BldTo all m) : n = m := by
  rcases Nat.lt_trichotomy n m with hl | hl | hl
  · have := h'.on n hl
    have := h.fin
    omega
  · exact hl
  · have := h.on m hl
    have := h'.fin
    omega
theorem BldTo.not_full {all : List Sp} {n : Nat} (h : BldTo all n) : ¬ BldFull all := by
  rintro ⟨m, h1, h2⟩
  rcases Nat.lt_or_ge m n with hl | hl
  · have := h.few (m + 1) (by omega)
    omega
  · have := h.fin
    have := (h1 n hl).1
    omega
theorem BldTo.le {all : List Sp} {n : Nat} (h : BldTo all n) : n ≤ 240 := by
  have := h.few n (Nat.le_refl _)
  rw [h.fin] at this
  exact this
theorem BldTo.pos {all : List Sp} {n : Nat} (h : BldTo all n) : 0 < n := by
  rcases Nat.eq_zero_or_pos n with h0 | h0
  · subst h0
    have := h.fin
    simp [stsK] at this
  · exact h0

end Go.Proofs.YtjelgphhlcecoaaGreatDoor
namespace Go.Proofs.YtjelgphhlcecoaaGreatDoor

theorem rise_uniq {α : Type} (f : α → Int) : ∀ s t : List α, s.Pairwise (fun a b => f a < f b) → t.Pairwise (fun a b => f a < f b) → (∀ x, x ∈ s ↔ x ∈ t) → s = t
  | [], t, _, _, h => by
    cases t with
    | nil => rfl
    | cons b t => exact absurd ((h b).2 (List.mem_cons_self ..)) (List.not_mem_nil)
  | a :: s, [], _, _, h => absurd ((h a).1 (List.mem_cons_self ..)) (List.not_mem_nil)
  | a :: s, b :: t, hs, ht, h => by
    rw [List.pairwise_cons] at hs ht
    have hab : a = b := by
      rcases List.mem_cons.1 ((h a).1 (List.mem_cons_self ..)) with e | ha
      · exact e
      · rcases List.mem_cons.1 ((h b).2 (List.mem_cons_self ..)) with e | hb
        · exact e.symm
        · have h1 := ht.1 a ha
          have h2 := hs.1 b hb
          omega
    subst hab
    rw [rise_uniq f s t hs.2 ht.2 fun x => ⟨fun hx => ?_, fun hx => ?_⟩]
    · rcases List.mem_cons.1 ((h x).1 (List.mem_cons_of_mem _ hx)) with e | h'
      · subst e; have := hs.1 x hx; omega
      · exact h'
    · rcases List.mem_cons.1 ((h x).2 (List.mem_cons_of_mem _ hx)) with e | h'
      · subst e; have := ht.1 x hx; omega
      · exact h'
theorem cls_has (l : List W4) (r x : Nat) (hx : x < 256) : hasB (clsB l r) x = al l r x := by unfold clsB; rw [mkB_has _ x hx]
theorem cls_same {l : List W4} {a b : Nat} (h : al l a b = true) : clsB l a = clsB l b := by
  unfold clsB
  refine mkB_congr fun x _ => ?_
  rw [Bool.eq_iff_iff]
  exact ⟨fun h' => al_trans (al_symm h) h', fun h' => al_trans h h'⟩
theorem rep_min (l : List W4) : ∀ k, ∀ r ∈ repN l k, ∀ x, x < r → al l r x = false
  | 0, r, hr, _, _ => by rw [repN_zero] at hr; exact absurd hr (List.not_mem_nil)
  | k + 1, r, hr, x, hx => by
    cases h : (repN l k).any (fun r => al l r k) with
    | true => rw [repN_old h] at hr; exact rep_min l k r hr x hx
    | false =>
      rw [repN_new h, List.mem_append, List.mem_singleton] at hr
      rcases hr with hr | rfl
      · exact rep_min l k r hr x hx
      · exact cls_low h hx
theorem rep_up (l : List W4) : ∀ k, (repN l k).Pairwise (· < ·)
  | 0 => by rw [repN_zero]; exact List.Pairwise.nil
  | k + 1 => by
    cases h : (repN l k).any (fun r => al l r k) with
    | true => rw [repN_old h]; exact rep_up l k
    | false =>
      rw [repN_new h, List.pairwise_append]
      exact ⟨rep_up l k, List.pairwise_singleton _ _, fun a ha b hb => by rw [List.mem_singleton] at hb; subst hb; exact repN_lt l _ a ha⟩
theorem least_cls (l : List W4) (r : Nat) (hr : r ∈ repN l 256) : leastB (clsB l r) = (r : Int) := by
  have h := repN_lt l 256 r hr
  exact least_at (by rw [cls_has l r r h]; exact al_refl l r) h fun x hx => by rw [cls_has l r x (by omega)]; exact rep_min l 256 r hr x hx
theorem parts_rise (l : List W4) : (partsB l).Pairwise (fun P Q => leastB P < leastB Q) := by
  unfold partsB
  rw [List.pairwise_map]
  refine (rep_up l 256).imp_of_mem fun {a b} ha hb h => ?_
  rw [least_cls l a ha, least_cls l b hb]
  exact Int.ofNat_lt.2 h
theorem parts_cls (l : List W4) : ∀ P ∈ partsB l, ∃ r, r < 256 ∧ P = clsB l r := fun P hP => by
  unfold partsB at hP
  obtain ⟨r, hr, rfl⟩ := List.mem_map.1 hP
  exact ⟨r, repN_lt l 256 r hr, rfl⟩
theorem parts_mem (l : List W4) (x : Nat) (hx : x < 256) : clsB l x ∈ partsB l := by
  obtain ⟨r, hr, ha⟩ := List.any_eq_true.1 (repN_all l 256 x hx)
  unfold partsB
  exact List.mem_map.2 ⟨r, hr, cls_same ha⟩
/-- Whatever the way: classes, all of them, in the order of their least bytes: it is the one list. -/
theorem parts_uniq {l ps : List W4} (h1 : ∀ P ∈ ps, ∃ r, r < 256 ∧ P = clsB l r) (h2 : ∀ r, r < 256 → clsB l r ∈ ps) (h3 : ps.Pairwise (fun P Q => leastB P < leastB Q)) : ps = partsB l :=
  rise_uniq leastB ps (partsB l) h3 (parts_rise l) fun P => ⟨fun hP => by obtain ⟨r, hr, rfl⟩ := h1 P hP; exact parts_mem l r hr, fun hP => by obtain ⟨r, hr, rfl⟩ := parts_cls l P hP; exact h2 r hr⟩
/-- a set alike on one more set: the class is cut in two -/
theorem al_snoc (l : List W4) (S : W4) (a b : Nat) : al (l ++ [S]) a b = (al l a b && (hasB S a == hasB S b)) := by simp [al]
theorem cls_snoc (l : List W4) (S : W4) (_hS : Fit4 S) (r : Nat) : clsB (l ++ [S]) r = andB (clsB l r) (if hasB S r then S else notB S) := by
  unfold andB
  conv => lhs; unfold clsB
  refine mkB_congr fun x hx => ?_
  rw [al_snoc, cls_has l r x hx]
  congr 1
  cases h : hasB S r with
  | true => simp
  | false => unfold notB; simp [mkB_has _ x hx]
theorem cls_nil (r : Nat) : clsB [] r = notB noneB := by
  unfold notB clsB
  refine mkB_congr fun x _ => ?_
  rw [noneB_has]; rfl

end Go.Proofs.YtjelgphhlcecoaaGreatDoor
namespace Go.Proofs.YtjelgphhlcecoaaGreatDoor

theorem prtK_pre (all : List Sp) (st : St) (S : List St) (reps : List Nat) : ∀ k, ∃ U, prtK all st S reps k = S ++ U
  | 0 => ⟨[], by simp [prtK]⟩
  | k + 1 => by
    obtain ⟨U, hU⟩ := prtK_pre all st S reps k
    obtain ⟨V, hV⟩ := metS_more (prtK all st S reps k) (byS all st (reps.getD k 0))
    exact ⟨U ++ V, by rw [prtK, hV, hU, List.append_assoc]⟩
theorem prtK_nd (all : List Sp) (st : St) {S : List St} (hS : S.Nodup) (reps : List Nat) : ∀ k, (prtK all st S reps k).Nodup
  | 0 => hS
  | k + 1 => by
    have ih := prtK_nd all st hS reps k
    rw [prtK]
    unfold metS
    split
    · exact ih
    · split
      · exact ih
      · rename_i hm
        rw [List.nodup_append]
        refine ⟨ih, by simp, fun a ha b hb => ?_⟩
        have : b = byS all st (reps.getD k 0) := by simpa using hb
        subst this
        exact fun e => hm (e ▸ ha)
theorem prtK_len (all : List Sp) (st : St) (S : List St) (reps : List Nat) : ∀ k, (prtK all st S reps k).length ≤ S.length + k
  | 0 => Nat.le_refl _
  | k + 1 => by
    have ih := prtK_len all st S reps k
    rw [prtK]
    unfold metS
    split
    · omega
    · split
      · omega
      · simp; omega
theorem nodup_map {S : List St} {f : St → Txt} (hS : S.Nodup) (h : ∀ x ∈ S, ∀ y ∈ S, f x = f y → x = y) : (S.map f).Nodup := by
  induction S with
  | nil => simp
  | cons a r ih =>
    rw [List.nodup_cons] at hS
    rw [List.map_cons, List.nodup_cons]
    refine ⟨fun hm => ?_, ih hS.2 (fun x hx y hy => h x (by simp [hx]) y (by simp [hy]))⟩
    obtain ⟨x, hx, e⟩ := List.mem_map.1 hm
    have := h x (by simp [hx]) a (by simp) e
    exact hS.1 (this ▸ hx)
/-- the first c bytes of a part are put into a row -/
def putB8 (P : W4) (nx : Int) (rw : List Int) (c : Nat) : List Int := (List.range 256).map fun b => if b < c ∧ hasB P b = true then nx else rw.getD b 0
theorem putB8_len (P : W4) (nx : Int) (rw : List Int) (c : Nat) : (putB8 P nx rw c).length = 256 := by simp [putB8]
theorem putB8_at (P : W4) (nx : Int) (rw : List Int) (c : Nat) {b : Nat} (h : b < 256) : (putB8 P nx rw c).getD b 0 = if b < c ∧ hasB P b = true then nx else rw.getD b 0 := by
  unfold putB8
  rw [List.getD_eq_getElem?_getD, List.getElem?_map, List.getElem?_range h]
  rfl
theorem putB8_zero (P : W4) (nx : Int) {rw : List Int} (h : rw.length = 256) : putB8 P nx rw 0 = rw :=
  list_ext (putB8_len _ _ _ _) h fun b hb => by rw [putB8_at _ _ _ _ hb, if_neg (fun h => absurd h.1 (Nat.not_lt_zero _))]
theorem putB8_end (P : W4) (nx : Int) (rw : List Int) : putB8 P nx rw 256 = putR P nx rw :=
  list_ext (putB8_len _ _ _ _) (putR_len _ _ _) fun b hb => by
    rw [putB8_at _ _ _ _ hb, putR_at _ _ _ hb]
    by_cases h : hasB P b = true
    · rw [if_pos ⟨hb, h⟩, if_pos h]
    · rw [if_neg (fun h' => h h'.2), if_neg h]
theorem putB8_yes {P : W4} {nx : Int} {rw : List Int} {c : Nat} (hc : c < 256) (h : hasB P c = true) : putB8 P nx rw (c + 1) = (putB8 P nx rw c).set c nx :=
  list_ext (putB8_len _ _ _ _) (by rw [List.length_set, putB8_len]) fun b hb => by
    rw [putB8_at _ _ _ _ hb, List.getD_eq_getElem?_getD (l := (putB8 P nx rw c).set c nx), List.getElem?_set]
    by_cases e : c = b
    · subst e
      rw [if_pos ⟨by omega, h⟩, if_pos rfl, if_pos (by rw [putB8_len]; exact hc)]
      rfl
    · rw [if_neg e, ← List.getD_eq_getElem?_getD (l := putB8 P nx rw c), putB8_at _ _ _ _ hb]
      by_cases h' : b < c ∧ hasB P b = true
      · rw [if_pos h', if_pos ⟨by omega, h'.2⟩]
      · rw [if_neg h', if_neg (fun h2 => h' ⟨by omega, h2.2⟩)]
theorem putB8_no {P : W4} {nx : Int} {rw : List Int} {c : Nat} (h : hasB P c = false) : putB8 P nx rw (c + 1) = putB8 P nx rw c :=
  list_ext (putB8_len _ _ _ _) (putB8_len _ _ _ _) fun b hb => by
    rw [putB8_at _ _ _ _ hb, putB8_at _ _ _ _ hb]
    by_cases e : c = b
    · subst e
      rw [if_neg (by rw [h]; simp), if_neg (by omega)]
    · by_cases h' : b < c ∧ hasB P b = true
      · rw [if_pos h', if_pos ⟨by omega, h'.2⟩]
      · rw [if_neg h', if_neg (fun h2 => h' ⟨by omega, h2.2⟩)]
theorem behOne_in {ts : List Rx} {all : List Sp} (R : RuS ts all) (hp : ∀ p ∈ all, SmlS p) {r k : Nat} (h : r < ts.length) (hk : k < nSets ts[r]) : (behOne all r k).length ≤ 61 ∧ ∀ x ∈ behOne all r k, 0 ≤ x ∧ x < (totP all : Int) := by
  have hra : r < all.length := by rw [R.len]; exact h
  have hn := (R.is r h).n
  have hf := R.few r h
  constructor
  · have h1 := ((hp all[r] (List.getElem_mem hra)).fol k).1
    unfold behOne
    rw [List.length_append, List.length_map, getD_at hra]
    split <;> simp only [List.length_singleton, List.length_nil] <;> omega
  · intro x hx
    rcases (beh_mem R h hk x).1 hx with ⟨j, hj, e⟩ | ⟨_, e⟩ <;> rw [e]
    · have := fol_in ts[r] 0 k j hj
      exact plOf_in ⟨r, j, rfl, hra, Or.inr ⟨by omega, by omega⟩⟩
    · exact plOf_in ⟨r, 999, rfl, hra, Or.inl rfl⟩
theorem behP_in {ts : List Rx} {all : List Sp} (R : RuS ts all) (hp : ∀ p ∈ all, SmlS p) : ∀ l ∈ behP all all.length, l.length ≤ 4000 ∧ ∀ x ∈ l, 0 ≤ x ∧ x < (totP all : Int) := by
  intro l hl
  obtain ⟨i, hi, rfl⟩ := List.getElem_of_mem hl
  have hi' : i < totP all := by rw [behP_len] at hi; exact hi
  have e : (behP all all.length)[i] = (behP all all.length).getD i [] := by rw [List.getD_eq_getElem?_getD, List.getElem?_eq_getElem hi]; rfl
  rw [e]
  rcases place_is all all.length i hi' with h | ⟨r, k, h1, h2, rfl⟩
  · rw [behP_end all _ i h]
    simp
  · rw [behP_at all h2 _ h1]
    have hr : r < ts.length := by rw [← R.len]; exact h1
    have := behOne_in R hp hr (k := k) (by rw [← (R.is r hr).n]; exact h2)
    exact ⟨by omega, this.2⟩
theorem offP_max {all : List Sp} (hl : all.length ≤ 16) (hp : ∀ p ∈ all, SmlS p) : ∀ m, m ≤ all.length → offP all m ≤ all.length + m * 60
  | 0, _ => by simp [offP]
  | m + 1, hm => by
    have ih := offP_max hl hp m (by omega)
    have := (hp all[m] (List.getElem_mem (show m < all.length by omega))).sets
    rw [offP, getD_at (show m < all.length by omega)]
    omega
theorem totP_max {all : List Sp} (hl : all.length ≤ 16) (hp : ∀ p ∈ all, SmlS p) : totP all ≤ 976 := by
  have := offP_max hl hp all.length (Nat.le_refl _)
  unfold totP
  omega

end Go.Proofs.YtjelgphhlcecoaaGreatDoor
namespace Go.Proofs.YtjelgphhlcecoaaGreatDoor
open Go.RowKit

set_option maxRecDepth 20000 in
set_option maxHeartbeats 1000000 in
theorem tz_core (x k idx : Nat) (w : World) (hx0 : ((x : Int) == 0) = false)
    (key : IntKind.u64.wrap (bits BinOp.and IntKind.u64 (x : Int) (IntKind.u64.wrap (-(x : Int))) * 285870213051353865) / 288230376151711744 = (idx : Int))
    (hi : idx < 64) (hk : k < 64) (hcell : w.cell? ⟨0, idx, none⟩ = some (.int .u8 k)) :
    Calls Tryz.prog 72 #[.int .u64 x] w fun e w' => e = .returned (.int .i64 k) ∧ w' = w := by
  go_enter Tryz.func72, Tryz.ntmps72
  go_wp2_with (simp only [key])
  go_ret
  exact ⟨rfl, rfl⟩
set_option maxRecDepth 20000 in
theorem tzC (x : Nat) (w : World) (hx : x < 18446744073709551616) (h0 : x ≠ 0) (hT : Tab w) :
    Calls Tryz.prog 72 #[.int .u64 x] w fun e w' => e = .returned (.int .i64 ((Lib.ctz 64 x : Nat) : Int)) ∧ w' = w := by
  obtain ⟨hlow, hk⟩ := Lib.lowest_bit 64 x h0 hx
  obtain ⟨hi, htab⟩ := Lib.deBruijn64_at _ hk
  have hcell := hT _ hi
  rw [htab] at hcell
  exact tz_core x _ _ w (by simp; omega) (tz64_key x _ hx h0 hlow) hi hk hcell

end Go.Proofs.YtjelgphhlcecoaaGreatDoor
