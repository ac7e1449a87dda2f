/- What Parts must answer is the one list of its kind: the classes, in the order of their least bytes. -/
import Derived.Test.YtpkndedppfdekaaDoorWakeMath
namespace Go.Proofs.YtpkndedppfdekaaDoor

theorem rise_uniq {α : Type} (f : α → Int) : ∀ s t : List α, s.Pairwise (fun a b => f a < f b) → t.Pairwise (fun a b => f a < f b) → (∀ x, x ∈ s ↔ x ∈ t) → s = t
  | [], t, _, _, h => by
    cases t with
    | nil => rfl
    | cons b t => exact absurd ((h b).2 (List.mem_cons_self ..)) (List.not_mem_nil)
  | a :: s, [], _, _, h => absurd ((h a).1 (List.mem_cons_self ..)) (List.not_mem_nil)
  | a :: s, b :: t, hs, ht, h => by
    rw [List.pairwise_cons] at hs ht
    have hab : a = b := by
      rcases List.mem_cons.1 ((h a).1 (List.mem_cons_self ..)) with e | ha
      · exact e
      · rcases List.mem_cons.1 ((h b).2 (List.mem_cons_self ..)) with e | hb
        · exact e.symm
        · have h1 := ht.1 a ha
          have h2 := hs.1 b hb
          omega
    subst hab
    rw [rise_uniq f s t hs.2 ht.2 fun x => ⟨fun hx => ?_, fun hx => ?_⟩]
    · rcases List.mem_cons.1 ((h x).1 (List.mem_cons_of_mem _ hx)) with e | h'
      · subst e; have := hs.1 x hx; omega
      · exact h'
    · rcases List.mem_cons.1 ((h x).2 (List.mem_cons_of_mem _ hx)) with e | h'
      · subst e; have := ht.1 x hx; omega
      · exact h'
theorem cls_has (l : List W4) (r x : Nat) (hx : x < 256) : hasB (clsB l r) x = al l r x := by unfold clsB; rw [mkB_has _ x hx]
theorem cls_same {l : List W4} {a b : Nat} (h : al l a b = true) : clsB l a = clsB l b := by
  unfold clsB
  refine mkB_congr fun x _ => ?_
  rw [Bool.eq_iff_iff]
  exact ⟨fun h' => al_trans (al_symm h) h', fun h' => al_trans h h'⟩
theorem rep_min (l : List W4) : ∀ k, ∀ r ∈ repN l k, ∀ x, x < r → al l r x = false
  | 0, r, hr, _, _ => by rw [repN_zero] at hr; exact absurd hr (List.not_mem_nil)
  | k + 1, r, hr, x, hx => by
    cases h : (repN l k).any (fun r => al l r k) with
    | true => rw [repN_old h] at hr; exact rep_min l k r hr x hx
    | false =>
      rw [repN_new h, List.mem_append, List.mem_singleton] at hr
      rcases hr with hr | rfl
      · exact rep_min l k r hr x hx
      · exact cls_low h hx
theorem rep_up (l : List W4) : ∀ k, (repN l k).Pairwise (· < ·)
  | 0 => by rw [repN_zero]; exact List.Pairwise.nil
  | k + 1 => by
    cases h : (repN l k).any (fun r => al l r k) with
    | true => rw [repN_old h]; exact rep_up l k
    | false =>
      rw [repN_new h, List.pairwise_append]
      exact ⟨rep_up l k, List.pairwise_singleton _ _, fun a ha b hb => by rw [List.mem_singleton] at hb; subst hb; exact repN_lt l _ a ha⟩
theorem least_cls (l : List W4) (r : Nat) (hr : r ∈ repN l 256) : leastB (clsB l r) = (r : Int) := by
  have h := repN_lt l 256 r hr
  exact least_at (by rw [cls_has l r r h]; exact al_refl l r) h fun x hx => by rw [cls_has l r x (by omega)]; exact rep_min l 256 r hr x hx
theorem parts_rise (l : List W4) : (partsB l).Pairwise (fun P Q => leastB P < leastB Q) := by
  unfold partsB
  rw [List.pairwise_map]
  refine (rep_up l 256).imp_of_mem fun {a b} ha hb h => ?_
  rw [least_cls l a ha, least_cls l b hb]
  exact Int.ofNat_lt.2 h
theorem parts_cls (l : List W4) : ∀ P ∈ partsB l, ∃ r, r < 256 ∧ P = clsB l r := fun P hP => by
  unfold partsB at hP
  obtain ⟨r, hr, rfl⟩ := List.mem_map.1 hP
  exact ⟨r, repN_lt l 256 r hr, rfl⟩
theorem parts_mem (l : List W4) (x : Nat) (hx : x < 256) : clsB l x ∈ partsB l := by
  obtain ⟨r, hr, ha⟩ := List.any_eq_true.1 (repN_all l 256 x hx)
  unfold partsB
  exact List.mem_map.2 ⟨r, hr, cls_same ha⟩
/-- Whatever the way: classes, all of them, in the order of their least bytes: it is the one list. -/
theorem parts_uniq {l ps : List W4} (h1 : ∀ P ∈ ps, ∃ r, r < 256 ∧ P = clsB l r) (h2 : ∀ r, r < 256 → clsB l r ∈ ps) (h3 : ps.Pairwise (fun P Q => leastB P < leastB Q)) : ps = partsB l :=
  rise_uniq leastB ps (partsB l) h3 (parts_rise l) fun P => ⟨fun hP => by obtain ⟨r, hr, rfl⟩ := h1 P hP; exact parts_mem l r hr, fun hP => by obtain ⟨r, hr, rfl⟩ := parts_cls l P hP; exact h2 r hr⟩
/-- a set alike on one more set: the class is cut in two -/
theorem al_snoc (l : List W4) (S : W4) (a b : Nat) : al (l ++ [S]) a b = (al l a b && (hasB S a == hasB S b)) := by simp [al]
theorem cls_snoc (l : List W4) (S : W4) (_hS : Fit4 S) (r : Nat) : clsB (l ++ [S]) r = andB (clsB l r) (if hasB S r then S else notB S) := by
  unfold andB
  conv => lhs; unfold clsB
  refine mkB_congr fun x hx => ?_
  rw [al_snoc, cls_has l r x hx]
  congr 1
  cases h : hasB S r with
  | true => simp
  | false => unfold notB; simp [mkB_has _ x hx]
theorem cls_nil (r : Nat) : clsB [] r = notB noneB := by
  unfold notB clsB
  refine mkB_congr fun x _ => ?_
  rw [noneB_has]; rfl

end Go.Proofs.YtpkndedppfdekaaDoor
