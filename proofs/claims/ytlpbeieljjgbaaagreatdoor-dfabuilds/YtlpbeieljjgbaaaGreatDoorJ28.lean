/- The reference of layer 8: by. What Parts must answer is the one list of its kind: the classes, in the order of their least bytes. The maths of rowOf's walk: what is behind places is places; a row's bytes of one part. -/
import Derived.Test.YtlpbeieljjgbaaaGreatDoorJ27
import Derived.Test.YtlpbeieljjgbaaaGreatDoorJ5
namespace Go.Proofs.YtlpbeieljjgbaaaGreatDoor
open Go.RowKit

theorem byOne_eq (all : List Sp) (b r j : Nat) (h : j < 999) : byOne all b (enc r j) = if hasB ((all.getD r noSp).sets.getD j noneB) b then wideL r ((all.getD r noSp).follow.getD j []) ++ (if (all.getD r noSp).last.contains (j : Int) then [(r : Int) * 1000 + 999] else []) else [] := by
  have e1 : (enc r j / 1000).toNat = r := enc_div (by omega)
  have e2 : enc r j % 1000 = (j : Int) := enc_mod (by omega)
  have e3 : enc r j / 1000 * 1000 + 999 = (r : Int) * 1000 + 999 := by unfold enc; omega
  unfold byOne
  rw [e1, e2, e3, Int.toNat_natCast]
  by_cases hb : hasB ((all.getD r noSp).sets.getD j noneB) b = true
  · rw [if_neg (by rw [hb]; simp; omega), if_pos hb]
  · rw [if_pos (Or.inr (by simpa using hb)), if_neg hb]
/-- numbers of a state, as the walks bear them -/
def StOk (all : List Sp) (st : St) : Prop := ∀ x ∈ st, ∃ r j : Nat, x = enc r j ∧ r < all.length ∧ (j = 999 ∨ j < (all.getD r noSp).sets.length)
theorem SmlS.fol {p : Sp} (h : SmlS p) (j : Nat) : (p.follow.getD j []).length ≤ 60 ∧ ∀ x ∈ p.follow.getD j [], 0 ≤ x ∧ x < 60 := by
  rw [List.getD_eq_getElem?_getD]
  rcases Nat.lt_or_ge j p.follow.length with hl | hl
  · rw [List.getElem?_eq_getElem hl]
    exact h.follow _ (List.getElem_mem hl)
  · rw [List.getElem?_eq_none hl]
    simp
theorem byOne_len {all : List Sp} (hp : ∀ p ∈ all, SmlS p) {st : St} (hs : StOk all st) (b : Nat) {x : Int} (hx : x ∈ st) : (byOne all b x).length ≤ 61 := by
  obtain ⟨r, j, rfl, hr, rfl | hj⟩ := hs x hx
  · rw [byOne_end]; simp
  · have hS := hp all[r] (List.getElem_mem hr)
    rw [getD_at hr] at hj
    have := hS.sets
    rw [byOne_eq all b r j (by omega), getD_at hr]
    split
    · have := (hS.fol j).1
      rw [List.length_append, wideL_len]
      split <;> simp only [List.length_singleton, List.length_nil] <;> omega
    · simp
theorem flat_len {all : List Sp} (hp : ∀ p ∈ all, SmlS p) {st : St} (hs : StOk all st) (b : Nat) : ∀ k, k ≤ st.length → ((st.take k).flatMap (byOne all b)).length ≤ k * 61
  | 0, _ => by simp
  | k + 1, hk => by
    have ih := flat_len hp hs b k (by omega)
    have := byOne_len hp hs b (List.getElem_mem (show k < st.length by omega))
    rw [List.take_succ_eq_append_getElem (by omega), List.flatMap_append, List.length_append, List.flatMap_singleton]
    omega
theorem flat_take (all : List Sp) (b : Nat) {st : St} {k : Nat} (h : k < st.length) : (st.take (k + 1)).flatMap (byOne all b) = (st.take k).flatMap (byOne all b) ++ byOne all b st[k] := by
  rw [List.take_succ_eq_append_getElem h, List.flatMap_append]
  simp
set_option maxRecDepth 20000 in
set_option maxHeartbeats 4000000 in
theorem byC (v sv : Value) (all : List Sp) (st : St) (b : Nat) (w : World) (hb : b < 256) (hl : all.length ≤ 16) (hp : ∀ p ∈ all, SmlS p) (hA : Spss w v all) (hst : st.length ≤ 2000) (hs : StOk all st) (hN : Nums w sv st) :
    Calls Tryz.prog 32 #[v, sv, .int .i64 (b : Int)] w fun e w' => ∃ v', e = .returned v' ∧ Own w' w.heap.size v' (byS all st b) ∧ Below w.heap.size w w' := by
  have hL := hid (flat_len hp hs b)
  have GO : Hid (∀ x u, Nums u x (st.flatMap (byOne all b)) → Calls Tryz.prog 50 #[x] u fun e w' => ∃ v', e = .returned v' ∧ Own w' u.heap.size v' (byS all st b) ∧ Below u.heap.size u w') := hid fun x u h => by
    have hl := hL.out st.length (Nat.le_refl _)
    rw [List.take_length] at hl
    exact refOf x _ u (by omega) h
  obtain ⟨aa, ca, rfl, _, _, hA⟩ := hA
  obtain ⟨ab, cb, rfl, _, _, hN⟩ := hN
  have hp' := hid hp
  have hA' := hid hA
  have hN' := hid hN
  have hs' := hid hs
  clear hp hA hN hs
  go_enter Tryz.func32, Tryz.ntmps32
  go_wp2
  go_loopw [7, 8] (fun v i wr => ∃ k : Nat, k ≤ st.length ∧ i = .int .i64 k ∧ Hid (Own wr w.heap.size v ((st.take k).flatMap (byOne all b))) ∧ Below w.heap.size w wr) (fun _ i _ => st.length - (intOf i).toNat)
  case atStart => exact ⟨0, Nat.zero_le _, rfl, hid (World.ownsRow_nil _ _ _ _), Below.refl _ w⟩
  case round =>
    obtain ⟨k, hk, rfl, hO, hbl⟩ := hrel
    by_cases hlt : k < st.length
    · have hltz : (k : Int) < (st.length : Int) := by omega
      obtain ⟨b1, o1, rfl, hb1, hc1⟩ := hN'.out k hlt
      have hd1 := (hbl.cell hb1).trans hc1
      clear hc1
      have hsz := hbl.size
      have hstep := hid (flat_take all b hlt)
      have hlen := hid (hL.out k (by omega))
      obtain ⟨r, j, hx, hr, hj⟩ := hs'.out st[k] (List.getElem_mem hlt)
      rw [hx] at hd1 hstep
      clear hx
      have hj1 : j < 1000 := by
        rcases hj with h | h
        · omega
        · have := (hp'.out all[r] (List.getElem_mem hr)).sets
          rw [getD_at hr] at h
          omega
      have hx0 : 0 ≤ enc r j := by unfold enc; omega
      have hx1 : enc r j < 17000 := by unfold enc; omega
      have hm : (enc r j).tmod 1000 = (j : Int) := by rw [Int.tmod_eq_emod_of_nonneg hx0]; exact enc_mod hj1
      have hd : (enc r j).tdiv 1000 = (r : Int) := by rw [Int.tdiv_eq_ediv_of_nonneg hx0]; unfold enc; omega
      have hm' : enc r j % 1000 = (j : Int) := enc_mod hj1
      rcases hj with hj | hj
      · subst hj
        rw [byOne_end] at hstep
        generalize enc r 999 = x at *
        go_wp2
        go_roundw
        case rel => exact ⟨k + 1, by omega, by go_num, by rw [hstep.out]; exact hid (by simpa using hO.out), hbl⟩
        case measure => simp [intOf]; omega
      · have hS := hp'.out all[r] (List.getElem_mem hr)
        rw [getD_at hr] at hj
        have hj60 := hS.sets
        have hj9 : ((j : Int) == 999) = false := by rw [beq_eq_false_iff_ne]; omega
        rw [byOne_eq all b r j (by omega), getD_at hr] at hstep
        obtain ⟨ba, oa, rfl, hba, hat⟩ := hA'.out r hr
        obtain ⟨sv, fv, lv, gv, h0, h1, h2, h3, h4, h5⟩ := hat
        obtain ⟨sa, sc, rfl, _, _, hfit, hsat⟩ := h5.sets
        obtain ⟨ga, gc, rfl, _, _, hgat⟩ := h5.follow
        obtain ⟨b2, o2, rfl, hb2, hA4⟩ := hsat j hj
        have hjf : j < all[r].follow.length := by rw [hS.flen]; exact hj
        obtain ⟨b3, o3, xf, rfl, hb3, hxf, hNf⟩ := hgat j hjf
        have hFit := hfit _ (List.getElem_mem hj)
        have eS : all[r].sets.getD j noneB = all[r].sets[j] := by rw [List.getD_eq_getElem?_getD, List.getElem?_eq_getElem hj]; rfl
        have eF : all[r].follow.getD j [] = all[r].follow[j] := by rw [List.getD_eq_getElem?_getD, List.getElem?_eq_getElem hjf]; rfl
        have hF60 := hS.follow _ (List.getElem_mem hjf)
        rw [eS, eF] at hstep
        generalize all[r].sets[j] = S at hFit hstep hA4
        have GW : Hid (∀ u, Below w.heap.size w u → Calls Tryz.prog 55 #[.int .i64 (r : Int), xf] u fun e w' => ∃ v', e = .returned v' ∧ Own w' u.heap.size v' (wideL r all[r].follow[j]) ∧ Below u.heap.size u w') := hid fun u hu => wideC r xf _ u (by omega) (by omega) (fun x hx => by have := hF60.2 x hx; omega) (hNf.keep hu)
        have hNl := h5.last
        have hl60 := hS.last
        have GH : Hid (∀ u, Below w.heap.size w u → Calls Tryz.prog 57 #[lv, .int .i64 (j : Int)] u fun e w' => e = .returned (.bool (all[r].last.contains (j : Int))) ∧ w' = u) := hid fun u hu => numHas lv _ _ u (by omega) (hNl.keep hu)
        have hwl : Hid ((wideL r all[r].follow[j]).length ≤ 60) := hid (by rw [wideL_len]; exact hF60.1)
        generalize wideL r all[r].follow[j] = wl at hstep GW hwl
        generalize all[r].last.contains (j : Int) = lt at hstep GH
        obtain ⟨za, zb, zc, zd⟩ := S
        obtain ⟨z0, z1, z2, z3⟩ := hA4
        have GS := hid (fun u => hasC ⟨za, zb, zc, zd⟩ b u hFit hb)
        generalize hasB ⟨za, zb, zc, zd⟩ b = hv at hstep GS
        have hnS : (j : Int) < (all[r].sets.length : Int) := by omega
        have hnF : (j : Int) < (all[r].follow.length : Int) := by omega
        have hnA : (r : Int) < (all.length : Int) := by omega
        have hC : Hid (∀ u, Below w.heap.size w u → u.cell? ⟨ba, oa + r * 5 + 3, none⟩ = some lv ∧ u.cell? ⟨ba, oa + r * 5 + 4, none⟩ = some (.slice (some ⟨b3, o3, none⟩) all[r].follow.length gc) ∧ u.cell? ⟨b3, o3 + j, none⟩ = some xf) := hid fun u hu => ⟨keep_cell hu h3, keep_cell hu h4, keep_cell hu hxf⟩
        have y0 := keep_cell hbl h0
        have y1 := keep_cell hbl z0
        have y2 := keep_cell hbl z1
        have y3 := keep_cell hbl z2
        have y4 := keep_cell hbl z3
        clear h0 h1 h2 h3 h4 h5 hxf hNf hsat hgat z0 z1 z2 z3 hfit hFit hF60 hNl hS eS eF
        generalize all[r].sets.length = nS at *
        generalize all[r].follow.length = nF at *
        have x0 := hid hx0
        generalize enc r j = x at *
        cases hv with
        | false =>
          go_wp2_with (first
            | (go_at_call 56; refine (GS.out _).mono ?_; rintro e w1 ⟨rfl, hb1'⟩; have hbl1 := bl_step hbl hb1'; have hO1 := hid (own_below hO.out hb1')))
          go_roundw
          case rel => exact ⟨k + 1, by omega, by go_num, by rw [hstep.out, if_neg (by simp), List.append_nil]; exact hO1, hbl1⟩
          case measure => simp [intOf]; omega
        | true =>
          cases lt with
          | false =>
            go_wp2_with (first
              | (go_at_call 56; refine (GS.out _).mono ?_; rintro e w1 ⟨rfl, hb1'⟩; have hbl1 := bl_step hbl hb1'; have hs1 := hbl1.size; have hO1 := hid (own_below hO.out hb1'); obtain ⟨p3, p4, pf⟩ := hC.out w1 hbl1)
              | (go_at_call 55; refine (GW.out w1 hbl1).mono ?_; rintro e w2 ⟨v2, rfl, hOw, hb2'⟩; have hbl2 := bl_step hbl1 hb2'; have hs2 := hbl2.size; have hO2 := hid (own_below hO1.out hb2'); have hN2 := hid (Nums.of_row hOw))
              | (at_builtin; refine wp_app _ rfl _ _ rfl w.heap.size _ _ _ _ rfl rfl hO2.out hN2.out (by have := hlen.out; have := hwl.out; omega) (by omega) ?_; intro v3 w3 hO3 hb3'; have hbl3 := hbl2.trans hb3'; have hs3 := hbl3.size; obtain ⟨q3, q4, qf⟩ := hC.out w3 hbl3)
              | (go_at_call 57; refine (GH.out w3 hbl3).mono ?_; rintro e u ⟨rfl, hu⟩; subst u))
            go_roundw
            case rel => exact ⟨k + 1, by omega, by go_num, by rw [hstep.out]; exact hid (by simpa using hO3), hbl3⟩
            case measure => simp [intOf]; omega
          | true =>
            go_wp2_with (first
              | (at_builtin; refine wp_app _ rfl _ _ rfl w.heap.size _ [(r : Int) * 1000 + 1000 - 1] _ _ rfl rfl hO4.out (Nums.lit1 w3 _) (by have := hlen.out; have := hwl.out; simp only [List.length_append, List.length_singleton]; omega) (by simp; omega) ?_; intro v5 w5 hO5 hb5)
              | (go_at_call 56; refine (GS.out _).mono ?_; rintro e w1 ⟨rfl, hb1'⟩; have hbl1 := bl_step hbl hb1'; have hs1 := hbl1.size; have hO1 := hid (own_below hO.out hb1'); obtain ⟨p3, p4, pf⟩ := hC.out w1 hbl1)
              | (go_at_call 55; refine (GW.out w1 hbl1).mono ?_; rintro e w2 ⟨v2, rfl, hOw, hb2'⟩; have hbl2 := bl_step hbl1 hb2'; have hs2 := hbl2.size; have hO2 := hid (own_below hO1.out hb2'); have hN2 := hid (Nums.of_row hOw))
              | (at_builtin; refine wp_app _ rfl _ _ rfl w.heap.size _ _ _ _ rfl rfl hO2.out hN2.out (by have := hlen.out; have := hwl.out; omega) (by omega) ?_; intro v3 w3 hO3 hb3'; have hbl3 := hbl2.trans hb3'; have hs3 := hbl3.size; obtain ⟨q3, q4, qf⟩ := hC.out w3 hbl3; have hO4 := hid (World.ownsRow.alloc hO3 (.cells #[.int .i64 ((r : Int) * 1000 + 1000 - 1)] 3)))
              | (go_at_call 57; refine (GH.out w3 hbl3).mono ?_; rintro e u ⟨rfl, hu⟩; subst u))
            go_roundw
            case rel => exact ⟨k + 1, by omega, by go_num, by rw [show (r : Int) * 1000 + 1000 - 1 = (r : Int) * 1000 + 999 by omega] at hO5; rw [hstep.out]; exact hid (by simpa using hO5), (hbl3.alloc hs3 _).trans hb5⟩
            case measure => simp [intOf]; omega
    · have hltz : ¬ (k : Int) < (st.length : Int) := by omega
      have hO1 : Hid (Own wr w.heap.size u7 (st.flatMap (byOne all b))) := by
        have := hO.out
        rw [List.take_of_length_le (by omega)] at this
        exact hid this
      have hsz := hbl.size
      go_wp2_with (go_at_call 50; refine (GO.out _ _ (Nums.of_row hO1.out)).mono ?_; rintro e w2 ⟨v2, rfl, hO2, hb2⟩)
      go_ret
      exact ⟨_, rfl, own_base hO2 hsz, bl_step hbl hb2⟩

end Go.Proofs.YtlpbeieljjgbaaaGreatDoor
namespace Go.Proofs.YtlpbeieljjgbaaaGreatDoor

theorem rise_uniq {α : Type} (f : α → Int) : ∀ s t : List α, s.Pairwise (fun a b => f a < f b) → t.Pairwise (fun a b => f a < f b) → (∀ x, x ∈ s ↔ x ∈ t) → s = t
  | [], t, _, _, h => by
    cases t with
    | nil => rfl
    | cons b t => exact absurd ((h b).2 (List.mem_cons_self ..)) (List.not_mem_nil)
  | a :: s, [], _, _, h => absurd ((h a).1 (List.mem_cons_self ..)) (List.not_mem_nil)
  | a :: s, b :: t, hs, ht, h => by
    rw [List.pairwise_cons] at hs ht
    have hab : a = b := by
      rcases List.mem_cons.1 ((h a).1 (List.mem_cons_self ..)) with e | ha
      · exact e
      · rcases List.mem_cons.1 ((h b).2 (List.mem_cons_self ..)) with e | hb
        · exact e.symm
        · have h1 := ht.1 a ha
          have h2 := hs.1 b hb
          omega
    subst hab
    rw [rise_uniq f s t hs.2 ht.2 fun x => ⟨fun hx => ?_, fun hx => ?_⟩]
    · rcases List.mem_cons.1 ((h x).1 (List.mem_cons_of_mem _ hx)) with e | h'
      · subst e; have := hs.1 x hx; omega
      · exact h'
    · rcases List.mem_cons.1 ((h x).2 (List.mem_cons_of_mem _ hx)) with e | h'
      · subst e; have := ht.1 x hx; omega
      · exact h'
theorem cls_has (l : List W4) (r x : Nat) (hx : x < 256) : hasB (clsB l r) x = al l r x := by unfold clsB; rw [mkB_has _ x hx]
theorem cls_same {l : List W4} {a b : Nat} (h : al l a b = true) : clsB l a = clsB l b := by
  unfold clsB
  refine mkB_congr fun x _ => ?_
  rw [Bool.eq_iff_iff]
  exact ⟨fun h' => al_trans (al_symm h) h', fun h' => al_trans h h'⟩
theorem rep_min (l : List W4) : ∀ k, ∀ r ∈ repN l k, ∀ x, x < r → al l r x = false
  | 0, r, hr, _, _ => by rw [repN_zero] at hr; exact absurd hr (List.not_mem_nil)
  | k + 1, r, hr, x, hx => by
    cases h : (repN l k).any (fun r => al l r k) with
    | true => rw [repN_old h] at hr; exact rep_min l k r hr x hx
    | false =>
      rw [repN_new h, List.mem_append, List.mem_singleton] at hr
      rcases hr with hr | rfl
      · exact rep_min l k r hr x hx
      · exact cls_low h hx
theorem rep_up (l : List W4) : ∀ k, (repN l k).Pairwise (· < ·)
  | 0 => by rw [repN_zero]; exact List.Pairwise.nil
  | k + 1 => by
    cases h : (repN l k).any (fun r => al l r k) with
    | true => rw [repN_old h]; exact rep_up l k
    | false =>
      rw [repN_new h, List.pairwise_append]
      exact ⟨rep_up l k, List.pairwise_singleton _ _, fun a ha b hb => by rw [List.mem_singleton] at hb; subst hb; exact repN_lt l _ a ha⟩
theorem least_cls (l : List W4) (r : Nat) (hr : r ∈ repN l 256) : leastB (clsB l r) = (r : Int) := by
  have h := repN_lt l 256 r hr
  exact least_at (by rw [cls_has l r r h]; exact al_refl l r) h fun x hx => by rw [cls_has l r x (by omega)]; exact rep_min l 256 r hr x hx
theorem parts_rise (l : List W4) : (partsB l).Pairwise (fun P Q => leastB P < leastB Q) := by
  unfold partsB
  rw [List.pairwise_map]
  refine (rep_up l 256).imp_of_mem fun {a b} ha hb h => ?_
  rw [least_cls l a ha, least_cls l b hb]
  exact Int.ofNat_lt.2 h
theorem parts_cls (l : List W4) : ∀ P ∈ partsB l, ∃ r, r < 256 ∧ P = clsB l r := fun P hP => by
  unfold partsB at hP
  obtain ⟨r, hr, rfl⟩ := List.mem_map.1 hP
  exact ⟨r, repN_lt l 256 r hr, rfl⟩
theorem parts_mem (l : List W4) (x : Nat) (hx : x < 256) : clsB l x ∈ partsB l := by
  obtain ⟨r, hr, ha⟩ := List.any_eq_true.1 (repN_all l 256 x hx)
  unfold partsB
  exact List.mem_map.2 ⟨r, hr, cls_same ha⟩
/-- Whatever the way: classes, all of them, in the order of their least bytes: it is the one list. -/
theorem parts_uniq {l ps : List W4} (h1 : ∀ P ∈ ps, ∃ r, r < 256 ∧ P = clsB l r) (h2 : ∀ r, r < 256 → clsB l r ∈ ps) (h3 : ps.Pairwise (fun P Q => leastB P < leastB Q)) : ps = partsB l :=
  rise_uniq leastB ps (partsB l) h3 (parts_rise l) fun P => ⟨fun hP => by obtain ⟨r, hr, rfl⟩ := h1 P hP; exact parts_mem l r hr, fun hP => by obtain ⟨r, hr, rfl⟩ := parts_cls l P hP; exact h2 r hr⟩
/-- a set alike on one more set: the class is cut in two -/
theorem al_snoc (l : List W4) (S : W4) (a b : Nat) : al (l ++ [S]) a b = (al l a b && (hasB S a == hasB S b)) := by simp [al]
theorem cls_snoc (l : List W4) (S : W4) (_hS : Fit4 S) (r : Nat) : clsB (l ++ [S]) r = andB (clsB l r) (if hasB S r then S else notB S) := by
  unfold andB
  conv => lhs; unfold clsB
  refine mkB_congr fun x hx => ?_
  rw [al_snoc, cls_has l r x hx]
  congr 1
  cases h : hasB S r with
  | true => simp
  | false => unfold notB; simp [mkB_has _ x hx]
theorem cls_nil (r : Nat) : clsB [] r = notB noneB := by
  unfold notB clsB
  refine mkB_congr fun x _ => ?_
  rw [noneB_has]; rfl

end Go.Proofs.YtlpbeieljjgbaaaGreatDoor
namespace Go.Proofs.YtlpbeieljjgbaaaGreatDoor

theorem prtK_pre (all : List Sp) (st : St) (S : List St) (reps : List Nat) : ∀ k, ∃ U, prtK all st S reps k = S ++ U
  | 0 => ⟨[], by simp [prtK]⟩
  | k + 1 => by
    obtain ⟨U, hU⟩ := prtK_pre all st S reps k
    obtain ⟨V, hV⟩ := metS_more (prtK all st S reps k) (byS all st (reps.getD k 0))
    exact ⟨U ++ V, by rw [prtK, hV, hU, List.append_assoc]⟩
theorem prtK_nd (all : List Sp) (st : St) {S : List St} (hS : S.Nodup) (reps : List Nat) : ∀ k, (prtK all st S reps k).Nodup
  | 0 => hS
  | k + 1 => by
    have ih := prtK_nd all st hS reps k
    rw [prtK]
    unfold metS
    split
    · exact ih
    · split
      · exact ih
      · rename_i hm
        rw [List.nodup_append]
        refine ⟨ih, by simp, fun a ha b hb => ?_⟩
        have : b = byS all st (reps.getD k 0) := by simpa using hb
        subst this
        exact fun e => hm (e ▸ ha)
theorem prtK_len (all : List Sp) (st : St) (S : List St) (reps : List Nat) : ∀ k, (prtK all st S reps k).length ≤ S.length + k
  | 0 => Nat.le_refl _
  | k + 1 => by
    have ih := prtK_len all st S reps k
    rw [prtK]
    unfold metS
    split
    · omega
    · split
      · omega
      · simp; omega
theorem nodup_map {S : List St} {f : St → Txt} (hS : S.Nodup) (h : ∀ x ∈ S, ∀ y ∈ S, f x = f y → x = y) : (S.map f).Nodup := by
  induction S with
  | nil => simp
  | cons a r ih =>
    rw [List.nodup_cons] at hS
    rw [List.map_cons, List.nodup_cons]
    refine ⟨fun hm => ?_, ih hS.2 (fun x hx y hy => h x (by simp [hx]) y (by simp [hy]))⟩
    obtain ⟨x, hx, e⟩ := List.mem_map.1 hm
    have := h x (by simp [hx]) a (by simp) e
    exact hS.1 (this ▸ hx)
/-- the first c bytes of a part are put into a row -/
def putB8 (P : W4) (nx : Int) (rw : List Int) (c : Nat) : List Int := (List.range 256).map fun b => if b < c ∧ hasB P b = true then nx else rw.getD b 0
theorem putB8_len (P : W4) (nx : Int) (rw : List Int) (c : Nat) : (putB8 P nx rw c).length = 256 := by simp [putB8]
theorem putB8_at (P : W4) (nx : Int) (rw : List Int) (c : Nat) {b : Nat} (h : b < 256) : (putB8 P nx rw c).getD b 0 = if b < c ∧ hasB P b = true then nx else rw.getD b 0 := by
  unfold putB8
  rw [List.getD_eq_getElem?_getD, List.getElem?_map, List.getElem?_range h]
  rfl
theorem putB8_zero (P : W4) (nx : Int) {rw : List Int} (h : rw.length = 256) : putB8 P nx rw 0 = rw :=
  list_ext (putB8_len _ _ _ _) h fun b hb => by rw [putB8_at _ _ _ _ hb, if_neg (fun h => absurd h.1 (Nat.not_lt_zero _))]
theorem putB8_end (P : W4) (nx : Int) (rw : List Int) : putB8 P nx rw 256 = putR P nx rw :=
  list_ext (putB8_len _ _ _ _) (putR_len _ _ _) fun b hb => by
    rw [putB8_at _ _ _ _ hb, putR_at _ _ _ hb]
    by_cases h : hasB P b = true
    · rw [if_pos ⟨hb, h⟩, if_pos h]
    · rw [if_neg (fun h' => h h'.2), if_neg h]
theorem putB8_yes {P : W4} {nx : Int} {rw : List Int} {c : Nat} (hc : c < 256) (h : hasB P c = true) : putB8 P nx rw (c + 1) = (putB8 P nx rw c).set c nx :=
  list_ext (putB8_len _ _ _ _) (by rw [List.length_set, putB8_len]) fun b hb => by
    rw [putB8_at _ _ _ _ hb, List.getD_eq_getElem?_getD (l := (putB8 P nx rw c).set c nx), List.getElem?_set]
    by_cases e : c = b
    · subst e
      rw [if_pos ⟨by omega, h⟩, if_pos rfl, if_pos (by rw [putB8_len]; exact hc)]
      rfl
    · rw [if_neg e, ← List.getD_eq_getElem?_getD (l := putB8 P nx rw c), putB8_at _ _ _ _ hb]
      by_cases h' : b < c ∧ hasB P b = true
      · rw [if_pos h', if_pos ⟨by omega, h'.2⟩]
      · rw [if_neg h', if_neg (fun h2 => h' ⟨by omega, h2.2⟩)]
theorem putB8_no {P : W4} {nx : Int} {rw : List Int} {c : Nat} (h : hasB P c = false) : putB8 P nx rw (c + 1) = putB8 P nx rw c :=
  list_ext (putB8_len _ _ _ _) (putB8_len _ _ _ _) fun b hb => by
    rw [putB8_at _ _ _ _ hb, putB8_at _ _ _ _ hb]
    by_cases e : c = b
    · subst e
      rw [if_neg (by rw [h]; simp), if_neg (by omega)]
    · by_cases h' : b < c ∧ hasB P b = true
      · rw [if_pos h', if_pos ⟨by omega, h'.2⟩]
      · rw [if_neg h', if_neg (fun h2 => h' ⟨by omega, h2.2⟩)]
theorem behOne_in {ts : List Rx} {all : List Sp} (R : RuS ts all) (hp : ∀ p ∈ all, SmlS p) {r k : Nat} (h : r < ts.length) (hk : k < nSets ts[r]) : (behOne all r k).length ≤ 61 ∧ ∀ x ∈ behOne all r k, 0 ≤ x ∧ x < (totP all : Int) := by
  have hra : r < all.length := by rw [R.len]; exact h
  have hn := (R.is r h).n
  have hf := R.few r h
  constructor
  · have h1 := ((hp all[r] (List.getElem_mem hra)).fol k).1
    unfold behOne
    rw [List.length_append, List.length_map, getD_at hra]
    split <;> simp only [List.length_singleton, List.length_nil] <;> omega
  · intro x hx
    rcases (beh_mem R h hk x).1 hx with ⟨j, hj, e⟩ | ⟨_, e⟩ <;> rw [e]
    · have := fol_in ts[r] 0 k j hj
      exact plOf_in ⟨r, j, rfl, hra, Or.inr ⟨by omega, by omega⟩⟩
    · exact plOf_in ⟨r, 999, rfl, hra, Or.inl rfl⟩
theorem behP_in {ts : List Rx} {all : List Sp} (R : RuS ts all) (hp : ∀ p ∈ all, SmlS p) : ∀ l ∈ behP all all.length, l.length ≤ 4000 ∧ ∀ x ∈ l, 0 ≤ x ∧ x < (totP all : Int) := by
  intro l hl
  obtain ⟨i, hi, rfl⟩ := List.getElem_of_mem hl
  have hi' : i < totP all := by rw [behP_len] at hi; exact hi
  have e : (behP all all.length)[i] = (behP all all.length).getD i [] := by rw [List.getD_eq_getElem?_getD, List.getElem?_eq_getElem hi]; rfl
  rw [e]
  rcases place_is all all.length i hi' with h | ⟨r, k, h1, h2, rfl⟩
  · rw [behP_end all _ i h]
    simp
  · rw [behP_at all h2 _ h1]
    have hr : r < ts.length := by rw [← R.len]; exact h1
    have := behOne_in R hp hr (k := k) (by rw [← (R.is r hr).n]; exact h2)
    exact ⟨by omega, this.2⟩
theorem offP_max {all : List Sp} (hl : all.length ≤ 16) (hp : ∀ p ∈ all, SmlS p) : ∀ m, m ≤ all.length → offP all m ≤ all.length + m * 60
  | 0, _ => by simp [offP]
  | m + 1, hm => by
    have ih := offP_max hl hp m (by omega)
    have := (hp all[m] (List.getElem_mem (show m < all.length by omega))).sets
    rw [offP, getD_at (show m < all.length by omega)]
    omega
theorem totP_max {all : List Sp} (hl : all.length ≤ 16) (hp : ∀ p ∈ all, SmlS p) : totP all ≤ 976 := by
  have := offP_max hl hp all.length (Nat.le_refl _)
  unfold totP
  omega

end Go.Proofs.YtlpbeieljjgbaaaGreatDoor
