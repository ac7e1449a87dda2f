/- The walk of BytesWhole. -/
import Derived.Test.YtpkndedppfdekaaDoorOwn4
namespace Go.Proofs.YtpkndedppfdekaaDoor
open Go.RowKit

theorem sumN_app (f : Nat → Nat) : ∀ s t, sumN f (s ++ t) = sumN f s + sumN f t
  | [], t => by rw [List.nil_append, sumN, Nat.zero_add]
  | r :: s, t => by rw [List.cons_append, sumN, sumN, sumN_app f s t]; omega
theorem sumN_mono (f : Nat → Nat) (s : List Nat) (k : Nat) : sumN f (s.take k) ≤ sumN f s := by
  have := sumN_app f (s.take k) (s.drop k)
  rw [List.take_append_drop] at this
  omega
/-- how many bytes the first parts hold together; which -/
def totN (l : List W4) (k : Nat) : Nat := sumN (fun r => countB (clsB l r)) ((repN l 256).take k)
def allK (l : List W4) (k : Nat) : W4 := mkB fun x => ((repN l 256).take k).any fun r => al l r x
theorem totN_zero (l : List W4) : totN l 0 = 0 := rfl
theorem totN_succ (l : List W4) (k : Nat) (h : k < (repN l 256).length) : totN l (k + 1) = totN l k + countB (clsB l (repN l 256)[k]) := by
  unfold totN
  rw [List.take_succ_eq_append_getElem h, sumN_app, sumN, sumN, Nat.add_zero]
theorem totN_le (l : List W4) (k : Nat) : totN l k ≤ 256 := by
  have := sumN_mono (fun r => countB (clsB l r)) (repN l 256) k
  rw [parts_count] at this
  exact this
theorem totN_all (l : List W4) (k : Nat) (h : (repN l 256).length ≤ k) : totN l k = 256 := by
  unfold totN
  rw [List.take_of_length_le h, parts_count]
theorem allK_fit (l : List W4) (k : Nat) : Fit4 (allK l k) := mkB_fit _
theorem allK_zero (l : List W4) : allK l 0 = noneB := (mkB_eq noneB_fit fun x _ => by rw [noneB_has]; rfl).symm
theorem allK_succ (l : List W4) (k : Nat) (h : k < (repN l 256).length) : orB (allK l k) (clsB l (repN l 256)[k]) = allK l (k + 1) := by
  unfold orB allK
  refine mkB_congr fun x hx => ?_
  rw [mkB_has _ x hx]
  unfold clsB
  rw [mkB_has _ x hx, List.take_succ_eq_append_getElem h, List.any_append]
  simp
theorem count_full : ∀ k, k ≤ 256 → countN (mkB fun _ => true) k = k
  | 0, _ => countN_zero _
  | k + 1, hk => by rw [countN_succ, count_full k (by omega), mkB_has _ k (by omega)]; simp
theorem allK_all (l : List W4) (k : Nat) (h : (repN l 256).length ≤ k) : countB (allK l k) = 256 := by
  have e : allK l k = mkB fun _ => true := by
    unfold allK
    refine mkB_congr fun x hx => ?_
    rw [List.take_of_length_le h]
    exact repN_all l 256 x hx
  rw [e, countB_eq]
  exact count_full 256 (Nat.le_refl _)
theorem cls_fit (l : List W4) (r : Nat) : Fit4 (clsB l r) := by unfold clsB; exact mkB_fit _
theorem cls_ne (l : List W4) (r : Nat) (hr : r < 256) : clsB l r ≠ noneB := fun e => by
  have h1 : hasB (clsB l r) r = true := by unfold clsB; rw [mkB_has _ r hr]; exact al_refl l r
  rw [e, noneB_has] at h1
  cases h1

theorem parts_at (l : List W4) (k : Nat) (h : k < (partsB l).length) (h' : k < (repN l 256).length) : (partsB l)[k] = clsB l (repN l 256)[k] := by simp [partsB]

set_option maxHeartbeats 4000000 in
theorem wholeWalk {OK : World → Prop} (H : BytesOK OK) (v : Value) (l : List W4) (w : World) (hl : l.length ≤ 9223372036854775807) (hA : Sets w v l) (hw : OK w) :
    Calls Tryd.prog 7 #[v] w fun e w' => e = .returned (.bool true) ∧ Below w.heap.size w w' := by
  have GW := hid (fun u hu => wakesC H u hu)
  have HK := hid (H.keep w)
  have hA0 := hid hA
  have hw0 := hid hw
  obtain ⟨av, cv, rfl, hx1, _, hFl, hAt⟩ := id hA
  have hFl := hid hFl
  have hAt := hid hAt
  clear hA hw hx1
  by_cases hL : 60 < l.length
  · have hL' : (60 : Int) < (l.length : Int) := by omega
    go_enter Tryd.func7, Tryd.ntmps7
    go_wp2_with (go_at_call 8; refine (GW.out _ hw0.out).mono ?_; rintro e w1 ⟨rfl, hb1⟩)
    go_ret
    exact ⟨rfl, hb1⟩
  have hL' : ¬ (60 : Int) < (l.length : Int) := by omega
  have GP : Hid (∀ v u, Sets u v l → OK u → Calls Tryd.prog 24 #[v] u fun e w' => ∃ v', e = .returned v' ∧ OwnS w' u.heap.size v' (partsB l) ∧ Below u.heap.size u w') := hid (fun v u h hu => H.parts v l u (by omega) h hu)
  have GC : Hid (∀ S u, Fit4 S → OK u → Calls Tryd.prog 18 #[valB S] u fun e w' => e = .returned (.int .i64 ((countB S : Nat) : Int)) ∧ Below u.heap.size u w') := hid (fun S u h hu => H.count S u h hu)
  have GO : Hid (∀ S T u, Fit4 S → Fit4 T → OK u → Calls Tryd.prog 12 #[valB S, valB T] u fun e w' => e = .returned (valB (orB S T)) ∧ Below u.heap.size u w') := hid (fun S T u h h' hu => H.or S T u h h' hu)
  have GN : Hid (∀ S T u, Fit4 S → Fit4 T → OK u → Calls Tryd.prog 14 #[valB S, valB T] u fun e w' => e = .returned (valB (andB S T)) ∧ Below u.heap.size u w') := hid (fun S T u h h' hu => H.and S T u h h' hu)
  have hpl : (partsB l).length = (repN l 256).length := by unfold partsB; rw [List.length_map]
  have hpat : Hid (∀ k (h : k < (partsB l).length) (h' : k < (repN l 256).length), (partsB l)[k] = clsB l (repN l 256)[k]) := hid (parts_at l)
  have hml := repN_len l 256
  have hpf := hid (parts_fit l)
  have hgt := Tryd.eqGuardType25
  go_enter Tryd.func7, Tryd.ntmps7
  go_wp2_with (first
    | (go_at_call 8; refine (GW.out _ hw0.out).mono ?_; rintro e w1 ⟨rfl, hb1⟩; have hb1a := bl_step hb1 (al' w1 (.cells #[.int .u64 0, .int .u64 0, .int .u64 0, .int .u64 0] 25)))
    | (go_at_call 24; refine (GP.out _ _ (hA0.out.keep hb1a) (HK.out _ hw0.out hb1a)).mono ?_; rintro e w2 ⟨v2, rfl, hO2, hb2⟩; obtain ⟨a2, c2, rfl⟩ := OwnS.shape hO2))
  have hbl2 := bl_step hb1a hb2
  have hO2' : Hid (OwnS w2 (w1.heap.size + 1) (.slice a2 (partsB l).length c2) (partsB l)) := hid (own_base hO2 (by rw [size_al]; exact Nat.le_refl _))
  have bA2 : Hid (Blk w2 w1.heap.size (allK l 0)) := by rw [allK_zero]; exact hid (Blk.keep (heap_new w1 _) hb2)
  have hs1 := hb1.size
  unfold OwnS at hO2'
  rw [hpl] at hO2'
  go_loopw [4, 18] (fun n i wr => ∃ k : Nat, k ≤ (repN l 256).length ∧ i = .int .i64 k ∧ n = .int .i64 ((totN l k : Nat) : Int) ∧ Hid (Blk wr w1.heap.size (allK l k)) ∧ Hid (wr.ownsRow (w1.heap.size + 1) 25 4 (.slice a2 (repN l 256).length c2) (repN l 256).length (flatB (partsB l))) ∧ Below w.heap.size w wr) (fun _ i _ => (repN l 256).length - (intOf i).toNat)
  case atStart => exact ⟨0, Nat.zero_le _, rfl, by rw [totN_zero]; rfl, bA2, hO2', hbl2⟩
  case round =>
    obtain ⟨k, hk, rfl, rfl, bA0, hO0, hbl⟩ := hrel
    by_cases hlt : k < (repN l 256).length
    · have hltz : (k : Int) < ((repN l 256).length : Int) := by omega
      have hrr := repN_lt l 256 _ (List.getElem_mem hlt)
      have ht1 := hid (totN_succ l k hlt)
      have ht2 := totN_le l (k + 1)
      have ho1 := hid (allK_succ l k hlt)
      have hpos := hid (cls_pos l _ hrr)
      have hne := hid (cls_ne l _ hrr)
      have hin := hid (fun S (hS : S ∈ l) => cls_in hS (repN l 256)[k])
      have hPf := hid (cls_fit l (repN l 256)[k])
      have hDf := hid (allK_fit l k)
      have hset : Sets wr (.slice a2 (partsB l).length c2) (partsB l) := Sets.of_own (by unfold OwnS; rw [hpl]; exact hO0.out) hpf.out
      obtain ⟨_, _, eS, _, _, _, hel⟩ := hset
      injection eS with eS1 eS2 eS3
      subst eS1 eS3
      obtain ⟨b, o, rfl, hb, hat⟩ := hel k (by omega)
      rw [hpat.out k (by omega) hlt] at hat
      rw [ht1.out] at ht2
      generalize clsB l (repN l 256)[k] = P at ht1 ht2 ho1 hpos hne hin hPf hat
      generalize (repN l 256)[k] = r at hin hrr
      generalize totN l k = tk at ht1 ht2
      generalize allK l k = D at bA0 ho1 hDf
      obtain ⟨pa, pb, pc, pd⟩ := P
      obtain ⟨da, db, dc, dd⟩ := D
      obtain ⟨c0, c1, c2', c3⟩ := hat
      simp only at c0 c1 c2' c3
      clear hel
      have GC0 := hid (fun u hu => GC.out ⟨pa, pb, pc, pd⟩ u hPf.out hu)
      have GO0 := hid (fun u hu => GO.out ⟨da, db, dc, dd⟩ ⟨pa, pb, pc, pd⟩ u hDf.out hPf.out hu)
      rw [ho1.out] at GO0
      have GN0 := hid (fun S hS u hu => GN.out ⟨pa, pb, pc, pd⟩ S u hPf.out (hFl.out S hS) hu)
      have hp0 : (countB ⟨pa, pb, pc, pd⟩ == 0) = false := beq_eq_false_iff_ne.2 (by have := hpos.out; omega)
      generalize countB ⟨pa, pb, pc, pd⟩ = c at GC0 ht1 ht2 hpos hp0
      have hcz : (((c : Nat) : Int) == 0) = false := beq_eq_false_iff_ne.2 (by have := hpos.out; omega)
      clear hp0
      have hsum : IntKind.i64.wrap ((tk : Int) + (c : Int)) = ((tk + c : Nat) : Int) := by rw [IntKind.wrap_i64]; omega
      generalize hD' : allK l (k + 1) = D' at GO0
      obtain ⟨da', db', dc', dd'⟩ := D'
      have hD' := hid hD'
      have hsw := hbl.size
      have hba := bl_step hbl (al' wr (.cells #[.int .u64 (pa : Int), .int .u64 (pb : Int), .int .u64 (pc : Int), .int .u64 (pd : Int)] 25))
      have bP0 : Blk (wr.alloc (.cells #[.int .u64 (pa : Int), .int .u64 (pb : Int), .int .u64 (pc : Int), .int .u64 (pd : Int)] 25)) wr.heap.size ⟨pa, pb, pc, pd⟩ := heap_new wr _
      have bP0 := hid bP0
      have bA0a := hid (bA0.out.keep (al' wr (.cells #[.int .u64 (pa : Int), .int .u64 (pb : Int), .int .u64 (pc : Int), .int .u64 (pd : Int)] 25)))
      have hO0a := hid (own_below hO0.out (al' wr (.cells #[.int .u64 (pa : Int), .int .u64 (pb : Int), .int .u64 (pc : Int), .int .u64 (pd : Int)] 25)))
      have hlA := bA0.out.lt
      go_wp2_with (first
        | (go_at_call 18; refine (GC0.out _ (HK.out _ hw0.out hba)).mono ?_; rintro e u1 ⟨rfl, hc1⟩; have bP1 := hid (bP0.out.keep hc1); have bA1 := hid (bA0a.out.keep hc1); have hO1 := hid (own_below hO0a.out hc1); obtain ⟨m0, m1, m2, m3, m4, m5, m6, m7⟩ := bP1.out.cells; obtain ⟨n0, n1, n2, n3, n4, n5, n6, n7⟩ := bA1.out.cells)
        | (go_at_call 12; refine (GO0.out _ (HK.out _ hw0.out (bl_step hba hc1))).mono ?_; rintro e u2 ⟨rfl, hc2⟩; have bP2 := hid (bP1.out.keep hc2); have bA2' := hid (bA1.out.keep hc2); have hO2x := hid (own_below hO1.out hc2); obtain ⟨q0, q1, q2, q3, q4, q5, q6, q7⟩ := bA2'.out.cells))
      have bPU := hid (bP2.out.other (b := w1.heap.size) (S' := ⟨da', db', dc', dd'⟩) (by omega))
      have bAU := hid (bA2'.out.put (S' := ⟨da', db', dc', dd'⟩))
      have hOU := hid (own_put4 (b := w1.heap.size) ⟨da', db', dc', dd'⟩ hO2x.out (fun m hm => by have := (hO2x.out.lt m hm).1; omega))
      have hblU := bl_put (b := w1.heap.size) (bl_step (bl_step hba hc1) hc2) ⟨da', db', dc', dd'⟩ hs1
      refine @id (Code.wp _ _ _ _ (put4 u2 w1.heap.size ⟨da', db', dc', dd'⟩)) ?_
      generalize put4 u2 w1.heap.size ⟨da', db', dc', dd'⟩ = U at bPU bAU hOU hblU ⊢
      clear bP2 bA2' hO2x q0 q1 q2 q3 q4 q5 q6 q7 bP1 bA1 hO1 m0 m1 m2 m3 m4 m5 m6 m7 n0 n1 n2 n3 n4 n5 n6 n7 bP0 bA0a hO0a
      clear c0 c1 c2' c3
      go_loopw [31] (fun i wq => ∃ j : Nat, j ≤ l.length ∧ i = .int .i64 j ∧ Below U.heap.size U wq) (fun i _ => l.length - (intOf i).toNat)
      case atStart => exact ⟨0, Nat.zero_le _, rfl, Below.refl _ _⟩
      case round =>
        obtain ⟨j, hj, rfl, hbq⟩ := hrel
        have bPq := hid (bPU.out.keep hbq)
        by_cases hjt : j < l.length
        · have hjtz : (j : Int) < (l.length : Int) := by omega
          obtain ⟨b', o', rfl, hb', hat'⟩ := hAt.out j hjt
          have hat' := hat'.keep (bl_step hblU hbq)
          have hSl := List.getElem_mem hjt
          have GN1 := hid (fun u hu => GN0.out _ hSl u hu)
          have hX := hin.out _ hSl
          have hX : andB ⟨pa, pb, pc, pd⟩ l[j] = ⟨pa, pb, pc, pd⟩ ∨ andB ⟨pa, pb, pc, pd⟩ l[j] = ⟨0, 0, 0, 0⟩ := by
            rw [hX]; split
            · exact Or.inl rfl
            · exact Or.inr rfl
          clear hSl
          generalize andB ⟨pa, pb, pc, pd⟩ l[j] = X at GN1 hX
          generalize l[j] = S at hat' GN1
          obtain ⟨sa, sb, sc, sd⟩ := S
          obtain ⟨d0, d1, d2, d3⟩ := hat'
          simp only at d0 d1 d2 d3
          have he1 : ∀ u, (Op.equalIn 10000 25 (.agg #[.int .u64 (pa : Int), .int .u64 (pb : Int), .int .u64 (pc : Int), .int .u64 (pd : Int)]) (.agg #[.int .u64 (pa : Int), .int .u64 (pb : Int), .int .u64 (pc : Int), .int .u64 (pd : Int)])).run Tryd.prog u = .ok true u := fun u => (equal4 9998 pa pb pc pd pa pb pc pd u).trans (by simp)
          have he2 : ∀ u, (Op.equalIn 10000 25 (.agg #[.int .u64 0, .int .u64 0, .int .u64 0, .int .u64 0]) (.agg #[.int .u64 (pa : Int), .int .u64 (pb : Int), .int .u64 (pc : Int), .int .u64 (pd : Int)])).run Tryd.prog u = .ok false u := fun u => (equal4 9998 0 0 0 0 pa pb pc pd u).trans (by rw [decide_eq_false (fun h => hne.out h.symm)])
          have he3 : ∀ u, (Op.equalIn 10000 25 (.agg #[.int .u64 0, .int .u64 0, .int .u64 0, .int .u64 0]) (.agg #[.int .u64 0, .int .u64 0, .int .u64 0, .int .u64 0])).run Tryd.prog u = .ok true u := fun u => (equal4 9998 0 0 0 0 0 0 0 0 u).trans (by simp)
          have hq2 := bl_step hbq (al' wr (.cells #[.int .u64 (sa : Int), .int .u64 (sb : Int), .int .u64 (sc : Int), .int .u64 (sd : Int)] 25))
          have bPs := hid (bPU.out.keep hq2)
          obtain ⟨m0, m1, m2, m3, m4, m5, m6, m7⟩ := bPs.out.cells
          rcases hX with rfl | rfl
          · go_wp2_with (go_at_call 14; refine (GN1.out _ (HK.out _ hw0.out (bl_step hblU hq2))).mono ?_; rintro e u3 ⟨rfl, hc3⟩; have hq3 := bl_step (bl_step hq2 hc3) (al' u3 (.cells #[.int .u64 (pa : Int), .int .u64 (pb : Int), .int .u64 (pc : Int), .int .u64 (pd : Int)] 25)); have bPt := hid (bPU.out.keep hq3); obtain ⟨t0, t1, t2, t3, t4, t5, t6, t7⟩ := bPt.out.cells)
            exact ⟨⟨j + 1, by omega, by go_num, hq3⟩, by simp [intOf]; omega⟩
          · go_wp2_with (go_at_call 14; refine (GN1.out _ (HK.out _ hw0.out (bl_step hblU hq2))).mono ?_; rintro e u3 ⟨rfl, hc3⟩; have hq3 := bl_step (bl_step hq2 hc3) (al' u3 (.cells #[.int .u64 0, .int .u64 0, .int .u64 0, .int .u64 0] 25)); have bPt := hid (bPU.out.keep hq3); obtain ⟨t0, t1, t2, t3, t4, t5, t6, t7⟩ := bPt.out.cells)
            exact ⟨⟨j + 1, by omega, by go_num, hq3⟩, by simp [intOf]; omega⟩
        · have hjtz : ¬ (j : Int) < (l.length : Int) := by omega
          obtain ⟨m0, m1, m2, m3, m4, m5, m6, m7⟩ := bPq.out.cells
          go_wp2_with (go_at_call 18; refine (GC0.out _ (HK.out _ hw0.out (bl_step hblU hbq))).mono ?_; rintro e u3 ⟨rfl, hc3⟩)
          go_roundw
          case rel => exact ⟨k + 1, by omega, by go_num, by rw [ht1.out]; simp, by rw [hD'.out]; exact hid ((bAU.out.keep hbq).keep hc3), hid (own_below (own_below hOU.out hbq) hc3), bl_step (bl_step hblU hbq) hc3⟩
          case measure => simp [intOf]; omega
    · have hltz : ¬ (k : Int) < ((repN l 256).length : Int) := by omega
      have hge : (repN l 256).length ≤ k := by omega
      have hn := totN_all l k hge
      have hc := allK_all l k hge
      have hDf := hid (allK_fit l k)
      rw [hn]
      generalize allK l k = D at bA0 hc hDf
      obtain ⟨da, db, dc, dd⟩ := D
      have GC0 := hid (fun u hu => GC.out ⟨da, db, dc, dd⟩ u hDf.out hu)
      rw [hc] at GC0
      obtain ⟨m0, m1, m2, m3, m4, m5, m6, m7⟩ := bA0.out.cells
      clear hn hc
      go_wp2_with (go_at_call 18; refine (GC0.out _ (HK.out _ hw0.out hbl)).mono ?_; rintro e u3 ⟨rfl, hc3⟩)
      go_ret
      exact ⟨rfl, bl_step hbl hc3⟩

end Go.Proofs.YtpkndedppfdekaaDoor
