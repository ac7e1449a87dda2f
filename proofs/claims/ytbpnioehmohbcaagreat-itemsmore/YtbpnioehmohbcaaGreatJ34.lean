/- The reference: Sound. The reference of layer 16: Side, Next, Usable. The reference of layer 16: Right. The reference of layer 16: Of. -/
import Derived.Test.YtbpnioehmohbcaaGreatJ33
import Derived.Test.YtbpnioehmohbcaaGreatJ15
import Derived.Lib.QuietBelow
namespace Go.Proofs.YtbpnioehmohbcaaGreat
open Go.RowKit Go.Maps Go.Sort
theorem namesB_iff (g:Gm):namesB g = true ↔ (∀ r ∈ g.rules,rightB r.re = true) ∧ (∀ t ∈ g.allN,namB t = true) ∧ g.allN.Nodup:=by
 unfold namesB
 simp only [Bool.and_eq_true,List.all_eq_true,decide_eq_true_eq]
noncomputable def soundB (g:Gm):Bool:=open Classical in decide (SndG g)
theorem soundB_no {g:Gm} (h:¬ SndG g):soundB g = false:=by unfold soundB;exact @decide_eq_false _ (Classical.propDecidable _) h
theorem soundB_yes {g:Gm} (h:SndG g):soundB g = true:=by unfold soundB;exact @decide_eq_true _ (Classical.propDecidable _) h
theorem lvB_no {i:Nat} {l:Int × Int} (h1:¬ (l.1 = 0 ∧ l.2 = 0)) (h2:¬ (0 < l.1 ∧ 0 < l.2 ∧ l.2 < 4 ∧ i ≠ 0)):lvB i l = false:=by
 rw [Bool.eq_false_iff]
 intro h
 unfold lvB at h
 simp only [Bool.or_eq_true,Bool.and_eq_true,decide_eq_true_eq] at h
 rcases h with h | h
 · exact h1 h
 · exact h2 ⟨h.1.1.1,h.1.1.2,h.1.2,h.2⟩
theorem lvB_yes {i:Nat} {l:Int × Int} (h:(l.1 = 0 ∧ l.2 = 0) ∨ (0 < l.1 ∧ 0 < l.2 ∧ l.2 < 4 ∧ i ≠ 0)):lvB i l = true:=by
 unfold lvB
 simp only [Bool.or_eq_true,Bool.and_eq_true,decide_eq_true_eq]
 rcases h with h | h
 · exact .inl h
 · exact .inr ⟨⟨⟨h.1,h.2.1⟩,h.2.2.1⟩,h.2.2.2⟩
theorem pdB_parts (g:Gm) (p:Pd):((p.left ≤ (g.terms:Int) ∨ (g.all:Int) < p.left ∨ 8 < p.right.length ∨ p.prec < 0 ∨ (g.terms:Int) < p.prec ∨ ∃ j,∃ hj:j < p.right.length,p.right[j] < 1 ∨ (g.all:Int) < p.right[j]) → pdB g p = false) ∧
 (¬ p.left ≤ (g.terms:Int) → ¬ (g.all:Int) < p.left → ¬ 8 < p.right.length → ¬ p.prec < 0 → ¬ (g.terms:Int) < p.prec → (∀ j (hj:j < p.right.length),1 ≤ p.right[j] ∧ p.right[j] ≤ (g.all:Int)) → pdB g p = true):=by
 refine ⟨fun h => ?_,fun h1 h2 h3 h4 h5 h6 => ?_⟩
 · rw [Bool.eq_false_iff]
   intro hp
   unfold pdB at hp
   simp only [Bool.and_eq_true,decide_eq_true_eq,List.all_eq_true] at hp
   obtain ⟨⟨⟨⟨⟨p1,p2⟩,p3⟩,p4⟩,p5⟩,p6⟩:=hp
   rcases h with h | h | h | h | h | ⟨j,hj,h⟩
   · omega
   · omega
   · omega
   · omega
   · omega
   · have:=p6 _ (List.getElem_mem hj)
     omega
 · unfold pdB
   simp only [Bool.and_eq_true,decide_eq_true_eq,List.all_eq_true]
   refine ⟨⟨⟨⟨⟨by omega,by omega⟩,by omega⟩,by omega⟩,by omega⟩,fun k hk => ?_⟩
   obtain ⟨j,hj,rfl⟩:=List.getElem_of_mem hk
   exact h6 j hj
theorem cells3h {w:World} {b t:Nat} {x0 x1 x2:Value} (h:w.heap[b]? = some (.cells #[x0,x1,x2] t (0,0))):w.cell? ⟨b,0,none⟩ = some x0 ∧ w.cell? ⟨b,1,none⟩ = some x1 ∧ w.cell? ⟨b,2,none⟩ = some x2:=⟨blk_cell h rfl,blk_cell h rfl,blk_cell h rfl⟩
set_option maxRecDepth 20000 in
set_option maxHeartbeats 16000000 in
theorem refSound (g:Gm) (rv nv lv pv:Value) (w:World) (hV:GmV w rv nv lv pv g) (hb:BndG g) (hnl:∀ t ∈ g.allN,t.length ≤ 1000000) :
 Calls Tryz.prog 40 #[gmA rv nv lv pv g.start] w fun e w' => e = .returned (.bool (soundB g)) ∧ Below w.heap.size w w':=by
 obtain ⟨ra,rc,rfl⟩:=hV.rules.shape
 obtain ⟨na,nc,rfl⟩:=hV.nonts.shape
 obtain ⟨la,lc,rfl⟩:=hV.levels.shape
 obtain ⟨pa,pc,rfl⟩:=hV.prods.shape
 have hB1:=al' w (.cells #[.slice ra g.rules.length rc,.slice na g.nonts.length nc,.slice la g.levels.length lc,.slice pa g.prods.length pc,.int .i64 g.start] 27)
 have k1:=heap_new w (.cells #[.slice ra g.rules.length rc,.slice na g.nonts.length nc,.slice la g.levels.length lc,.slice pa g.prods.length pc,.int .i64 g.start] 27)
 obtain ⟨W,hW⟩:∃ x,w.alloc (.cells #[.slice ra g.rules.length rc,.slice na g.nonts.length nc,.slice la g.levels.length lc,.slice pa g.prods.length pc,.int .i64 g.start] 27) = x:=⟨_,rfl⟩
 rw [hW] at hB1 k1
 have hk1:=hid (fun u (hu:Below W.heap.size W u) => cells5m (hs_keep k1 hu))
 have hB:=hid hB1
 have b1:=hb.rules
 have b2:=hb.nonts
 have b3:=hb.levels
 have b4:=hb.prods
 have hKl:Hid (∀ u,Below w.heap.size w u → ∀ k (hk:k < g.levels.length),∃ b o,la = some ⟨b,o,none⟩ ∧ u.cell? ⟨b,o + k * 2,none⟩ = some (.int .i64 g.levels[k].1) ∧ u.cell? ⟨b,o + k * 2 + 1,none⟩ = some (.int .i64 g.levels[k].2)):=hid (fun u hu k hk => by
  obtain ⟨b,o,e,-,hx⟩:=(hV.keep hu).levels.at hk
  exact ⟨b,o,e,hx.1,hx.2⟩)
 have hKp:Hid (∀ u,Below w.heap.size w u → ∀ k (hk:k < g.prods.length),∃ b o q1 q3,pa = some ⟨b,o,none⟩ ∧ u.cell? ⟨b,o + k * 3,none⟩ = some (.int .i64 g.prods[k].left) ∧ u.cell? ⟨b,o + k * 3 + 1,none⟩ = some (.slice q1 g.prods[k].right.length q3) ∧ u.cell? ⟨b,o + k * 3 + 2,none⟩ = some (.int .i64 g.prods[k].prec) ∧ Nums u (.slice q1 g.prods[k].right.length q3) g.prods[k].right):=hid (fun u hu k hk => by
  obtain ⟨b,o,e,-,hx⟩:=(hV.keep hu).prods.at hk
  obtain ⟨v,x0,x1,x2,hN⟩:=hx
  have hN2:=hN
  obtain ⟨q1,q3,rfl,_⟩:=hN2
  exact ⟨b,o,q1,q3,e,x0,x1,x2,hN⟩)
 have GM:=hid (fun u (hu:Below w.heap.size w u) => namesC g _ _ _ _ u (hV.keep hu) b1 b2 hnl)
 have GT:=hid (fun u (hu:Below w.heap.size w u) => refTermsC _ _ _ _ g u (hV.keep hu) (by omega))
 have hall:Hid ((g.all:Int) = (g.terms:Int) + (g.nonts.length:Int)):=hid (by unfold Gm.all;omega)
 have btm:g.terms ≤ 1000:=Nat.le_trans (trmK_le _ _) b1
 have f1:=hid (fun (h:16 < g.rules.length) => soundB_no (g:=g) (fun hs => by have:=hs.rules;omega))
 have f2:=hid (fun (h:16 < g.nonts.length) => soundB_no (g:=g) (fun hs => by have:=hs.nonts;omega))
 have f3:=hid (fun (h:40 < g.prods.length) => soundB_no (g:=g) (fun hs => by have:=hs.prods;omega))
 have f4:=hid (fun (h:namesB g = false) => soundB_no (g:=g) (fun hs => by
  have:=(namesB_iff g).2 ⟨hs.right,hs.named,hs.once⟩
  rw [h] at this
  cases this))
 have f5:=hid (fun (h:g.levels.length ≠ g.terms + 1) => soundB_no (g:=g) (fun hs => h hs.levels))
 have f6:=hid (fun k (hk:k < g.levels.length) (h:lvB k g.levels[k] = false) => soundB_no (g:=g) (fun hs => by
  have:=hs.lev k hk
  rw [h] at this
  cases this))
 have f7:=hid (fun (h0:g.nonts.length = 0) (h:g.start ≠ 0) => soundB_no (g:=g) (fun hs => h (hs.none h0)))
 have f8:=hid (fun (h0:0 < g.nonts.length) (h:¬ ((g.terms:Int) < g.start ∧ g.start ≤ (g.all:Int))) => soundB_no (g:=g) (fun hs => h (hs.start h0)))
 have hfp:=hid (fun k (hk:k < g.prods.length) (h:pdB g g.prods[k] = false) => soundB_no (g:=g) (fun hs => by
  have:=hs.prod _ (List.getElem_mem hk)
  rw [h] at this
  cases this))
 have fy:=hid (fun (h1:¬ 16 < g.rules.length) (h2:¬ 16 < g.nonts.length) (h3:¬ 40 < g.prods.length) (h4:namesB g = true) (h5:g.levels.length = g.terms + 1) (h6:∀ k (hk:k < g.levels.length),lvB k g.levels[k] = true) (h7:g.nonts.length = 0 → g.start = 0) (h8:0 < g.nonts.length → (g.terms:Int) < g.start ∧ g.start ≤ (g.all:Int)) (h9:∀ k (hk:k < g.prods.length),pdB g g.prods[k] = true) => soundB_yes (g:=g) ⟨by omega,by omega,by omega,((namesB_iff g).1 h4).1,((namesB_iff g).1 h4).2.1,((namesB_iff g).1 h4).2.2,h5,h6,h7,h8,fun p hp => by
  obtain ⟨k,hk,rfl⟩:=List.getElem_of_mem hp
  exact h9 k hk⟩)
 clear hV hb hB1 k1 hnl
 generalize soundB g = R at *
 obtain ⟨y0,y1,y2,y3,y4⟩:=hk1.out W (Below.refl _ _)
 obtain ⟨rn,hrn⟩:∃ n,Hid (g.rules.length = n):=⟨_,hid rfl⟩
 obtain ⟨nn,hnn⟩:∃ n,Hid (g.nonts.length = n):=⟨_,hid rfl⟩
 obtain ⟨ll,hll⟩:∃ n,Hid (g.levels.length = n):=⟨_,hid rfl⟩
 obtain ⟨pp,hpp⟩:∃ n,Hid (g.prods.length = n):=⟨_,hid rfl⟩
 obtain ⟨tm,htm⟩:∃ n,Hid (g.terms = n):=⟨_,hid rfl⟩
 rw [hrn.out] at b1 hk1 GM GT hW f1 fy y0 ⊢
 rw [hnn.out] at b2 hk1 GM GT hW f2 f7 f8 fy hall y1 ⊢
 rw [hll.out] at b3 hk1 GM GT hW f5 y2 ⊢
 rw [hpp.out] at b4 hk1 GM GT hW f3 y3 ⊢
 rw [htm.out] at f5 f8 hall btm GT
 have hpd0:Hid (∀ p,((p.left ≤ (tm:Int) ∨ (g.all:Int) < p.left ∨ 8 < p.right.length ∨ p.prec < 0 ∨ (tm:Int) < p.prec ∨ ∃ j,∃ hj:j < p.right.length,p.right[j] < 1 ∨ (g.all:Int) < p.right[j]) → pdB g p = false) ∧ (¬ p.left ≤ (tm:Int) → ¬ (g.all:Int) < p.left → ¬ 8 < p.right.length → ¬ p.prec < 0 → ¬ (tm:Int) < p.prec → (∀ j (hj:j < p.right.length),1 ≤ p.right[j] ∧ p.right[j] ≤ (g.all:Int)) → pdB g p = true)):=hid (fun p => by have:=pdB_parts g p;rw [htm.out] at this;exact this)
 by_cases c1:(16:Int) < (rn:Int)
 · obtain rfl:=f1.out (by omega)
   clear GM GT f2 f3 f4 f5 f6 f7 f8 hfp fy
   generalize g.start = st at *
   go_enter Tryz.func40,Tryz.ntmps40
   go_wp2
   go_ret
   exact ⟨rfl,hB.out⟩
 by_cases c2:(16:Int) < (nn:Int)
 · obtain rfl:=f2.out (by omega)
   clear GM GT f1 f3 f4 f5 f6 f7 f8 hfp fy
   generalize g.start = st at *
   go_enter Tryz.func40,Tryz.ntmps40
   go_wp2
   go_ret
   exact ⟨rfl,hB.out⟩
 by_cases c3:(40:Int) < (pp:Int)
 · obtain rfl:=f3.out (by omega)
   clear GM GT f1 f2 f4 f5 f6 f7 f8 hfp fy
   generalize g.start = st at *
   go_enter Tryz.func40,Tryz.ntmps40
   go_wp2
   go_ret
   exact ⟨rfl,hB.out⟩
 have G1:=hid (GM.out W hB.out)
 cases hnm:namesB g with
 | false =>
  obtain rfl:=f4.out hnm
  rw [hnm] at G1
  clear GM GT f1 f2 f3 f5 f6 f7 f8 hfp fy hnm f4
  generalize g.start = st at *
  go_enter Tryz.func40,Tryz.ntmps40
  go_wp2_with (go_at_call 53;refine G1.out.mono ?_;clear G1;rintro e w1 ⟨rfl,hc1⟩;have hc1:=hid hc1)
  go_ret
  exact ⟨rfl,bl_step hB.out hc1.out⟩
 | true =>
  rw [hnm] at G1
  have fy1:=hid (fun h5 h6 h7 h8 h9 => fy.out (by omega) (by have:=hnn.out;omega) (by have:=hpp.out;omega) hnm h5 h6 h7 h8 h9)
  have GT1:=hid (fun u (hu:Below W.heap.size W u) => GT.out u (bl_step hB.out hu))
  clear GM GT f1 f2 f3 f4 fy hnm
  by_cases c5:ll = tm + 1
  · have c5z:((ll:Int) != (tm:Int) + 1) = false:=by rw [c5];simp
    have c5H:=hid c5
    clear c5
    have hst:=hid (rfl:g.start = g.start)
    clear hst
    generalize hgs:g.start = st at *
    have hgs:=hid hgs
    go_enter Tryz.func40,Tryz.ntmps40
    go_wp2_with (first
     | (go_at_call 53;refine G1.out.mono ?_;clear G1;rintro e w1 ⟨rfl,hc1⟩;have hc1:=hid hc1;obtain ⟨x0,x1,x2,x3,x4⟩:=hk1.out w1 hc1.out)
     | (go_at_call 54;refine (GT1.out w1 hc1.out).mono ?_;clear GT1;rintro e w2 ⟨rfl,hc2⟩;have hc2:=hid (bl_step hc1.out hc2);obtain ⟨z0,z1,z2,z3,z4⟩:=hk1.out w2 hc2.out))
    clear c5z hW y0 y1 y2 y3 y4 x0 x1 x2 x3 x4 z0 z1 z2 z3 z4 c1 c3
    generalize hal:(tm:Int) + (nn:Int) = al at *
    have hal:=hid hal
    go_loopw [5] (fun i wr => ∃ k:Nat,k ≤ ll ∧ i = .int .i64 (k:Int) ∧ Hid (∀ j (hj:j < g.levels.length),j < k → lvB j g.levels[j] = true) ∧ Hid (Below W.heap.size W wr)) (fun i _ => ll - (intOf i).toNat)
    case atStart => exact ⟨0,Nat.zero_le _,rfl,hid (fun _ _ h => absurd h (Nat.not_lt_zero _)),hc2⟩
    case round =>
     clear hc1 hc2
     obtain ⟨k,hk,rfl,hq,hbl⟩:=hrel
     have hbw:=hid (bl_step hB.out hbl.out)
     obtain ⟨y0,y1,y2,y3,y4⟩:=hk1.out wr hbl.out
     by_cases hlt:k < ll
     · have hltz:(k:Int) < (ll:Int):=by omega
       have hkl:k < g.levels.length:=by rw [hll.out];exact hlt
       obtain ⟨b,o,e,x0,x1⟩:=hKl.out wr hbw.out k hkl
       subst e
       have hno:=hid (fun h1 h2 => f6.out k hkl (lvB_no h1 h2))
       have hok:=hid (fun (h:(g.levels[k].1 = 0 ∧ g.levels[k].2 = 0) ∨ (0 < g.levels[k].1 ∧ 0 < g.levels[k].2 ∧ g.levels[k].2 < 4 ∧ k ≠ 0)) => (fun j hj h9 => by
        rcases Nat.lt_or_ge j k with h8 | h8
        · exact hq.out j hj h8
        · obtain rfl:j = k:=by omega
          exact lvB_yes h:∀ j (hj:j < g.levels.length),j < k + 1 → lvB j g.levels[j] = true))
       have hb1:=hid (bl_step hbl.out (al' wr (.cells #[.int .i64 g.levels[k].1,.int .i64 g.levels[k].2] 96)))
       clear hq
       generalize g.levels[k] = lx at *
       obtain ⟨p,d⟩:=lx
       dsimp only at *
       by_cases a1:p = 0
       · have a1z:(p == 0) = true:=by rw [a1];rfl
         by_cases a2:d = 0
         · have a2z:(d == 0) = true:=by rw [a2];rfl
           have a3:¬ 0 < p:=by omega
           have hq9:=hid (hok.out (.inl ⟨a1,a2⟩))
           clear hok hno a1 a2
           go_wp2
           go_roundw
           case rel => exact ⟨k + 1,by omega,by go_num,hq9,hb1⟩
           case measure => simp [intOf];omega
         · have a2z:(d == 0) = false:=by rw [beq_eq_false_iff_ne];exact a2
           have a3:¬ 0 < p:=by omega
           obtain rfl:=hno.out (fun h => a2 h.2) (fun h => a3 h.1)
           clear hok hno a1 a2
           go_wp2
           go_ret
           exact ⟨rfl,bl_step hB.out hb1.out⟩
       have a1z:(p == 0) = false:=by rw [beq_eq_false_iff_ne];exact a1
       by_cases a3:0 < p
       · by_cases a4:0 < d
         · by_cases a5:d < 4
           · rcases Nat.eq_zero_or_pos k with a6 | a6
             · have a6z:((k:Int) == 0) = true:=by rw [a6];rfl
               obtain rfl:=hno.out (fun h => a1 h.1) (fun h => h.2.2.2 a6)
               clear hok hno a1 a6
               go_wp2
               go_ret
               exact ⟨rfl,bl_step hB.out hb1.out⟩
             · have a6z:((k:Int) == 0) = false:=by rw [beq_eq_false_iff_ne];omega
               have hq9:=hid (hok.out (.inr ⟨a3,a4,a5,by omega⟩))
               clear hok hno a1
               go_wp2
               go_roundw
               case rel => exact ⟨k + 1,by omega,by go_num,hq9,hb1⟩
               case measure => simp [intOf];omega
           · obtain rfl:=hno.out (fun h => a1 h.1) (fun h => a5 h.2.2.1)
             clear hok hno a1
             go_wp2
             go_ret
             exact ⟨rfl,bl_step hB.out hb1.out⟩
         · obtain rfl:=hno.out (fun h => a1 h.1) (fun h => a4 h.2.1)
           clear hok hno a1
           go_wp2
           go_ret
           exact ⟨rfl,bl_step hB.out hb1.out⟩
       · obtain rfl:=hno.out (fun h => a1 h.1) (fun h => a3 h.1)
         clear hok hno a1
         go_wp2
         go_ret
         exact ⟨rfl,bl_step hB.out hb1.out⟩
     · have hltz:¬ (k:Int) < (ll:Int):=by omega
       have fy2:=hid (fun h7 h8 h9 => fy1.out (by rw [hll.out,htm.out];exact c5H.out) (fun j hj => hq.out j hj (by rw [hll.out] at hj;omega)) h7 h8 h9)
       clear hq fy1 f6 f5
       rcases Nat.eq_zero_or_pos nn with n0 | n0
       · have n0z:((nn:Int) == 0) = true:=by rw [n0];rfl
         have n0y:¬ (0:Int) < (nn:Int):=by omega
         by_cases s0:st = 0
         · have s0z:(st != 0) = false:=by rw [s0];rfl
           have hfin:=hid (fun h9 => fy2.out (fun _ => s0) (fun h => absurd h (by omega)) h9)
           clear fy2 f7 f8 s0 n0
           go_wp2
           clear hltz hlt hk hbw y0 y1 y2 y3 y4 s0z n0z n0y
           go_loopw [9] (fun i wr => ∃ k:Nat,k ≤ pp ∧ i = .int .i64 (k:Int) ∧ Hid (∀ j (hj:j < g.prods.length),j < k → pdB g g.prods[j] = true) ∧ Hid (Below W.heap.size W wr)) (fun i _ => pp - (intOf i).toNat)
           case atStart => exact ⟨0,Nat.zero_le _,rfl,hid (fun _ _ h => absurd h (Nat.not_lt_zero _)),hbl⟩
           case round =>
            clear hbl
            obtain ⟨k,hk,rfl,hq,hbl⟩:=hrel
            have hbw:=hid (bl_step hB.out hbl.out)
            obtain ⟨y0,y1,y2,y3,y4⟩:=hk1.out wr hbl.out
            by_cases hlt:k < pp
            · have hltz:(k:Int) < (pp:Int):=by omega
              have hkl:k < g.prods.length:=by rw [hpp.out];exact hlt
              obtain ⟨b,o,q1,q3,e,x0,x1,x2,hN⟩:=hKp.out wr hbw.out k hkl
              subst e
              have hf9:=hid (fun h => hfp.out k hkl h)
              have hpd:=hid (hpd0.out g.prods[k])
              have hmore:Hid (pdB g g.prods[k] = true → ∀ j (hj:j < g.prods.length),j < k + 1 → pdB g g.prods[j] = true):=hid (fun h j hj h9 => by
               rcases Nat.lt_or_ge j k with h8 | h8
               · exact hq.out j hj h8
               · obtain rfl:j = k:=by omega
                 exact h)
              have hal:=al' wr (.cells #[.int .i64 g.prods[k].left,.slice q1 g.prods[k].right.length q3,.int .i64 g.prods[k].prec] 52)
              obtain ⟨u0,u1,u2⟩:=cells3h (heap_new wr (.cells #[.int .i64 g.prods[k].left,.slice q1 g.prods[k].right.length q3,.int .i64 g.prods[k].prec] 52))
              have hb1:=hid (bl_step hbl.out hal)
              have hbx:Hid (∀ u,Below (wr.alloc (.cells #[.int .i64 g.prods[k].left,.slice q1 g.prods[k].right.length q3,.int .i64 g.prods[k].prec] 52)).heap.size (wr.alloc (.cells #[.int .i64 g.prods[k].left,.slice q1 g.prods[k].right.length q3,.int .i64 g.prods[k].prec] 52)) u → u.cell? ⟨wr.heap.size,1,none⟩ = some (.slice q1 g.prods[k].right.length q3)):=hid (fun u hu => keep_cell hu u1)
              have hNk:=hid (fun u hu => hN.keep (w':=u) (bl_step hal hu))
              obtain ⟨W3,hW3⟩:∃ x,wr.alloc (.cells #[.int .i64 g.prods[k].left,.slice q1 g.prods[k].right.length q3,.int .i64 g.prods[k].prec] 52) = x:=⟨_,rfl⟩
              rw [hW3] at hb1 u0 u1 u2 hbx hNk
              clear hq hal hN
              obtain ⟨rl,hrl⟩:∃ n,Hid (g.prods[k].right.length = n):=⟨_,hid rfl⟩
              rw [hrl.out] at x1 u1 hW3 hbx hNk
              generalize g.prods[k].left = xl at *
              generalize g.prods[k].prec = xp at *
              by_cases c1:xl ≤ (tm:Int)
              · obtain rfl:=hf9.out (hpd.out.1 (.inl c1))
                clear hmore hf9 hpd hNk hbx
                go_wp2
                go_ret
                exact ⟨rfl,bl_step hB.out hb1.out⟩
              by_cases c2:al < xl
              · obtain rfl:=hf9.out (hpd.out.1 (.inr (.inl (by have:=hall.out;omega))))
                clear hmore hf9 hpd hNk hbx
                go_wp2
                go_ret
                exact ⟨rfl,bl_step hB.out hb1.out⟩
              have c1b:decide (xl ≤ (tm:Int)) = false:=decide_eq_false c1
              have c2b:decide (al < xl) = false:=decide_eq_false c2
              have c12:=hid (⟨c1,c2⟩:¬ xl ≤ (tm:Int) ∧ ¬ al < xl)
              clear c1 c2
              by_cases c3:(8:Int) < (rl:Int)
              · obtain rfl:=hf9.out (hpd.out.1 (.inr (.inr (.inl (by have:=hrl.out;omega)))))
                clear hmore hf9 hpd hNk hbx
                go_wp2
                go_ret
                exact ⟨rfl,bl_step hB.out hb1.out⟩
              by_cases c4:xp < 0
              · obtain rfl:=hf9.out (hpd.out.1 (.inr (.inr (.inr (.inl c4)))))
                clear hmore hf9 hpd hNk hbx
                go_wp2
                go_ret
                exact ⟨rfl,bl_step hB.out hb1.out⟩
              by_cases c5:(tm:Int) < xp
              · obtain rfl:=hf9.out (hpd.out.1 (.inr (.inr (.inr (.inr (.inl c5))))))
                clear hmore hf9 hpd hNk hbx
                go_wp2
                go_ret
                exact ⟨rfl,bl_step hB.out hb1.out⟩
              have hok:=hid (fun h => hmore.out (hpd.out.2 (by have:=c12.out;omega) (by have:=c12.out;have:=hall.out;omega) (by have:=hrl.out;omega) (by omega) (by omega) h))
              have hno:=hid (fun j (hj:j < g.prods[k].right.length) h => hf9.out (hpd.out.1 (.inr (.inr (.inr (.inr (.inr ⟨j,hj,h⟩)))))))
              clear hmore hf9 hpd
              go_wp2
              clear c1b c2b c12 c4 c5 x0 x1 x2 u0 u1 u2 hltz y0 y1 y2 y3 y4 hW3
              go_loopw [11] (fun i wr => ∃ m:Nat,m ≤ rl ∧ i = .int .i64 (m:Int) ∧ Hid (∀ j (hj:j < g.prods[k].right.length),j < m → 1 ≤ g.prods[k].right[j] ∧ g.prods[k].right[j] ≤ (g.all:Int)) ∧ Hid (Below W3.heap.size W3 wr)) (fun i _ => rl - (intOf i).toNat)
              case atStart => exact ⟨0,Nat.zero_le _,rfl,hid (fun _ _ h => absurd h (Nat.not_lt_zero _)),hid (Below.refl _ _)⟩
              case round =>
               obtain ⟨m,hm,rfl,hq,hbm⟩:=hrel
               have z1:=hbx.out _ hbm.out
               have hbz:=hid (bl_step hb1.out hbm.out)
               by_cases hlm:m < rl
               · have hlmz:(m:Int) < (rl:Int):=by omega
                 have hml:m < g.prods[k].right.length:=by rw [hrl.out];exact hlm
                 obtain ⟨a',c',e,-,-,hat⟩:=hNk.out _ hbm.out
                 injection e with e _ _
                 subst e
                 obtain ⟨b2,o2,e2,hb2,hx2⟩:=hat m hml
                 subst e2
                 have hno9:=hid (fun h => hno.out m hml h)
                 have hq9:Hid (1 ≤ g.prods[k].right[m] ∧ g.prods[k].right[m] ≤ (g.all:Int) → ∀ j (hj:j < g.prods[k].right.length),j < m + 1 → 1 ≤ g.prods[k].right[j] ∧ g.prods[k].right[j] ≤ (g.all:Int)):=hid (fun h j hj h9 => by
                  rcases Nat.lt_or_ge j m with h8 | h8
                  · exact hq.out j hj h8
                  · obtain rfl:j = m:=by omega
                    exact h)
                 clear hat hb2 hq
                 generalize g.prods[k].right[m] = x at *
                 by_cases d1:x < 1
                 · obtain rfl:=hno9.out (.inl d1)
                   clear hq9 hno9
                   go_wp2
                   go_ret
                   exact ⟨rfl,bl_step hB.out hbz.out⟩
                 by_cases d2:al < x
                 · obtain rfl:=hno9.out (.inr (by have:=hall.out;omega))
                   clear hq9 hno9
                   go_wp2
                   go_ret
                   exact ⟨rfl,bl_step hB.out hbz.out⟩
                 have hq8:=hid (hq9.out ⟨by omega,by have:=hall.out;omega⟩)
                 clear hq9 hno9
                 go_wp2
                 go_roundw
                 case rel => exact ⟨m + 1,by omega,by go_num,hq8,hid (by first | exact hbm.out | exact belowN hbm.out)⟩
                 case measure => simp [intOf];omega
               · have hlmz:¬ (m:Int) < (rl:Int):=by omega
                 have hq8:=hid (hok.out (fun j hj => hq.out j hj (by rw [hrl.out] at hj;omega)))
                 clear hq
                 go_wp2
                 go_roundw
                 case rel => exact ⟨k + 1,by omega,by go_num,hq8,hbz⟩
                 case measure => simp [intOf];omega
            · have hltz:¬ (k:Int) < (pp:Int):=by omega
              obtain rfl:=hfin.out (fun j hj => hq.out j hj (by rw [hpp.out] at hj;omega))
              clear hq
              go_wp2
              go_ret
              exact ⟨rfl,bl_step hB.out hbl.out⟩
         · have s0z:(st != 0) = true:=bne_iff_ne.2 s0
           obtain rfl:=f7.out n0 s0
           clear fy2 f8 f7 s0 n0
           go_wp2
           go_ret
           exact ⟨rfl,hbw.out⟩
       · have n0z:((nn:Int) == 0) = false:=by rw [beq_eq_false_iff_ne];omega
         have n0y:(0:Int) < (nn:Int):=by omega
         by_cases s1:st ≤ (tm:Int)
         · obtain rfl:=f8.out n0 (fun h => by have:=h.1;omega)
           clear fy2 f7 f8
           go_wp2
           go_ret
           exact ⟨rfl,hbw.out⟩
         by_cases s2:al < st
         · obtain rfl:=f8.out n0 (fun h => by have:=h.2;have:=hall.out;omega)
           clear fy2 f7 f8
           go_wp2
           go_ret
           exact ⟨rfl,hbw.out⟩
         have hfin:=hid (fun h9 => fy2.out (fun h => absurd h (by omega)) (fun _ => ⟨by have:=htm.out;omega,by have:=hall.out;omega⟩) h9)
         clear fy2 f7 f8
         go_wp2
         clear hltz hlt hk hbw y0 y1 y2 y3 y4 s1 s2 n0z n0y
         go_loopw [9] (fun i wr => ∃ k:Nat,k ≤ pp ∧ i = .int .i64 (k:Int) ∧ Hid (∀ j (hj:j < g.prods.length),j < k → pdB g g.prods[j] = true) ∧ Hid (Below W.heap.size W wr)) (fun i _ => pp - (intOf i).toNat)
         case atStart => exact ⟨0,Nat.zero_le _,rfl,hid (fun _ _ h => absurd h (Nat.not_lt_zero _)),hbl⟩
         case round =>
          clear hbl
          obtain ⟨k,hk,rfl,hq,hbl⟩:=hrel
          have hbw:=hid (bl_step hB.out hbl.out)
          obtain ⟨y0,y1,y2,y3,y4⟩:=hk1.out wr hbl.out
          by_cases hlt:k < pp
          · have hltz:(k:Int) < (pp:Int):=by omega
            have hkl:k < g.prods.length:=by rw [hpp.out];exact hlt
            obtain ⟨b,o,q1,q3,e,x0,x1,x2,hN⟩:=hKp.out wr hbw.out k hkl
            subst e
            have hf9:=hid (fun h => hfp.out k hkl h)
            have hpd:=hid (hpd0.out g.prods[k])
            have hmore:Hid (pdB g g.prods[k] = true → ∀ j (hj:j < g.prods.length),j < k + 1 → pdB g g.prods[j] = true):=hid (fun h j hj h9 => by
             rcases Nat.lt_or_ge j k with h8 | h8
             · exact hq.out j hj h8
             · obtain rfl:j = k:=by omega
               exact h)
            have hal:=al' wr (.cells #[.int .i64 g.prods[k].left,.slice q1 g.prods[k].right.length q3,.int .i64 g.prods[k].prec] 52)
            obtain ⟨u0,u1,u2⟩:=cells3h (heap_new wr (.cells #[.int .i64 g.prods[k].left,.slice q1 g.prods[k].right.length q3,.int .i64 g.prods[k].prec] 52))
            have hb1:=hid (bl_step hbl.out hal)
            have hbx:Hid (∀ u,Below (wr.alloc (.cells #[.int .i64 g.prods[k].left,.slice q1 g.prods[k].right.length q3,.int .i64 g.prods[k].prec] 52)).heap.size (wr.alloc (.cells #[.int .i64 g.prods[k].left,.slice q1 g.prods[k].right.length q3,.int .i64 g.prods[k].prec] 52)) u → u.cell? ⟨wr.heap.size,1,none⟩ = some (.slice q1 g.prods[k].right.length q3)):=hid (fun u hu => keep_cell hu u1)
            have hNk:=hid (fun u hu => hN.keep (w':=u) (bl_step hal hu))
            obtain ⟨W3,hW3⟩:∃ x,wr.alloc (.cells #[.int .i64 g.prods[k].left,.slice q1 g.prods[k].right.length q3,.int .i64 g.prods[k].prec] 52) = x:=⟨_,rfl⟩
            rw [hW3] at hb1 u0 u1 u2 hbx hNk
            clear hq hal hN
            obtain ⟨rl,hrl⟩:∃ n,Hid (g.prods[k].right.length = n):=⟨_,hid rfl⟩
            rw [hrl.out] at x1 u1 hW3 hbx hNk
            generalize g.prods[k].left = xl at *
            generalize g.prods[k].prec = xp at *
            by_cases c1:xl ≤ (tm:Int)
            · obtain rfl:=hf9.out (hpd.out.1 (.inl c1))
              clear hmore hf9 hpd hNk hbx
              go_wp2
              go_ret
              exact ⟨rfl,bl_step hB.out hb1.out⟩
            by_cases c2:al < xl
            · obtain rfl:=hf9.out (hpd.out.1 (.inr (.inl (by have:=hall.out;omega))))
              clear hmore hf9 hpd hNk hbx
              go_wp2
              go_ret
              exact ⟨rfl,bl_step hB.out hb1.out⟩
            have c1b:decide (xl ≤ (tm:Int)) = false:=decide_eq_false c1
            have c2b:decide (al < xl) = false:=decide_eq_false c2
            have c12:=hid (⟨c1,c2⟩:¬ xl ≤ (tm:Int) ∧ ¬ al < xl)
            clear c1 c2
            by_cases c3:(8:Int) < (rl:Int)
            · obtain rfl:=hf9.out (hpd.out.1 (.inr (.inr (.inl (by have:=hrl.out;omega)))))
              clear hmore hf9 hpd hNk hbx
              go_wp2
              go_ret
              exact ⟨rfl,bl_step hB.out hb1.out⟩
            by_cases c4:xp < 0
            · obtain rfl:=hf9.out (hpd.out.1 (.inr (.inr (.inr (.inl c4)))))
              clear hmore hf9 hpd hNk hbx
              go_wp2
              go_ret
              exact ⟨rfl,bl_step hB.out hb1.out⟩
            by_cases c5:(tm:Int) < xp
            · obtain rfl:=hf9.out (hpd.out.1 (.inr (.inr (.inr (.inr (.inl c5))))))
              clear hmore hf9 hpd hNk hbx
              go_wp2
              go_ret
              exact ⟨rfl,bl_step hB.out hb1.out⟩
            have hok:=hid (fun h => hmore.out (hpd.out.2 (by have:=c12.out;omega) (by have:=c12.out;have:=hall.out;omega) (by have:=hrl.out;omega) (by omega) (by omega) h))
            have hno:=hid (fun j (hj:j < g.prods[k].right.length) h => hf9.out (hpd.out.1 (.inr (.inr (.inr (.inr (.inr ⟨j,hj,h⟩)))))))
            clear hmore hf9 hpd
            go_wp2
            clear c1b c2b c12 c4 c5 x0 x1 x2 u0 u1 u2 hltz y0 y1 y2 y3 y4 hW3
            go_loopw [11] (fun i wr => ∃ m:Nat,m ≤ rl ∧ i = .int .i64 (m:Int) ∧ Hid (∀ j (hj:j < g.prods[k].right.length),j < m → 1 ≤ g.prods[k].right[j] ∧ g.prods[k].right[j] ≤ (g.all:Int)) ∧ Hid (Below W3.heap.size W3 wr)) (fun i _ => rl - (intOf i).toNat)
            case atStart => exact ⟨0,Nat.zero_le _,rfl,hid (fun _ _ h => absurd h (Nat.not_lt_zero _)),hid (Below.refl _ _)⟩
            case round =>
             obtain ⟨m,hm,rfl,hq,hbm⟩:=hrel
             have z1:=hbx.out _ hbm.out
             have hbz:=hid (bl_step hb1.out hbm.out)
             by_cases hlm:m < rl
             · have hlmz:(m:Int) < (rl:Int):=by omega
               have hml:m < g.prods[k].right.length:=by rw [hrl.out];exact hlm
               obtain ⟨a',c',e,-,-,hat⟩:=hNk.out _ hbm.out
               injection e with e _ _
               subst e
               obtain ⟨b2,o2,e2,hb2,hx2⟩:=hat m hml
               subst e2
               have hno9:=hid (fun h => hno.out m hml h)
               have hq9:Hid (1 ≤ g.prods[k].right[m] ∧ g.prods[k].right[m] ≤ (g.all:Int) → ∀ j (hj:j < g.prods[k].right.length),j < m + 1 → 1 ≤ g.prods[k].right[j] ∧ g.prods[k].right[j] ≤ (g.all:Int)):=hid (fun h j hj h9 => by
                rcases Nat.lt_or_ge j m with h8 | h8
                · exact hq.out j hj h8
                · obtain rfl:j = m:=by omega
                  exact h)
               clear hat hb2 hq
               generalize g.prods[k].right[m] = x at *
               by_cases d1:x < 1
               · obtain rfl:=hno9.out (.inl d1)
                 clear hq9 hno9
                 go_wp2
                 go_ret
                 exact ⟨rfl,bl_step hB.out hbz.out⟩
               by_cases d2:al < x
               · obtain rfl:=hno9.out (.inr (by have:=hall.out;omega))
                 clear hq9 hno9
                 go_wp2
                 go_ret
                 exact ⟨rfl,bl_step hB.out hbz.out⟩
               have hq8:=hid (hq9.out ⟨by omega,by have:=hall.out;omega⟩)
               clear hq9 hno9
               go_wp2
               go_roundw
               case rel => exact ⟨m + 1,by omega,by go_num,hq8,hid (by first | exact hbm.out | exact belowN hbm.out)⟩
               case measure => simp [intOf];omega
             · have hlmz:¬ (m:Int) < (rl:Int):=by omega
               have hq8:=hid (hok.out (fun j hj => hq.out j hj (by rw [hrl.out] at hj;omega)))
               clear hq
               go_wp2
               go_roundw
               case rel => exact ⟨k + 1,by omega,by go_num,hq8,hbz⟩
               case measure => simp [intOf];omega
          · have hltz:¬ (k:Int) < (pp:Int):=by omega
            obtain rfl:=hfin.out (fun j hj => hq.out j hj (by rw [hpp.out] at hj;omega))
            clear hq
            go_wp2
            go_ret
            exact ⟨rfl,bl_step hB.out hbl.out⟩
  · have c5z:((ll:Int) != (tm:Int) + 1) = true:=bne_iff_ne.2 (by omega)
    obtain rfl:=f5.out c5
    clear f5 f6 f7 f8 hfp fy1 c5
    generalize g.start = st at *
    go_enter Tryz.func40,Tryz.ntmps40
    go_wp2_with (first
     | (go_at_call 53;refine G1.out.mono ?_;clear G1;rintro e w1 ⟨rfl,hc1⟩;have hc1:=hid hc1;obtain ⟨x0,x1,x2,x3,x4⟩:=hk1.out w1 hc1.out)
     | (go_at_call 54;refine (GT1.out w1 hc1.out).mono ?_;clear GT1;rintro e w2 ⟨rfl,hc2⟩;have hc2:=hid (bl_step hc1.out hc2);obtain ⟨z0,z1,z2,z3,z4⟩:=hk1.out w2 hc2.out))
    go_ret
    exact ⟨rfl,bl_step hB.out hc2.out⟩
end Go.Proofs.YtbpnioehmohbcaaGreat
namespace Go.Proofs.YtbpnioehmohbcaaGreat
open Go.RowKit Go.Maps Go.Sort
theorem sidG_add {g:Gm} {p:Int} (h:p < 0):sidG g p = [g.start]:=if_pos h
theorem sidG_prod {g:Gm} {p:Int} (h:¬ p < 0) (h1:p.toNat < g.prods.length):sidG g p = g.prods[p.toNat].right:=by
 unfold sidG
 rw [if_neg h,List.getD_eq_getElem?_getD,List.getElem?_eq_getElem h1,Option.getD_some]
theorem sidG_bnd {g:Gm} (hb:BndG g) {p:Int} (h1:p < g.prods.length):(sidG g p).length ≤ 1000000:=by
 by_cases h:p < 0
 · rw [sidG_add h];exact (by decide:1 ≤ 1000000)
 · have hl:p.toNat < g.prods.length:=by omega
   rw [sidG_prod h hl]
   have:=hb.right _ (List.getElem_mem hl)
   omega
set_option maxRecDepth 20000 in
set_option maxHeartbeats 4000000 in
theorem refSide (g:Gm) (rv nv lv pv:Value) (p:Int) (w:World) (hV:GmV w rv nv lv pv g) (hb:BndG g) (h0:-1 ≤ p) (h1:p < g.prods.length) :
 Calls Tryz.prog 15 #[gmA rv nv lv pv g.start,.int .i64 p] w fun e w' => ∃ v,e = .returned v ∧ Own w' w.heap.size v (sidG g p) ∧ Below w.heap.size w w':=by
 obtain ⟨pa,pc,rfl⟩:=hV.prods.shape
 have hB1:=al' w (.cells #[rv,nv,lv,.slice pa g.prods.length pc,.int .i64 g.start] 27)
 have k1:=heap_new w (.cells #[rv,nv,lv,.slice pa g.prods.length pc,.int .i64 g.start] 27)
 obtain ⟨W,hW⟩:∃ x,w.alloc (.cells #[rv,nv,lv,.slice pa g.prods.length pc,.int .i64 g.start] 27) = x:=⟨_,rfl⟩
 rw [hW] at hB1 k1
 obtain ⟨y0,y1,y2,y3,y4⟩:=cells5m k1
 have hB:=hid hB1
 by_cases hp:p < 0
 · rw [sidG_add hp]
   have hal:=al' W (.cells #[.int .i64 g.start] 3)
   have hOa:=hid (own_below (World.ownsRow_nil W w.heap.size 3 1) hal)
   have hDa:=hid (Nums.of_row (Own.lit1 W g.start))
   have hBa:=hid (bl_step hB1 hal)
   clear hV hb h1 hB1 k1 hal
   generalize g.prods.length = pp at *
   generalize g.start = st at *
   go_enter Tryz.func15,Tryz.ntmps15
   go_wp2_with (at_builtin;refine wp_app _ rfl _ _ rfl w.heap.size [] [st] _ _ rfl rfl hOa.out hDa.out (by simp) hBa.out.size ?_;intro v4 w4 hO4 hb4;have hO9:=hid hO4;have hb9:=hid (hBa.out.trans hb4);clear hO4 hb4)
   go_ret
   exact ⟨_,rfl,hO9.out,hb9.out⟩
 · have hpl:p.toNat < g.prods.length:=by omega
   have hpz:((p.toNat:Nat):Int) = p:=by omega
   rw [sidG_prod hp hpl]
   obtain ⟨b,o,e,-,v,z0,z1,z2,hN⟩:=(hV.keep hB1).prods.at hpl
   subst e
   have hN0:=hN
   obtain ⟨q1,q3,rfl,-⟩:=hN0
   have hl:=hb.right _ (List.getElem_mem hpl)
   have hN:=hid hN
   have hO:=hid (World.ownsRow_nil W w.heap.size 3 1)
   clear hV hb hB1 k1 z0 z2
   generalize g.prods[p.toNat].right = R at *
   generalize g.prods.length = pp at *
   generalize g.start = st at *
   obtain ⟨k,hk⟩:∃ k,p.toNat = k:=⟨_,rfl⟩
   rw [hk] at hpz hpl z1
   clear hk
   subst hpz
   generalize hrl:R.length = rl at *
   have hrlH:=hid hrl
   clear hrl
   have hkz:¬ (k:Int) < 0:=by omega
   clear hp
   go_enter Tryz.func15,Tryz.ntmps15
   go_wp2_with (at_builtin;refine wp_app _ rfl _ _ rfl w.heap.size [] R _ _ rfl rfl hO.out hN.out (by rw [hrlH.out];simp;omega) hB.out.size ?_;intro v4 w4 hO4 hb4;have hO9:=hid hO4;have hb9:=hid (hB.out.trans hb4);clear hO4 hb4)
   go_ret
   exact ⟨_,rfl,hO9.out,hb9.out⟩
theorem nxtG_end {g:Gm} {x:It} (h:¬ x.2.toNat < (sidG g x.1).length):nxtG g x = 0:=by
 unfold nxtG
 rw [List.getD_eq_getElem?_getD,List.getElem?_eq_none (by omega),Option.getD_none]
theorem nxtG_at {g:Gm} {x:It} (h:x.2.toNat < (sidG g x.1).length):nxtG g x = (sidG g x.1)[x.2.toNat]:=by
 unfold nxtG
 rw [List.getD_eq_getElem?_getD,List.getElem?_eq_getElem h,Option.getD_some]
set_option maxRecDepth 20000 in
set_option maxHeartbeats 4000000 in
theorem refNextI (g:Gm) (rv nv lv pv:Value) (x:It) (w:World) (hV:GmV w rv nv lv pv g) (hb:BndG g) (hx:itB g x = true) :
 Calls Tryz.prog 16 #[gmA rv nv lv pv g.start,itV x] w fun e w' => e = .returned (.int .i64 (nxtG g x)) ∧ Below w.heap.size w w':=by
 obtain ⟨i1,i2,i3,i4⟩:=itB_iff.1 hx
 have he:=nxtG_end (g:=g) (x:=x)
 have ha:=nxtG_at (g:=g) (x:=x)
 generalize nxtG g x = N at *
 obtain ⟨x1,x2⟩:=x
 try dsimp only at *
 have hlb:=sidG_bnd hb i2
 have hB1:=al' w (.cells #[rv,nv,lv,pv,.int .i64 g.start] 27)
 have k1:=heap_new w (.cells #[rv,nv,lv,pv,.int .i64 g.start] 27)
 have hB2:=bl_step hB1 (al' (w.alloc (.cells #[rv,nv,lv,pv,.int .i64 g.start] 27)) (.cells #[.int .i64 x1,.int .i64 x2] 29))
 have k2:=hs_keep k1 (al' (w.alloc (.cells #[rv,nv,lv,pv,.int .i64 g.start] 27)) (.cells #[.int .i64 x1,.int .i64 x2] 29))
 have k3:=heap_new (w.alloc (.cells #[rv,nv,lv,pv,.int .i64 g.start] 27)) (.cells #[.int .i64 x1,.int .i64 x2] 29)
 have hsz:(w.alloc (.cells #[rv,nv,lv,pv,.int .i64 g.start] 27)).heap.size = w.heap.size + 1:=World.size_alloc _ _
 rw [hsz] at k3
 obtain ⟨W,hW⟩:∃ x,(w.alloc (.cells #[rv,nv,lv,pv,.int .i64 g.start] 27)).alloc (.cells #[.int .i64 x1,.int .i64 x2] 29) = x:=⟨_,rfl⟩
 rw [hW] at hB2 k2 k3
 obtain ⟨y0,y1,y2,y3,y4⟩:=cells5m k2
 have hk3:=hid (fun u (hu:Below W.heap.size W u) => cells2h (hs_keep k3 hu))
 obtain ⟨z0,z1⟩:=cells2h k3
 have GS:=hid (refSide g _ _ _ _ x1 W (hV.keep hB2) hb i1 i2)
 have hB:=hid hB2
 clear hV hb hx hB1 hB2 k1 k2 k3 i1 i2 hsz
 generalize sidG g x1 = S at *
 generalize g.start = st at *
 by_cases hlt:x2.toNat < S.length
 · have hN:=ha hlt
   obtain ⟨k,hk⟩:∃ k:Nat,x2 = (k:Int):=⟨x2.toNat,by omega⟩
   subst hk
   have hlt':k < S.length:=hlt
   have hN':N = S[k]:=hN
   have hltz:¬ (S.length:Int) ≤ (k:Int):=by omega
   have hSk:=hid (fun u v B (hO:Own u B v S) => by
    obtain ⟨b,o,cp,e,h1,h2,h3⟩:=(Nums.of_row hO).at (by omega)
    exact (⟨b,o,cp,e,by rw [hN'];exact h3 k hlt'⟩:∃ b o cp,v = .slice (some ⟨b,o,none⟩) S.length cp ∧ u.cell? ⟨b,o + k,none⟩ = some (.int .i64 N)))
   clear he ha hN hN' hlt i3 i4
   generalize S.length = sl at *
   go_enter Tryz.func16,Tryz.ntmps16
   go_wp2_with (go_at_call 15;refine GS.out.mono ?_;clear GS;rintro e w3 ⟨v3,rfl,hO3,hc3⟩;obtain ⟨b3,o3,c3,rfl,hs3⟩:=hSk.out _ _ _ hO3;clear hO3;have hc3:=hid hc3;clear y0 y1 y2 y3 y4 z0 z1;obtain ⟨z0,z1⟩:=hk3.out _ hc3.out)
   go_ret
   exact ⟨rfl,bl_step hB.out hc3.out⟩
 · obtain rfl:=he hlt
   have hltz:(S.length:Int) ≤ x2:=by omega
   have hSk:=hid (fun u v B (hO:Own u B v S) => by
    obtain ⟨a,c,e,-⟩:=Nums.of_row hO
    exact (⟨a,c,e⟩:∃ a c,v = .slice a S.length c))
   clear he ha i3 i4 hlt
   generalize S.length = sl at *
   go_enter Tryz.func16,Tryz.ntmps16
   go_wp2_with (go_at_call 15;refine GS.out.mono ?_;clear GS;rintro e w3 ⟨v3,rfl,hO3,hc3⟩;obtain ⟨a3,c3,rfl⟩:=hSk.out _ _ _ hO3;clear hO3;have hc3:=hid hc3;clear y0 y1 y2 y3 y4 z0 z1;obtain ⟨z0,z1⟩:=hk3.out _ hc3.out)
   go_ret
   exact ⟨rfl,bl_step hB.out hc3.out⟩
noncomputable def usB (g:Gm):Bool:=open Classical in decide (UsG g)
theorem usB_no {g:Gm} (h:¬ UsG g):usB g = false:=by unfold usB;exact @decide_eq_false _ (Classical.propDecidable _) h
theorem usB_yes {g:Gm} (h:UsG g):usB g = true:=by unfold usB;exact @decide_eq_true _ (Classical.propDecidable _) h
theorem usB_snd {g:Gm} (h:0 < g.nonts.length):usB g = soundB g:=by
 by_cases hs:SndG g
 · rw [usB_yes ⟨h,hs⟩,soundB_yes hs]
 · rw [usB_no (fun hu => hs hu.snd),soundB_no hs]
set_option maxRecDepth 20000 in
set_option maxHeartbeats 4000000 in
theorem refUsable (g:Gm) (rv nv lv pv:Value) (w:World) (hV:GmV w rv nv lv pv g) (hb:BndG g) (hnl:∀ t ∈ g.allN,t.length ≤ 1000000) :
 Calls Tryz.prog 32 #[gmA rv nv lv pv g.start] w fun e w' => e = .returned (.bool (usB g)) ∧ Below w.heap.size w w':=by
 have GS:=hid (fun u (hu:Below w.heap.size w u) => refSound g _ _ _ _ u (hV.keep hu) hb hnl)
 obtain ⟨na,nc,rfl⟩:=hV.nonts.shape
 have hB1:=al' w (.cells #[rv,.slice na g.nonts.length nc,lv,pv,.int .i64 g.start] 27)
 have k1:=heap_new w (.cells #[rv,.slice na g.nonts.length nc,lv,pv,.int .i64 g.start] 27)
 obtain ⟨W,hW⟩:∃ x,w.alloc (.cells #[rv,.slice na g.nonts.length nc,lv,pv,.int .i64 g.start] 27) = x:=⟨_,rfl⟩
 rw [hW] at hB1 k1
 obtain ⟨y0,y1,y2,y3,y4⟩:=cells5m k1
 have GS:=hid (GS.out W hB1)
 have hB:=hid hB1
 by_cases hn:0 < g.nonts.length
 · rw [usB_snd hn]
   have hnz:(0:Int) < (g.nonts.length:Int):=by omega
   clear hV hb hnl hB1 k1 hn
   generalize soundB g = SB at *
   generalize g.nonts.length = nn at *
   generalize g.start = st at *
   go_enter Tryz.func32,Tryz.ntmps32
   go_wp2_with (go_at_call 40;refine GS.out.mono ?_;clear GS;rintro e w3 ⟨rfl,hc3⟩)
   go_ret
   exact ⟨rfl,bl_step hB.out hc3⟩
 · rw [usB_no (fun hu => hn hu.some)]
   have hnz:¬ (0:Int) < (g.nonts.length:Int):=by omega
   clear hV hb hnl hB1 k1 hn GS
   generalize g.nonts.length = nn at *
   generalize g.start = st at *
   go_enter Tryz.func32,Tryz.ntmps32
   go_wp2
   go_ret
   exact ⟨rfl,hB.out⟩
end Go.Proofs.YtbpnioehmohbcaaGreat
namespace Go.Proofs.YtbpnioehmohbcaaGreat
open Go.RowKit Go.Maps Go.Sort
noncomputable def rgtB (g:Gm) (l:List It):Bool:=usB g && l.all (itB g)
theorem rgtB_iff {g:Gm} {l:List It}:rgtB g l = true ↔ RgtI g l:=by
 unfold rgtB
 rw [Bool.and_eq_true,List.all_eq_true]
 constructor
 · rintro ⟨h1,h2⟩
   refine ⟨?_,h2⟩
   apply Classical.byContradiction
   intro h
   rw [usB_no h] at h1
   cases h1
 · intro h
   exact ⟨usB_yes h.us,h.all⟩
theorem itB_cut {g:Gm} {x:It}:itB g x = if x.1 < -1 then false else if (g.prods.length:Int) ≤ x.1 then false else if x.2 < 0 then false else !decide (((sidG g x.1).length:Int) < x.2):=by
 rw [Bool.eq_iff_iff,itB_iff]
 by_cases h1:x.1 < -1
 · rw [if_pos h1];constructor
   · intro h;omega
   · intro h;cases h
 · rw [if_neg h1]
   by_cases h2:(g.prods.length:Int) ≤ x.1
   · rw [if_pos h2];constructor
     · intro h;omega
     · intro h;cases h
   · rw [if_neg h2]
     by_cases h3:x.2 < 0
     · rw [if_pos h3];constructor
       · intro h;omega
       · intro h;cases h
     · rw [if_neg h3,Bool.not_eq_true',decide_eq_false_iff_not]
       omega
theorem all_no {α:Type} {f:α → Bool} {l:List α} {k:Nat} (hk:k < l.length) (h:f l[k] = false):l.all f = false:=by
 rw [List.all_eq_false]
 exact ⟨_,List.getElem_mem hk,by rw [h];decide⟩
theorem all_take {α:Type} {f:α → Bool} {l:List α} {k:Nat} (hk:k < l.length) (h:(l.take k).all f = true) (h2:f l[k] = true):(l.take (k + 1)).all f = true:=by
 rw [List.take_succ_eq_append_getElem hk,List.all_append,h,List.all_cons,h2]
 rfl
set_option maxRecDepth 100000 in
set_option maxHeartbeats 8000000 in
theorem refRightI (g:Gm) (rv nv lv pv v:Value) (l:List It) (w:World) (hV:GmV w rv nv lv pv g) (hb:BndG g) (hnl:∀ t ∈ g.allN,t.length ≤ 1000000) (hl:l.length ≤ 1000000) (hI:Its w v l) :
 Calls Tryz.prog 13 #[gmA rv nv lv pv g.start,v] w fun e w' => e = .returned (.bool (rgtB g l)) ∧ Below w.heap.size w w':=by
 have GU:=hid (fun u (hu:Below w.heap.size w u) => refUsable g _ _ _ _ u (hV.keep hu) hb hnl)
 have GS:=hid (fun u (hu:Below w.heap.size w u) p h0 h1 => refSide g _ _ _ _ p u (hV.keep hu) hb h0 h1)
 obtain ⟨pa,pc,rfl⟩:=hV.prods.shape
 have hB1:=al' w (.cells #[rv,nv,lv,.slice pa g.prods.length pc,.int .i64 g.start] 27)
 have k1:=heap_new w (.cells #[rv,nv,lv,.slice pa g.prods.length pc,.int .i64 g.start] 27)
 obtain ⟨W,hW⟩:∃ x,w.alloc (.cells #[rv,nv,lv,.slice pa g.prods.length pc,.int .i64 g.start] 27) = x:=⟨_,rfl⟩
 rw [hW] at hB1 k1
 have hk1:=hid (fun u (hu:Below W.heap.size W u) => cells5m (hs_keep k1 hu))
 have hB:=hid hB1
 obtain ⟨a,c,rfl,-,-,hat0⟩:=hI
 have hat:=hid (fun u (hu:Below W.heap.size W u) k (hk:k < l.length) => by
  obtain ⟨b,o,e,-,hc⟩:=hat0 k hk
  exact (⟨b,o,e,keep_cell (bl_step hB1 hu) hc.1,keep_cell (bl_step hB1 hu) hc.2⟩:∃ b o,a = some ⟨b,o,none⟩ ∧ u.cell? ⟨b,o + k * 2,none⟩ = some (.int .i64 l[k].1) ∧ u.cell? ⟨b,o + k * 2 + 1,none⟩ = some (.int .i64 l[k].2)))
 have hcut:=hid (fun k (hk:k < l.length) => itB_cut (g:=g) (x:=l[k]))
 have hno:=hid (fun k (hk:k < l.length) (h:itB g l[k] = false) => (all_no hk h:l.all (itB g) = false))
 have hst:=hid (fun k (hk:k < l.length) (h:(l.take k).all (itB g) = true) (h2:itB g l[k] = true) => all_take hk h h2)
 have hfin:Hid ((l.take l.length).all (itB g) = l.all (itB g)):=hid (by rw [List.take_length])
 have h00:Hid ((l.take 0).all (itB g) = true):=hid rfl
 obtain ⟨y0,y1,y2,y3,y4⟩:=hk1.out W (Below.refl _ W)
 have GU:=hid (GU.out W hB1)
 unfold rgtB
 obtain ⟨n,hn⟩:∃ n,Hid (l.length = n):=⟨_,hid rfl⟩
 obtain ⟨R,hR⟩:∃ r,Hid (l.all (itB g) = r):=⟨_,hid rfl⟩
 rw [hR.out]
 rw [hn.out] at hl ⊢
 cases hu:usB g with
 | false =>
  rw [hu] at GU
  clear hV hb hnl hB1 k1 hu hat0
  generalize g.prods.length = pp at *
  generalize g.start = st at *
  go_enter Tryz.func13,Tryz.ntmps13
  go_wp2_with (go_at_call 32;refine GU.out.mono ?_;clear GU;rintro e w3 ⟨rfl,hc3⟩)
  go_ret
  exact ⟨rfl,bl_step hB.out hc3⟩
 | true =>
  rw [hu] at GU
  rw [Bool.true_and]
  have hpp:g.prods.length ≤ 1000:=hb.prods
  clear hV hb hnl hB1 k1 hu hat0
  obtain ⟨pp,hp9⟩:∃ n,Hid (g.prods.length = n):=⟨_,hid rfl⟩
  rw [hp9.out] at GU GS hk1 y3 hcut hpp hW ⊢
  generalize g.start = st at *
  go_enter Tryz.func13,Tryz.ntmps13
  go_wp2_with (go_at_call 32;refine GU.out.mono ?_;clear GU;rintro e w3 ⟨rfl,hc3⟩;have hc3:=hid hc3)
  clear hW y0 y1 y2 y3 y4
  go_loopw [5] (fun i wr => ∃ k:Nat,k ≤ n ∧ i = .int .i64 (k:Int) ∧ Hid ((l.take k).all (itB g) = true) ∧ Hid (Below W.heap.size W wr)) (fun i _ => n - (intOf i).toNat)
  case atStart => exact ⟨0,Nat.zero_le _,rfl,h00,hc3⟩
  case round =>
   clear h00 hc3
   obtain ⟨k,hk,rfl,hG,hbl⟩:=hrel
   by_cases hlt:k < n
   · have hltz:(k:Int) < (n:Int):=by omega
     have hkl:k < l.length:=by rw [hn.out];exact hlt
     obtain ⟨b,o,e,z0,z1⟩:=hat.out wr hbl.out k hkl
     subst e
     have hcut:=hcut.out k hkl
     have hno:=hno.out k hkl
     have hst:=hid (hst.out k hkl hG.out)
     generalize itB g l[k] = IB at *
     obtain ⟨x1,hx1⟩:∃ x,Hid (l[k].1 = x):=⟨_,hid rfl⟩
     obtain ⟨x2,hx2⟩:∃ x,Hid (l[k].2 = x):=⟨_,hid rfl⟩
     rw [hx1.out] at z0 hcut
     rw [hx2.out] at z1 hcut
     have hal:=al' wr (.cells #[.int .i64 x1,.int .i64 x2] 29)
     have kx:=heap_new wr (.cells #[.int .i64 x1,.int .i64 x2] 29)
     have hba:=bl_step hbl.out hal
     go_wp2_with fail
     obtain ⟨V,hV⟩:∃ x,wr.alloc (.cells #[.int .i64 x1,.int .i64 x2] 29) = x:=⟨_,rfl⟩
     rw [hV] at hal kx hba ⊢
     have hkx:=hid (fun u (hu:Below V.heap.size V u) => cells2h (hs_keep kx hu))
     have hba:=hid hba
     obtain ⟨f0,f1⟩:=hkx.out V (Below.refl _ V)
     obtain ⟨y0,y1,y2,y3,y4⟩:=hk1.out V hba.out
     clear hal kx hV z0 z1
     by_cases h1:x1 < -1
     · rw [if_pos h1] at hcut
       subst hcut
       have hr:R = false:=by rw [← hR.out];exact hno rfl
       subst hr
       have f0:=cell_regrown f0
       have f1:=cell_regrown f1
       have y0:=cell_regrown y0
       have y1:=cell_regrown y1
       have y2:=cell_regrown y2
       have y3:=cell_regrown y3
       have y4:=cell_regrown y4
       have h1:=decide_eq_true h1
       clear hno hst GS hG
       refine wp_region_quiet_below (by kernel_rfl) (by kernel_rfl) ?_
       repeat (first | go_big_quiet_step (fail) | quiet_step (fail))
       refine wpQuiet_nil ?_
       intro _ hw'
       obtain ⟨⟨dq,osq⟩,hw''⟩:=hw'
       subst hw''
       have hq:=hid (bl_step hba.out (below_regrown V dq osq))
       generalize grow (redrawn V dq) osq = w9 at *
       go_wp2
       go_ret
       exact ⟨rfl,bl_step hB.out hq.out⟩
     · rw [if_neg h1] at hcut
       have h1d:=decide_eq_false h1
       by_cases h2:(pp:Int) ≤ x1
       · rw [if_pos h2] at hcut
         subst hcut
         have hr:R = false:=by rw [← hR.out];exact hno rfl
         subst hr
         have h2d:=decide_eq_true h2
         have f0:=cell_regrown f0
         have f1:=cell_regrown f1
         have y0:=cell_regrown y0
         have y1:=cell_regrown y1
         have y2:=cell_regrown y2
         have y3:=cell_regrown y3
         have y4:=cell_regrown y4
         clear hno hst GS hG h1 h2
         refine wp_region_quiet_below (by kernel_rfl) (by kernel_rfl) ?_
         repeat (first | go_big_quiet_step (fail) | quiet_step (fail))
         refine wpQuiet_nil ?_
         intro _ hw'
         obtain ⟨⟨dq,osq⟩,hw''⟩:=hw'
         subst hw''
         have hq:=hid (bl_step hba.out (below_regrown V dq osq))
         generalize grow (redrawn V dq) osq = w9 at *
         go_wp2
         go_ret
         exact ⟨rfl,bl_step hB.out hq.out⟩
       · rw [if_neg h2] at hcut
         have h2d:=decide_eq_false h2
         by_cases h3:x2 < 0
         · rw [if_pos h3] at hcut
           subst hcut
           have hr:R = false:=by rw [← hR.out];exact hno rfl
           subst hr
           have h3d:=decide_eq_true h3
           have f0:=cell_regrown f0
           have f1:=cell_regrown f1
           have y0:=cell_regrown y0
           have y1:=cell_regrown y1
           have y2:=cell_regrown y2
           have y3:=cell_regrown y3
           have y4:=cell_regrown y4
           clear hno hst GS hG h1 h2 h3
           refine wp_region_quiet_below (by kernel_rfl) (by kernel_rfl) ?_
           repeat (first | go_big_quiet_step (fail) | quiet_step (fail))
           refine wpQuiet_nil ?_
           intro _ hw'
           obtain ⟨⟨dq,osq⟩,hw''⟩:=hw'
           subst hw''
           have hq:=hid (bl_step hba.out (below_regrown V dq osq))
           generalize grow (redrawn V dq) osq = w9 at *
           go_wp2
           go_ret
           exact ⟨rfl,bl_step hB.out hq.out⟩
         · rw [if_neg h3] at hcut
           have h3d:=decide_eq_false h3
           have hs9:=hid (fun u v B (hO:Own u B v (sidG g l[k].1)) => by
            obtain ⟨a,c,e,-⟩:=Nums.of_row hO
            exact (⟨a,c,e⟩:∃ a c,v = .slice a (sidG g l[k].1).length c))
           rw [hx1.out] at hs9
           have GS:=hid (fun u hu => GS.out u hu x1 (by omega) (by omega))
           generalize sidG g x1 = S at *
           generalize S.length = sl at *
           have hcur:=hid (show Below V.heap.size V V.drew from (Below.refl _ V).drew)
           have f0:=keep_cell hcur.out f0
           have f1:=keep_cell hcur.out f1
           have y0:=keep_cell hcur.out y0
           have y1:=keep_cell hcur.out y1
           have y2:=keep_cell hcur.out y2
           have y3:=keep_cell hcur.out y3
           have y4:=keep_cell hcur.out y4
           cases hd:decide ((sl:Int) < x2) with
           | true =>
            rw [hd] at hcut
            have hcut:IB = false:=hcut
            subst hcut
            have hr:R = false:=by rw [← hR.out];exact hno rfl
            subst hr
            clear hno hst hG h1 h2 h3 hat hlt hltz hk hl hcut
            go_region_held3 (fun w' => w'.cell? ⟨w.heap.size,0,none⟩ = some rv ∧ w'.cell? ⟨w.heap.size,1,none⟩ = some nv ∧ w'.cell? ⟨w.heap.size,2,none⟩ = some lv ∧ w'.cell? ⟨w.heap.size,3,none⟩ = some (.slice pa pp pc) ∧ w'.cell? ⟨w.heap.size,4,none⟩ = some (.int .i64 st) ∧ w'.cell? ⟨wr.heap.size,0,none⟩ = some (.int .i64 x1) ∧ w'.cell? ⟨wr.heap.size,1,none⟩ = some (.int .i64 x2)) (go_keep) ((first
             | (go_at_call 15;refine (GS.out _ (bl_step hB.out (bl_step hba.out hcur.out))).mono ?_;rintro e w3 ⟨v3,rfl,hO3,hc⟩;obtain ⟨a3,c3,rfl⟩:=hs9.out _ _ _ hO3;clear hO3;have hn9:=hid (bl_step hcur.out hc);clear hcur f0 f1 y0 y1 y2 y3 y4;have hcur:=hn9;obtain ⟨f0,f1⟩:=hkx.out _ hcur.out;obtain ⟨y0,y1,y2,y3,y4⟩:=hk1.out _ (bl_step hba.out hcur.out);clear hn9)))
            all_goals
             go_wp2
             go_ret
             exact ⟨rfl,bl_step hB.out (bl_step hba.out hcur.out)⟩
           | false =>
            rw [hd] at hcut
            have hcut:IB = true:=hcut
            subst hcut
            have hG9:=hid (hst.out rfl)
            clear hno hst hG h1 h2 h3 hat hcut
            have hkH:=hid hk
            have hltH:=hid hlt
            have hlH:=hid hl
            clear hk hlt hltz hl
            go_region_held3 (fun w' => w'.cell? ⟨w.heap.size,0,none⟩ = some rv ∧ w'.cell? ⟨w.heap.size,1,none⟩ = some nv ∧ w'.cell? ⟨w.heap.size,2,none⟩ = some lv ∧ w'.cell? ⟨w.heap.size,3,none⟩ = some (.slice pa pp pc) ∧ w'.cell? ⟨w.heap.size,4,none⟩ = some (.int .i64 st) ∧ w'.cell? ⟨wr.heap.size,0,none⟩ = some (.int .i64 x1) ∧ w'.cell? ⟨wr.heap.size,1,none⟩ = some (.int .i64 x2)) (go_keep) ((first
             | (go_at_call 15;refine (GS.out _ (bl_step hB.out (bl_step hba.out hcur.out))).mono ?_;rintro e w3 ⟨v3,rfl,hO3,hc⟩;obtain ⟨a3,c3,rfl⟩:=hs9.out _ _ _ hO3;clear hO3;have hn9:=hid (bl_step hcur.out hc);clear hcur f0 f1 y0 y1 y2 y3 y4;have hcur:=hn9;obtain ⟨f0,f1⟩:=hkx.out _ hcur.out;obtain ⟨y0,y1,y2,y3,y4⟩:=hk1.out _ (bl_step hba.out hcur.out);clear hn9)))
            all_goals
             have hlt:=hltH.out
             have hl:=hlH.out
             have hb9:=hid (bl_step hba.out hcur.out)
             go_wp2
             go_roundw
             case rel => exact ⟨k + 1,by omega,by go_num,hG9,hb9⟩
             case measure => simp [intOf];omega
   · have hltz:¬ (k:Int) < (n:Int):=by omega
     obtain rfl:k = n:=by omega
     have hr:R = true:=by rw [← hR.out,← hfin.out,hn.out];exact hG.out
     subst hr
     clear hat hst hG hno hcut GS
     go_wp2
     go_ret
     exact ⟨rfl,bl_step hB.out hbl.out⟩
end Go.Proofs.YtbpnioehmohbcaaGreat
namespace Go.Proofs.YtbpnioehmohbcaaGreat
open Go.RowKit Go.Maps Go.Sort
def fltK (g:Gm) (l:List It) (k:Nat):List It:=(allK g k).filter fun x => l.contains x
def rowD (p:Int) (d:Nat):List It:=(List.range d).map fun d:Nat => (p,(d:Int))
def fltD (g:Gm) (l:List It) (k d:Nat):List It:=fltK g l k ++ (rowD ((k:Int) - 1) d).filter fun x => l.contains x
theorem fltD_zero (g:Gm) (l:List It) (k:Nat):fltD g l k 0 = fltK g l k:=by unfold fltD rowD;simp
theorem fltD_succ (g:Gm) (l:List It) (k d:Nat):fltD g l k (d + 1) = fltD g l k d ++ (if l.contains ((k:Int) - 1,(d:Int)) then [((k:Int) - 1,(d:Int))] else []):=by
 unfold fltD rowD
 rw [List.range_succ,List.map_append,List.filter_append,← List.append_assoc]
 congr 1
 cases h:l.contains ((k:Int) - 1,(d:Int)) with
 | true => rw [if_pos rfl];exact List.filter_cons_of_pos h
 | false => rw [if_neg (by decide)];exact List.filter_cons_of_neg (by rw [h];decide)
theorem fltD_end (g:Gm) (l:List It) (k:Nat):fltD g l k ((sidG g ((k:Int) - 1)).length + 1) = fltK g l (k + 1):=by
 unfold fltD fltK rowD
 rw [allK_succ,List.filter_append]
 rfl
theorem fltD_len {g:Gm} (hg:SndG g) (l:List It) {k d:Nat} (hk:k ≤ g.prods.length) (hd:d ≤ (sidG g ((k:Int) - 1)).length + 1):(fltD g l k d).length ≤ 400:=by
 have h1:=allK_len hg k (by omega)
 have h2:(sidG g ((k:Int) - 1)).length ≤ 8:=sidG_len hg (by omega)
 have h3:((rowD ((k:Int) - 1) d).filter fun x => l.contains x).length ≤ d:=Nat.le_trans (List.length_filter_le _ _) (by unfold rowD;simp)
 have h4:(fltK g l k).length ≤ (allK g k).length:=List.length_filter_le _ _
 have:=hg.prods
 unfold fltD
 rw [List.length_append]
 omega
set_option maxRecDepth 100000 in
set_option maxHeartbeats 8000000 in
theorem refOfI (g:Gm) (rv nv lv pv v:Value) (l:List It) (w:World) (hV:GmV w rv nv lv pv g) (hb:BndG g) (hg:SndG g) (hl:l.length ≤ 1000000) (hI:Its w v l) :
 Calls Tryz.prog 22 #[gmA rv nv lv pv g.start,v] w fun e w' => ∃ v',e = .returned v' ∧ OwnIt w' w.heap.size v' (ofI g l) ∧ Below w.heap.size w w':=by
 have GS:=hid (fun u (hu:Below w.heap.size w u) p h0 h1 => refSide g _ _ _ _ p u (hV.keep hu) hb h0 h1)
 have GH:=hid (fun u (hu:Below w.heap.size w u) x => refHasI v l x u hl (hI.keep hu))
 obtain ⟨pa,pc,rfl⟩:=hV.prods.shape
 obtain ⟨va,vc,rfl⟩:=hI.shape
 have hB1:=al' w (.cells #[rv,nv,lv,.slice pa g.prods.length pc,.int .i64 g.start] 27)
 have k1:=heap_new w (.cells #[rv,nv,lv,.slice pa g.prods.length pc,.int .i64 g.start] 27)
 obtain ⟨W,hW⟩:∃ x,w.alloc (.cells #[rv,nv,lv,.slice pa g.prods.length pc,.int .i64 g.start] 27) = x:=⟨_,rfl⟩
 rw [hW] at hB1 k1
 have hk1:=hid (fun u (hu:Below W.heap.size W u) => cells5m (hs_keep k1 hu))
 have hB:=hid hB1
 obtain ⟨y0,y1,y2,y3,y4⟩:=hk1.out W (Below.refl _ W)
 have hpp:g.prods.length ≤ 40:=hg.prods
 have hsl:=hid (fun k (hk:k ≤ g.prods.length) => (sidG_len hg (p:=(k:Int) - 1) (by omega):(sidG g ((k:Int) - 1)).length ≤ 8))
 have hz:=hid (fltD_zero g l)
 have hs:=hid (fltD_succ g l)
 have he:=hid (fltD_end g l)
 have hln:=hid (fun k d (hk:k ≤ g.prods.length) hd => fltD_len hg l (k:=k) (d:=d) hk hd)
 have hfin:Hid (fltK g l (g.prods.length + 1) = ofI g l):=hid rfl
 have h00:Hid (OwnIt W W.heap.size (.slice none 0 0) (fltK g l 0)):=hid (World.ownsRow_nil _ _ _ _)
 have b00:=hid (Below.refl W.heap.size W)
 have hss:=hid (fun u B (p:Int) v (hO:Own u B v (sidG g p)) => by
  obtain ⟨a,c,e,-⟩:=Nums.of_row hO
  exact (⟨a,c,e⟩:∃ a c,v = .slice a (sidG g p).length c))
 clear hV hb hg hB1 k1 hI
 rw [← hfin.out]
 clear hfin
 generalize fltK g l = FK at *
 generalize fltD g l = FD at *
 obtain ⟨pp,hp9⟩:∃ n,Hid (g.prods.length = n):=⟨_,hid rfl⟩
 rw [hp9.out] at GS hk1 y3 hpp hW hsl hln ⊢
 generalize l.length = ln at *
 generalize g.start = st at *
 go_enter Tryz.func22,Tryz.ntmps22
 go_wp2
 clear hW y0 y1 y2 y3 y4
 go_loopw [5,6] (fun v p wr => ∃ (k:Nat) (z:Int),k ≤ pp + 1 ∧ Hid (z = (k:Int) - 1) ∧ p = .int .i64 z ∧ Hid (OwnIt wr W.heap.size v (FK k)) ∧ Hid (Below W.heap.size W wr)) (fun _ p _ => (pp:Int).toNat + 1 - (intOf p + 1).toNat)
 case atStart => exact ⟨0,-1,Nat.zero_le _,hid rfl,rfl,h00,b00⟩
 case round =>
  clear h00 b00
  obtain ⟨k,z,hk,hzk,rfl,hO,hbl⟩:=hrel
  obtain ⟨y0,y1,y2,y3,y4⟩:=hk1.out wr hbl.out
  by_cases hlt:k < pp + 1
  · have hltz:z < (pp:Int):=by have:=hzk.out;omega
    have hz1:-1 ≤ z:=by have:=hzk.out;omega
    have hO1:=hid hO.out
    rw [← hz.out k] at hO1
    clear hO
    have hsl1:=hsl.out k (by omega)
    have he1:=hid (he.out k)
    have hss1:=hid (fun u B v => hss.out u B ((k:Int) - 1) v)
    have GS1:=hid (fun u hu => GS.out u hu ((k:Int) - 1) (by omega) (by omega))
    have hs1:=hid (hs.out k)
    have hln1:=hid (fun d => hln.out k d (by omega))
    rw [← hzk.out] at he1 hss1 GS1 hs1 hln1 hsl1
    have hzkH:=hzk
    generalize FD k = FDk at *
    generalize sidG g z = S at *
    obtain ⟨sl,hsl9⟩:∃ n,Hid (S.length = n):=⟨_,hid rfl⟩
    rw [hsl9.out] at he1 hss1 hln1 hsl1
    go_wp2_with (go_at_call 15;refine (GS1.out _ (bl_step hB.out hbl.out)).mono ?_;clear GS1;rintro e w3 ⟨v3,rfl,hO3,hc3⟩;obtain ⟨a3,c3,rfl⟩:=hss1.out _ _ _ hO3;clear hO3;have h3:=hid (bl_step hbl.out hc3);have hO2:=hid (own_below hO1.out hc3);clear hc3 hO1 y0 y1 y2 y3 y4)
    clear hbl
    go_loopw [5,8] (fun v d wr => ∃ d':Nat,d' ≤ sl + 1 ∧ d = .int .i64 (d':Int) ∧ Hid (OwnIt wr W.heap.size v (FDk d')) ∧ Hid (Below W.heap.size W wr)) (fun _ d _ => sl + 1 - (intOf d).toNat)
    case atStart => exact ⟨0,Nat.zero_le _,rfl,hO2,h3⟩
    case round =>
     clear hO2 h3
     obtain ⟨d,hd,rfl,hO,hbl⟩:=hrel
     by_cases hld:d ≤ sl
     · have hldz:(d:Int) ≤ (sl:Int):=by omega
       have G:=hid (GH.out wr (bl_step hB.out hbl.out) (z,(d:Int)))
       have hs2:=hid (hs1.out d)
       have hl2:=hid (hln1.out d (by omega))
       cases hc:l.contains (z,(d:Int)) with
       | true =>
        rw [hc] at G
        have hs3:Hid (FDk (d + 1) = FDk d ++ [(z,(d:Int))]):=hid (by have:=hs2.out;rw [hc,if_pos rfl] at this;exact this)
        clear hs2 hc
        go_wp2_with (first
         | (go_at_call 23;refine G.out.mono ?_;clear G;rintro e w4 ⟨rfl,hc4⟩;have hal:=al' w4 (.cells #[.int .i64 z,.int .i64 (d:Int)] 29);have hOa:=hid (own_below (own_below hO.out hc4) hal);have hDa:=hid (Its.lit1 w4 z (d:Int));have hBa:=hid (bl_step (bl_step hbl.out hc4) hal);clear hc4 hO hal)
         | (at_builtin;refine wp_appI _ rfl _ _ rfl W.heap.size (FDk d) [(z,(d:Int))] _ _ rfl rfl hOa.out hDa.out (by have:=hl2.out;simp;omega) hBa.out.size ?_;intro v5 w5 hO5 hb5;have hO9:=hid hO5;have hb9:=hid (hBa.out.trans hb5);clear hO5 hb5))
        go_roundw
        case rel => exact ⟨d + 1,by omega,by go_num,hid (by rw [hs3.out];exact hO9.out),hb9⟩
        case measure => simp [intOf];omega
       | false =>
        rw [hc] at G
        have hs3:Hid (FDk (d + 1) = FDk d):=hid (by have:=hs2.out;rw [hc,if_neg (by decide),List.append_nil] at this;exact this)
        have hO9:=hid hO.out
        rw [← hs3.out] at hO9
        clear hO hs2 hc
        go_wp2_with (go_at_call 23;refine G.out.mono ?_;clear G;rintro e w4 ⟨rfl,hc4⟩;have hO4:=hid (own_below hO9.out hc4);have h4:=hid (bl_step hbl.out hc4);clear hc4 hO9)
        go_roundw
        case rel => exact ⟨d + 1,by omega,by go_num,hO4,h4⟩
        case measure => simp [intOf];omega
     · have hldz:¬ (d:Int) ≤ (sl:Int):=by omega
       obtain rfl:d = sl + 1:=by omega
       have hO9:=hid hO.out
       rw [he1.out] at hO9
       clear hO
       go_wp2
       go_roundw
       case rel => exact ⟨k + 1,z + 1,by omega,hid (by have:=hzk.out;omega),by go_num,hO9,hbl⟩
       case measure => simp [intOf];omega
  · have hltz:¬ z < (pp:Int):=by have:=hzk.out;omega
    obtain rfl:k = pp + 1:=by omega
    go_wp2
    go_ret
    exact ⟨_,rfl,own_base hO.out hB.out.size,bl_step hB.out hbl.out⟩
end Go.Proofs.YtbpnioehmohbcaaGreat
