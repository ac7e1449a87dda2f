/- What the five laws of layer 17 share, part 16: no statement of its own. -/
import Derived.Test.YtjgedijclkoemaaGreatDoorJ15
namespace Go.Proofs.YtjgedijclkoemaaGreatDoor
open Go.RowKit Go.Maps Go.Sort
theorem a1H (g:Gm):a0G g=true↔(∀ r∈g.rules,v_ r.re=true)∧(∀ t∈g.allN,a0V t=true)∧g.allN.Nodup:=by
 unfold a0G;simp only [Bool.and_eq_true,List.all_eq_true,decide_eq_true_eq]
noncomputable def a1q (g:Gm):Bool:=open Classical in decide (SndG g)
theorem Q_ {g:Gm} (h:¬ SndG g):a1q g=false:=by unfold a1q;exact @decide_eq_false _ (Classical.propDecidable _) h
theorem a2P {g:Gm} (h:SndG g):a1q g=true:=by unfold a1q;exact @decide_eq_true _ (Classical.propDecidable _) h
theorem c1P {i:Nat} {l:Int×Int} (h1:¬ (l.1=0∧l.2=0)) (h2:¬ (0<l.1∧0<l.2∧l.2<4∧i≠0)):lvB i l=false:=by
 rw [Bool.eq_false_iff];intro h;unfold lvB at h;simp only [Bool.or_eq_true,Bool.and_eq_true,decide_eq_true_eq] at h;rcases h with h | h
 · exact h1 h
 · exact h2 ⟨h.1.1.1,h.1.1.2,h.1.2,h.2⟩
theorem b9H {i:Nat} {l:Int×Int} (h:(l.1=0∧l.2=0)∨(0<l.1∧0<l.2∧l.2<4∧i≠0)):lvB i l=true:=by
 unfold lvB;simp only [Bool.or_eq_true,Bool.and_eq_true,decide_eq_true_eq];rcases h with h | h
 · exact .inl h
 · exact .inr ⟨⟨⟨h.1,h.2.1⟩,h.2.2.1⟩,h.2.2.2⟩
theorem b2U (g:Gm) (p:Pd):((p.left≤(g.terms:Int)∨(g.all:Int)<p.left∨8<p.right.length∨p.prec<0∨(g.terms:Int)<p.prec∨∃ j,∃ hj:j<p.right.length,p.right[j]<1∨(g.all:Int)<p.right[j])→pdB g p=false) ∧
 (¬ p.left≤(g.terms:Int)→¬ (g.all:Int)<p.left→¬ 8<p.right.length→¬ p.prec<0→¬ (g.terms:Int)<p.prec→(∀ j (hj:j<p.right.length),1≤p.right[j]∧p.right[j]≤(g.all:Int))→pdB g p=true):=by
 refine ⟨fun h=>?_,fun h1 h2 h3 h4 h5 h6=>?_⟩
 · rw [Bool.eq_false_iff]
   intro hp;unfold pdB at hp;simp only [Bool.and_eq_true,decide_eq_true_eq,List.all_eq_true] at hp;obtain ⟨⟨⟨⟨⟨p1,p2⟩,p3⟩,p4⟩,p5⟩,p6⟩:=hp;rcases h with h | h | h | h | h | ⟨j,hj,h⟩
   · omega
   · omega
   · omega
   · omega
   · omega
   · have:=p6 _ (List.getElem_mem hj)
     omega
 · unfold pdB
   simp only [Bool.and_eq_true,decide_eq_true_eq,List.all_eq_true];refine ⟨⟨⟨⟨⟨by omega,by omega⟩,by omega⟩,by omega⟩,by omega⟩,fun k hk=>?_⟩;obtain ⟨j,hj,rfl⟩:=List.getElem_of_mem hk;exact h6 j hj
theorem a9b {w:World} {b t:Nat} {x0 x1 x2:Value} (h:w.heap[b]?=some (.cells #[x0,x1,x2] t (0,0))):w.cell? ⟨b,0,none⟩=some x0∧w.cell? ⟨b,1,none⟩=some x1∧w.cell? ⟨b,2,none⟩=some x2:=⟨c_ h rfl,c_ h rfl,c_ h rfl⟩
set_option maxRecDepth 20000 in
set_option maxHeartbeats 16000000 in
theorem b5R (g:Gm) (rv nv lv pv:Value) (w:World) (hV:GmV w rv nv lv pv g) (hb:BndG g) (hnl:∀ t∈g.allN,t.length≤1000000) :
 Calls Tryz.prog 50 #[gmA rv nv lv pv g.start] w fun e w'=>e=.returned (.bool (a1q g))∧Below w.heap.size w w':=by
 obtain ⟨ra,rc,rfl⟩:=hV.rules.shape;obtain ⟨na,nc,rfl⟩:=hV.nonts.shape;obtain ⟨la,lc,rfl⟩:=hV.levels.shape;obtain ⟨pa,pc,rfl⟩:=hV.prods.shape;have hB1:=al' w (.cells #[.slice ra g.rules.length rc,.slice na g.nonts.length nc,.slice la g.levels.length lc,.slice pa g.prods.length pc,.int .i64 g.start] 27);have k1:=b_ w (.cells #[.slice ra g.rules.length rc,.slice na g.nonts.length nc,.slice la g.levels.length lc,.slice pa g.prods.length pc,.int .i64 g.start] 27);obtain ⟨W,hW⟩:∃ x,w.alloc (.cells #[.slice ra g.rules.length rc,.slice na g.nonts.length nc,.slice la g.levels.length lc,.slice pa g.prods.length pc,.int .i64 g.start] 27)=x:=⟨_,rfl⟩;rw [hW] at hB1 k1;have hk1:=hid (fun u (hu:Below W.heap.size W u)=>l_ (g_ k1 hu));have hB:=hid hB1;have b1:=hb.rules;have b2:=hb.nonts;have b3:=hb.levels;have b4:=hb.prods
 have hKl:Hid (∀ u,Below w.heap.size w u→∀ k (hk:k<g.levels.length),∃ b o,la=some ⟨b,o,none⟩∧u.cell? ⟨b,o+k * 2,none⟩=some (.int .i64 g.levels[k].1)∧u.cell? ⟨b,o+k * 2+1,none⟩=some (.int .i64 g.levels[k].2)):=hid (fun u hu k hk=>by
  obtain ⟨b,o,e,-,hx⟩:=(hV.keep hu).levels.at hk;exact ⟨b,o,e,hx.1,hx.2⟩)
 have hKp:Hid (∀ u,Below w.heap.size w u→∀ k (hk:k<g.prods.length),∃ b o q1 q3,pa=some ⟨b,o,none⟩∧u.cell? ⟨b,o+k * 3,none⟩=some (.int .i64 g.prods[k].left)∧u.cell? ⟨b,o+k * 3+1,none⟩=some (.slice q1 g.prods[k].right.length q3)∧u.cell? ⟨b,o+k * 3+2,none⟩=some (.int .i64 g.prods[k].prec)∧Nums u (.slice q1 g.prods[k].right.length q3) g.prods[k].right):=hid (fun u hu k hk=>by
  obtain ⟨b,o,e,-,hx⟩:=(hV.keep hu).prods.at hk;obtain ⟨v,x0,x1,x2,hN⟩:=hx;have hN2:=hN;obtain ⟨q1,q3,rfl,_⟩:=hN2;exact ⟨b,o,q1,q3,e,x0,x1,x2,hN⟩)
 have GM:=hid (fun u (hu:Below w.heap.size w u)=>c1L g _ _ _ _ u (hV.keep hu) b1 b2 hnl);have GT:=hid (fun u (hu:Below w.heap.size w u)=>a4h _ _ _ _ g u (hV.keep hu) (by omega));have hall:Hid ((g.all:Int)=(g.terms:Int)+(g.nonts.length:Int)):=hid (by unfold Gm.all;omega);have btm:g.terms≤1000:=Nat.le_trans (a0d _ _) b1;have f1:=hid (fun (h:16<g.rules.length)=>Q_ (g:=g) (fun hs=>by have:=hs.rules;omega));have f2:=hid (fun (h:16<g.nonts.length)=>Q_ (g:=g) (fun hs=>by have:=hs.nonts;omega));have f3:=hid (fun (h:40<g.prods.length)=>Q_ (g:=g) (fun hs=>by have:=hs.prods;omega))
 have f4:=hid (fun (h:a0G g=false)=>Q_ (g:=g) (fun hs=>by
  have:=(a1H g).2 ⟨hs.right,hs.named,hs.once⟩
  rw [h] at this;cases this))
 have f5:=hid (fun (h:g.levels.length≠g.terms+1)=>Q_ (g:=g) (fun hs=>h hs.levels))
 have f6:=hid (fun k (hk:k<g.levels.length) (h:lvB k g.levels[k]=false)=>Q_ (g:=g) (fun hs=>by
  have:=hs.lev k hk
  rw [h] at this;cases this))
 have f7:=hid (fun (h0:g.nonts.length=0) (h:g.start≠0)=>Q_ (g:=g) (fun hs=>h (hs.none h0)));have f8:=hid (fun (h0:0<g.nonts.length) (h:¬ ((g.terms:Int)<g.start∧g.start≤(g.all:Int)))=>Q_ (g:=g) (fun hs=>h (hs.start h0)))
 have hfp:=hid (fun k (hk:k<g.prods.length) (h:pdB g g.prods[k]=false)=>Q_ (g:=g) (fun hs=>by
  have:=hs.prod _ (List.getElem_mem hk)
  rw [h] at this;cases this))
 have fy:=hid (fun (h1:¬ 16<g.rules.length) (h2:¬ 16<g.nonts.length) (h3:¬ 40<g.prods.length) (h4:a0G g=true) (h5:g.levels.length=g.terms+1) (h6:∀ k (hk:k<g.levels.length),lvB k g.levels[k]=true) (h7:g.nonts.length=0→g.start=0) (h8:0<g.nonts.length→(g.terms:Int)<g.start∧g.start≤(g.all:Int)) (h9:∀ k (hk:k<g.prods.length),pdB g g.prods[k]=true)=>a2P (g:=g) ⟨by omega,by omega,by omega,((a1H g).1 h4).1,((a1H g).1 h4).2.1,((a1H g).1 h4).2.2,h5,h6,h7,h8,fun p hp=>by
  obtain ⟨k,hk,rfl⟩:=List.getElem_of_mem hp;exact h9 k hk⟩)
 clear hV hb hB1 k1 hnl;generalize a1q g=R at *;obtain ⟨y0,y1,y2,y3,y4⟩:=hk1.out W (Below.refl _ _);obtain ⟨rn,hrn⟩:∃ n,Hid (g.rules.length=n):=⟨_,hid rfl⟩;obtain ⟨nn,hnn⟩:∃ n,Hid (g.nonts.length=n):=⟨_,hid rfl⟩;obtain ⟨ll,hll⟩:∃ n,Hid (g.levels.length=n):=⟨_,hid rfl⟩;obtain ⟨pp,hpp⟩:∃ n,Hid (g.prods.length=n):=⟨_,hid rfl⟩;obtain ⟨tm,htm⟩:∃ n,Hid (g.terms=n):=⟨_,hid rfl⟩;rw [hrn.out] at b1 hk1 GM GT hW f1 fy y0 ⊢;rw [hnn.out] at b2 hk1 GM GT hW f2 f7 f8 fy hall y1 ⊢;rw [hll.out] at b3 hk1 GM GT hW f5 y2 ⊢;rw [hpp.out] at b4 hk1 GM GT hW f3 y3 ⊢;rw [htm.out] at f5 f8 hall btm GT;have hpd0:Hid (∀ p,((p.left≤(tm:Int)∨(g.all:Int)<p.left∨8<p.right.length∨p.prec<0∨(tm:Int)<p.prec∨∃ j,∃ hj:j<p.right.length,p.right[j]<1∨(g.all:Int)<p.right[j])→pdB g p=false)∧(¬ p.left≤(tm:Int)→¬ (g.all:Int)<p.left→¬ 8<p.right.length→¬ p.prec<0→¬ (tm:Int)<p.prec→(∀ j (hj:j<p.right.length),1≤p.right[j]∧p.right[j]≤(g.all:Int))→pdB g p=true)):=hid (fun p=>by have:=b2U g p;rw [htm.out] at this;exact this);by_cases c1:(16:Int)<(rn:Int)
 · obtain rfl:=f1.out (by omega)
   clear GM GT f2 f3 f4 f5 f6 f7 f8 hfp fy;generalize g.start=st at *;go_enter Tryz.func50,Tryz.ntmps50
   go_wp2;go_ret;exact ⟨rfl,hB.out⟩
 by_cases c2:(16:Int)<(nn:Int)
 · obtain rfl:=f2.out (by omega)
   clear GM GT f1 f3 f4 f5 f6 f7 f8 hfp fy;generalize g.start=st at *;go_enter Tryz.func50,Tryz.ntmps50
   go_wp2;go_ret;exact ⟨rfl,hB.out⟩
 by_cases c3:(40:Int)<(pp:Int)
 · obtain rfl:=f3.out (by omega)
   clear GM GT f1 f2 f4 f5 f6 f7 f8 hfp fy;generalize g.start=st at *;go_enter Tryz.func50,Tryz.ntmps50
   go_wp2;go_ret;exact ⟨rfl,hB.out⟩
 have G1:=hid (GM.out W hB.out);cases hnm:a0G g with
 | false =>
  obtain rfl:=f4.out hnm;rw [hnm] at G1;clear GM GT f1 f2 f3 f5 f6 f7 f8 hfp fy hnm f4;generalize g.start=st at *;go_enter Tryz.func50,Tryz.ntmps50
  go_wp2_with (go_at_call 74;refine G1.out.mono ?_;clear G1;rintro e w1 ⟨rfl,hc1⟩;have hc1:=hid hc1)
  go_ret;exact ⟨rfl,a_ hB.out hc1.out⟩
 | true =>
  rw [hnm] at G1;have fy1:=hid (fun h5 h6 h7 h8 h9=>fy.out (by omega) (by have:=hnn.out;omega) (by have:=hpp.out;omega) hnm h5 h6 h7 h8 h9);have GT1:=hid (fun u (hu:Below W.heap.size W u)=>GT.out u (a_ hB.out hu));clear GM GT f1 f2 f3 f4 fy hnm;by_cases c5:ll=tm+1
  · have c5z:((ll:Int) != (tm:Int)+1)=false:=by rw [c5];simp
    have c5H:=hid c5;clear c5;have hst:=hid (rfl:g.start=g.start);clear hst;generalize hgs:g.start=st at *;have hgs:=hid hgs;go_enter Tryz.func50,Tryz.ntmps50
    go_wp2_with (first
     | (go_at_call 74;refine G1.out.mono ?_;clear G1;rintro e w1 ⟨rfl,hc1⟩;have hc1:=hid hc1;obtain ⟨x0,x1,x2,x3,x4⟩:=hk1.out w1 hc1.out)
     | (go_at_call 18;refine (GT1.out w1 hc1.out).mono ?_;clear GT1;rintro e w2 ⟨rfl,hc2⟩;have hc2:=hid (a_ hc1.out hc2);obtain ⟨z0,z1,z2,z3,z4⟩:=hk1.out w2 hc2.out))
    clear c5z hW y0 y1 y2 y3 y4 x0 x1 x2 x3 x4 z0 z1 z2 z3 z4 c1 c3;generalize hal:(tm:Int)+(nn:Int)=al at *;have hal:=hid hal;go_loopw [5] (fun i wr=>∃ k:Nat,k≤ll∧i=.int .i64 (k:Int)∧Hid (∀ j (hj:j<g.levels.length),j<k→lvB j g.levels[j]=true)∧Hid (Below W.heap.size W wr)) (fun i _=>ll - (intOf i).toNat)
    case atStart=>exact ⟨0,Nat.zero_le _,rfl,hid (fun _ _ h=>absurd h (Nat.not_lt_zero _)),hc2⟩
    case round =>
     clear hc1 hc2;obtain ⟨k,hk,rfl,hq,hbl⟩:=hrel;have hbw:=hid (a_ hB.out hbl.out);obtain ⟨y0,y1,y2,y3,y4⟩:=hk1.out wr hbl.out;by_cases hlt:k<ll
     · have hltz:(k:Int)<(ll:Int):=by omega
       have hkl:k<g.levels.length:=by rw [hll.out];exact hlt
       obtain ⟨b,o,e,x0,x1⟩:=hKl.out wr hbw.out k hkl;subst e;have hno:=hid (fun h1 h2=>f6.out k hkl (c1P h1 h2))
       have hok:=hid (fun (h:(g.levels[k].1=0∧g.levels[k].2=0)∨(0<g.levels[k].1∧0<g.levels[k].2∧g.levels[k].2<4∧k≠0))=>(fun j hj h9=>by
        rcases Nat.lt_or_ge j k with h8 | h8
        · exact hq.out j hj h8
        · obtain rfl:j=k:=by omega
          exact b9H h:∀ j (hj:j<g.levels.length),j<k+1→lvB j g.levels[j]=true))
       have hb1:=hid (a_ hbl.out (al' wr (.cells #[.int .i64 g.levels[k].1,.int .i64 g.levels[k].2] 143)));clear hq;generalize g.levels[k]=lx at *;obtain ⟨p,d⟩:=lx;dsimp only at *;by_cases a1:p=0
       · have a1z:(p == 0)=true:=by rw [a1];rfl
         by_cases a2:d=0
         · have a2z:(d == 0)=true:=by rw [a2];rfl
           have a3:¬ 0<p:=by omega
           have hq9:=hid (hok.out (.inl ⟨a1,a2⟩));clear hok hno a1 a2;go_wp2;go_roundw
           case rel=>exact ⟨k+1,by omega,by go_num,hq9,hb1⟩
           case measure=>simp [intOf];omega
         · have a2z:(d == 0)=false:=by rw [beq_eq_false_iff_ne];exact a2
           have a3:¬ 0<p:=by omega
           obtain rfl:=hno.out (fun h=>a2 h.2) (fun h=>a3 h.1);clear hok hno a1 a2;go_wp2;go_ret;exact ⟨rfl,a_ hB.out hb1.out⟩
       have a1z:(p == 0)=false:=by rw [beq_eq_false_iff_ne];exact a1
       by_cases a3:0<p
       · by_cases a4:0<d
         · by_cases a5:d<4
           · rcases Nat.eq_zero_or_pos k with a6 | a6
             · have a6z:((k:Int) == 0)=true:=by rw [a6];rfl
               obtain rfl:=hno.out (fun h=>a1 h.1) (fun h=>h.2.2.2 a6);clear hok hno a1 a6;go_wp2;go_ret;exact ⟨rfl,a_ hB.out hb1.out⟩
             · have a6z:((k:Int) == 0)=false:=by rw [beq_eq_false_iff_ne];omega
               have hq9:=hid (hok.out (.inr ⟨a3,a4,a5,by omega⟩));clear hok hno a1;go_wp2;go_roundw
               case rel=>exact ⟨k+1,by omega,by go_num,hq9,hb1⟩
               case measure=>simp [intOf];omega
           · obtain rfl:=hno.out (fun h=>a1 h.1) (fun h=>a5 h.2.2.1)
             clear hok hno a1;go_wp2;go_ret;exact ⟨rfl,a_ hB.out hb1.out⟩
         · obtain rfl:=hno.out (fun h=>a1 h.1) (fun h=>a4 h.2.1)
           clear hok hno a1;go_wp2;go_ret;exact ⟨rfl,a_ hB.out hb1.out⟩
       · obtain rfl:=hno.out (fun h=>a1 h.1) (fun h=>a3 h.1)
         clear hok hno a1;go_wp2;go_ret;exact ⟨rfl,a_ hB.out hb1.out⟩
     · have hltz:¬ (k:Int)<(ll:Int):=by omega
       have fy2:=hid (fun h7 h8 h9=>fy1.out (by rw [hll.out,htm.out];exact c5H.out) (fun j hj=>hq.out j hj (by rw [hll.out] at hj;omega)) h7 h8 h9);clear hq fy1 f6 f5;rcases Nat.eq_zero_or_pos nn with n0 | n0
       · have n0z:((nn:Int) == 0)=true:=by rw [n0];rfl
         have n0y:¬ (0:Int)<(nn:Int):=by omega
         by_cases s0:st=0
         · have s0z:(st != 0)=false:=by rw [s0];rfl
           have hfin:=hid (fun h9=>fy2.out (fun _=>s0) (fun h=>absurd h (by omega)) h9);clear fy2 f7 f8 s0 n0;go_wp2;clear hltz hlt hk hbw y0 y1 y2 y3 y4 s0z n0z n0y;go_loopw [9] (fun i wr=>∃ k:Nat,k≤pp∧i=.int .i64 (k:Int)∧Hid (∀ j (hj:j<g.prods.length),j<k→pdB g g.prods[j]=true)∧Hid (Below W.heap.size W wr)) (fun i _=>pp - (intOf i).toNat)
           case atStart=>exact ⟨0,Nat.zero_le _,rfl,hid (fun _ _ h=>absurd h (Nat.not_lt_zero _)),hbl⟩
           case round =>
            clear hbl;obtain ⟨k,hk,rfl,hq,hbl⟩:=hrel;have hbw:=hid (a_ hB.out hbl.out);obtain ⟨y0,y1,y2,y3,y4⟩:=hk1.out wr hbl.out;by_cases hlt:k<pp
            · have hltz:(k:Int)<(pp:Int):=by omega
              have hkl:k<g.prods.length:=by rw [hpp.out];exact hlt
              obtain ⟨b,o,q1,q3,e,x0,x1,x2,hN⟩:=hKp.out wr hbw.out k hkl;subst e;have hf9:=hid (fun h=>hfp.out k hkl h);have hpd:=hid (hpd0.out g.prods[k])
              have hmore:Hid (pdB g g.prods[k]=true→∀ j (hj:j<g.prods.length),j<k+1→pdB g g.prods[j]=true):=hid (fun h j hj h9=>by
               rcases Nat.lt_or_ge j k with h8 | h8
               · exact hq.out j hj h8
               · obtain rfl:j=k:=by omega
                 exact h)
              have hal:=al' wr (.cells #[.int .i64 g.prods[k].left,.slice q1 g.prods[k].right.length q3,.int .i64 g.prods[k].prec] 64);obtain ⟨u0,u1,u2⟩:=a9b (b_ wr (.cells #[.int .i64 g.prods[k].left,.slice q1 g.prods[k].right.length q3,.int .i64 g.prods[k].prec] 64));have hb1:=hid (a_ hbl.out hal);have hbx:Hid (∀ u,Below (wr.alloc (.cells #[.int .i64 g.prods[k].left,.slice q1 g.prods[k].right.length q3,.int .i64 g.prods[k].prec] 64)).heap.size (wr.alloc (.cells #[.int .i64 g.prods[k].left,.slice q1 g.prods[k].right.length q3,.int .i64 g.prods[k].prec] 64)) u→u.cell? ⟨wr.heap.size,1,none⟩=some (.slice q1 g.prods[k].right.length q3)):=hid (fun u hu=>d_ hu u1);have hNk:=hid (fun u hu=>hN.keep (w':=u) (a_ hal hu));obtain ⟨W3,hW3⟩:∃ x,wr.alloc (.cells #[.int .i64 g.prods[k].left,.slice q1 g.prods[k].right.length q3,.int .i64 g.prods[k].prec] 64)=x:=⟨_,rfl⟩;rw [hW3] at hb1 u0 u1 u2 hbx hNk;clear hq hal hN;obtain ⟨rl,hrl⟩:∃ n,Hid (g.prods[k].right.length=n):=⟨_,hid rfl⟩;rw [hrl.out] at x1 u1 hW3 hbx hNk;generalize g.prods[k].left=xl at *;generalize g.prods[k].prec=xp at *;by_cases c1:xl≤(tm:Int)
              · obtain rfl:=hf9.out (hpd.out.1 (.inl c1))
                clear hmore hf9 hpd hNk hbx;go_wp2;go_ret;exact ⟨rfl,a_ hB.out hb1.out⟩
              by_cases c2:al<xl
              · obtain rfl:=hf9.out (hpd.out.1 (.inr (.inl (by have:=hall.out;omega))))
                clear hmore hf9 hpd hNk hbx;go_wp2;go_ret;exact ⟨rfl,a_ hB.out hb1.out⟩
              have c1b:decide (xl≤(tm:Int))=false:=decide_eq_false c1;have c2b:decide (al<xl)=false:=decide_eq_false c2;have c12:=hid (⟨c1,c2⟩:¬ xl≤(tm:Int)∧¬ al<xl);clear c1 c2;by_cases c3:(8:Int)<(rl:Int)
              · obtain rfl:=hf9.out (hpd.out.1 (.inr (.inr (.inl (by have:=hrl.out;omega)))))
                clear hmore hf9 hpd hNk hbx;go_wp2;go_ret;exact ⟨rfl,a_ hB.out hb1.out⟩
              by_cases c4:xp<0
              · obtain rfl:=hf9.out (hpd.out.1 (.inr (.inr (.inr (.inl c4)))))
                clear hmore hf9 hpd hNk hbx;go_wp2;go_ret;exact ⟨rfl,a_ hB.out hb1.out⟩
              by_cases c5:(tm:Int)<xp
              · obtain rfl:=hf9.out (hpd.out.1 (.inr (.inr (.inr (.inr (.inl c5))))))
                clear hmore hf9 hpd hNk hbx;go_wp2;go_ret;exact ⟨rfl,a_ hB.out hb1.out⟩
              have hok:=hid (fun h=>hmore.out (hpd.out.2 (by have:=c12.out;omega) (by have:=c12.out;have:=hall.out;omega) (by have:=hrl.out;omega) (by omega) (by omega) h));have hno:=hid (fun j (hj:j<g.prods[k].right.length) h=>hf9.out (hpd.out.1 (.inr (.inr (.inr (.inr (.inr ⟨j,hj,h⟩)))))));clear hmore hf9 hpd;go_wp2;clear c1b c2b c12 c4 c5 x0 x1 x2 u0 u1 u2 hltz y0 y1 y2 y3 y4 hW3;go_loopw [11] (fun i wr=>∃ m:Nat,m≤rl∧i=.int .i64 (m:Int)∧Hid (∀ j (hj:j<g.prods[k].right.length),j<m→1≤g.prods[k].right[j]∧g.prods[k].right[j]≤(g.all:Int))∧Hid (Below W3.heap.size W3 wr)) (fun i _=>rl - (intOf i).toNat)
              case atStart=>exact ⟨0,Nat.zero_le _,rfl,hid (fun _ _ h=>absurd h (Nat.not_lt_zero _)),hid (Below.refl _ _)⟩
              case round =>
               obtain ⟨m,hm,rfl,hq,hbm⟩:=hrel;have z1:=hbx.out _ hbm.out;have hbz:=hid (a_ hb1.out hbm.out);by_cases hlm:m<rl
               · have hlmz:(m:Int)<(rl:Int):=by omega
                 have hml:m<g.prods[k].right.length:=by rw [hrl.out];exact hlm
                 obtain ⟨a',c',e,-,-,hat⟩:=hNk.out _ hbm.out;injection e with e _ _;subst e;obtain ⟨b2,o2,e2,hb2,hx2⟩:=hat m hml;subst e2;have hno9:=hid (fun h=>hno.out m hml h)
                 have hq9:Hid (1≤g.prods[k].right[m]∧g.prods[k].right[m]≤(g.all:Int)→∀ j (hj:j<g.prods[k].right.length),j<m+1→1≤g.prods[k].right[j]∧g.prods[k].right[j]≤(g.all:Int)):=hid (fun h j hj h9=>by
                  rcases Nat.lt_or_ge j m with h8 | h8
                  · exact hq.out j hj h8
                  · obtain rfl:j=m:=by omega
                    exact h)
                 clear hat hb2 hq;generalize g.prods[k].right[m]=x at *;by_cases d1:x<1
                 · obtain rfl:=hno9.out (.inl d1)
                   clear hq9 hno9;go_wp2;go_ret;exact ⟨rfl,a_ hB.out hbz.out⟩
                 by_cases d2:al<x
                 · obtain rfl:=hno9.out (.inr (by have:=hall.out;omega))
                   clear hq9 hno9;go_wp2;go_ret;exact ⟨rfl,a_ hB.out hbz.out⟩
                 have hq8:=hid (hq9.out ⟨by omega,by have:=hall.out;omega⟩);clear hq9 hno9;go_wp2;go_roundw
                 case rel=>exact ⟨m+1,by omega,by go_num,hq8,hid (by first | exact hbm.out | exact q_ hbm.out)⟩
                 case measure=>simp [intOf];omega
               · have hlmz:¬ (m:Int)<(rl:Int):=by omega
                 have hq8:=hid (hok.out (fun j hj=>hq.out j hj (by rw [hrl.out] at hj;omega)));clear hq;go_wp2;go_roundw
                 case rel=>exact ⟨k+1,by omega,by go_num,hq8,hbz⟩
                 case measure=>simp [intOf];omega
            · have hltz:¬ (k:Int)<(pp:Int):=by omega
              obtain rfl:=hfin.out (fun j hj=>hq.out j hj (by rw [hpp.out] at hj;omega));clear hq;go_wp2;go_ret;exact ⟨rfl,a_ hB.out hbl.out⟩
         · have s0z:(st != 0)=true:=bne_iff_ne.2 s0
           obtain rfl:=f7.out n0 s0;clear fy2 f8 f7 s0 n0;go_wp2;go_ret;exact ⟨rfl,hbw.out⟩
       · have n0z:((nn:Int) == 0)=false:=by rw [beq_eq_false_iff_ne];omega
         have n0y:(0:Int)<(nn:Int):=by omega
         by_cases s1:st≤(tm:Int)
         · obtain rfl:=f8.out n0 (fun h=>by have:=h.1;omega)
           clear fy2 f7 f8;go_wp2;go_ret;exact ⟨rfl,hbw.out⟩
         by_cases s2:al<st
         · obtain rfl:=f8.out n0 (fun h=>by have:=h.2;have:=hall.out;omega)
           clear fy2 f7 f8;go_wp2;go_ret;exact ⟨rfl,hbw.out⟩
         have hfin:=hid (fun h9=>fy2.out (fun h=>absurd h (by omega)) (fun _=>⟨by have:=htm.out;omega,by have:=hall.out;omega⟩) h9);clear fy2 f7 f8;go_wp2;clear hltz hlt hk hbw y0 y1 y2 y3 y4 s1 s2 n0z n0y;go_loopw [9] (fun i wr=>∃ k:Nat,k≤pp∧i=.int .i64 (k:Int)∧Hid (∀ j (hj:j<g.prods.length),j<k→pdB g g.prods[j]=true)∧Hid (Below W.heap.size W wr)) (fun i _=>pp - (intOf i).toNat)
         case atStart=>exact ⟨0,Nat.zero_le _,rfl,hid (fun _ _ h=>absurd h (Nat.not_lt_zero _)),hbl⟩
         case round =>
          clear hbl;obtain ⟨k,hk,rfl,hq,hbl⟩:=hrel;have hbw:=hid (a_ hB.out hbl.out);obtain ⟨y0,y1,y2,y3,y4⟩:=hk1.out wr hbl.out;by_cases hlt:k<pp
          · have hltz:(k:Int)<(pp:Int):=by omega
            have hkl:k<g.prods.length:=by rw [hpp.out];exact hlt
            obtain ⟨b,o,q1,q3,e,x0,x1,x2,hN⟩:=hKp.out wr hbw.out k hkl;subst e;have hf9:=hid (fun h=>hfp.out k hkl h);have hpd:=hid (hpd0.out g.prods[k])
            have hmore:Hid (pdB g g.prods[k]=true→∀ j (hj:j<g.prods.length),j<k+1→pdB g g.prods[j]=true):=hid (fun h j hj h9=>by
             rcases Nat.lt_or_ge j k with h8 | h8
             · exact hq.out j hj h8
             · obtain rfl:j=k:=by omega
               exact h)
            have hal:=al' wr (.cells #[.int .i64 g.prods[k].left,.slice q1 g.prods[k].right.length q3,.int .i64 g.prods[k].prec] 64);obtain ⟨u0,u1,u2⟩:=a9b (b_ wr (.cells #[.int .i64 g.prods[k].left,.slice q1 g.prods[k].right.length q3,.int .i64 g.prods[k].prec] 64));have hb1:=hid (a_ hbl.out hal);have hbx:Hid (∀ u,Below (wr.alloc (.cells #[.int .i64 g.prods[k].left,.slice q1 g.prods[k].right.length q3,.int .i64 g.prods[k].prec] 64)).heap.size (wr.alloc (.cells #[.int .i64 g.prods[k].left,.slice q1 g.prods[k].right.length q3,.int .i64 g.prods[k].prec] 64)) u→u.cell? ⟨wr.heap.size,1,none⟩=some (.slice q1 g.prods[k].right.length q3)):=hid (fun u hu=>d_ hu u1);have hNk:=hid (fun u hu=>hN.keep (w':=u) (a_ hal hu));obtain ⟨W3,hW3⟩:∃ x,wr.alloc (.cells #[.int .i64 g.prods[k].left,.slice q1 g.prods[k].right.length q3,.int .i64 g.prods[k].prec] 64)=x:=⟨_,rfl⟩;rw [hW3] at hb1 u0 u1 u2 hbx hNk;clear hq hal hN;obtain ⟨rl,hrl⟩:∃ n,Hid (g.prods[k].right.length=n):=⟨_,hid rfl⟩;rw [hrl.out] at x1 u1 hW3 hbx hNk;generalize g.prods[k].left=xl at *;generalize g.prods[k].prec=xp at *;by_cases c1:xl≤(tm:Int)
            · obtain rfl:=hf9.out (hpd.out.1 (.inl c1))
              clear hmore hf9 hpd hNk hbx;go_wp2;go_ret;exact ⟨rfl,a_ hB.out hb1.out⟩
            by_cases c2:al<xl
            · obtain rfl:=hf9.out (hpd.out.1 (.inr (.inl (by have:=hall.out;omega))))
              clear hmore hf9 hpd hNk hbx;go_wp2;go_ret;exact ⟨rfl,a_ hB.out hb1.out⟩
            have c1b:decide (xl≤(tm:Int))=false:=decide_eq_false c1;have c2b:decide (al<xl)=false:=decide_eq_false c2;have c12:=hid (⟨c1,c2⟩:¬ xl≤(tm:Int)∧¬ al<xl);clear c1 c2;by_cases c3:(8:Int)<(rl:Int)
            · obtain rfl:=hf9.out (hpd.out.1 (.inr (.inr (.inl (by have:=hrl.out;omega)))))
              clear hmore hf9 hpd hNk hbx;go_wp2;go_ret;exact ⟨rfl,a_ hB.out hb1.out⟩
            by_cases c4:xp<0
            · obtain rfl:=hf9.out (hpd.out.1 (.inr (.inr (.inr (.inl c4)))))
              clear hmore hf9 hpd hNk hbx;go_wp2;go_ret;exact ⟨rfl,a_ hB.out hb1.out⟩
            by_cases c5:(tm:Int)<xp
            · obtain rfl:=hf9.out (hpd.out.1 (.inr (.inr (.inr (.inr (.inl c5))))))
              clear hmore hf9 hpd hNk hbx;go_wp2;go_ret;exact ⟨rfl,a_ hB.out hb1.out⟩
            have hok:=hid (fun h=>hmore.out (hpd.out.2 (by have:=c12.out;omega) (by have:=c12.out;have:=hall.out;omega) (by have:=hrl.out;omega) (by omega) (by omega) h));have hno:=hid (fun j (hj:j<g.prods[k].right.length) h=>hf9.out (hpd.out.1 (.inr (.inr (.inr (.inr (.inr ⟨j,hj,h⟩)))))));clear hmore hf9 hpd;go_wp2;clear c1b c2b c12 c4 c5 x0 x1 x2 u0 u1 u2 hltz y0 y1 y2 y3 y4 hW3;go_loopw [11] (fun i wr=>∃ m:Nat,m≤rl∧i=.int .i64 (m:Int)∧Hid (∀ j (hj:j<g.prods[k].right.length),j<m→1≤g.prods[k].right[j]∧g.prods[k].right[j]≤(g.all:Int))∧Hid (Below W3.heap.size W3 wr)) (fun i _=>rl - (intOf i).toNat)
            case atStart=>exact ⟨0,Nat.zero_le _,rfl,hid (fun _ _ h=>absurd h (Nat.not_lt_zero _)),hid (Below.refl _ _)⟩
            case round =>
             obtain ⟨m,hm,rfl,hq,hbm⟩:=hrel;have z1:=hbx.out _ hbm.out;have hbz:=hid (a_ hb1.out hbm.out);by_cases hlm:m<rl
             · have hlmz:(m:Int)<(rl:Int):=by omega
               have hml:m<g.prods[k].right.length:=by rw [hrl.out];exact hlm
               obtain ⟨a',c',e,-,-,hat⟩:=hNk.out _ hbm.out;injection e with e _ _;subst e;obtain ⟨b2,o2,e2,hb2,hx2⟩:=hat m hml;subst e2;have hno9:=hid (fun h=>hno.out m hml h)
               have hq9:Hid (1≤g.prods[k].right[m]∧g.prods[k].right[m]≤(g.all:Int)→∀ j (hj:j<g.prods[k].right.length),j<m+1→1≤g.prods[k].right[j]∧g.prods[k].right[j]≤(g.all:Int)):=hid (fun h j hj h9=>by
                rcases Nat.lt_or_ge j m with h8 | h8
                · exact hq.out j hj h8
                · obtain rfl:j=m:=by omega
                  exact h)
               clear hat hb2 hq;generalize g.prods[k].right[m]=x at *;by_cases d1:x<1
               · obtain rfl:=hno9.out (.inl d1)
                 clear hq9 hno9;go_wp2;go_ret;exact ⟨rfl,a_ hB.out hbz.out⟩
               by_cases d2:al<x
               · obtain rfl:=hno9.out (.inr (by have:=hall.out;omega))
                 clear hq9 hno9;go_wp2;go_ret;exact ⟨rfl,a_ hB.out hbz.out⟩
               have hq8:=hid (hq9.out ⟨by omega,by have:=hall.out;omega⟩);clear hq9 hno9;go_wp2;go_roundw
               case rel=>exact ⟨m+1,by omega,by go_num,hq8,hid (by first | exact hbm.out | exact q_ hbm.out)⟩
               case measure=>simp [intOf];omega
             · have hlmz:¬ (m:Int)<(rl:Int):=by omega
               have hq8:=hid (hok.out (fun j hj=>hq.out j hj (by rw [hrl.out] at hj;omega)));clear hq;go_wp2;go_roundw
               case rel=>exact ⟨k+1,by omega,by go_num,hq8,hbz⟩
               case measure=>simp [intOf];omega
          · have hltz:¬ (k:Int)<(pp:Int):=by omega
            obtain rfl:=hfin.out (fun j hj=>hq.out j hj (by rw [hpp.out] at hj;omega));clear hq;go_wp2;go_ret;exact ⟨rfl,a_ hB.out hbl.out⟩
  · have c5z:((ll:Int) != (tm:Int)+1)=true:=bne_iff_ne.2 (by omega)
    obtain rfl:=f5.out c5;clear f5 f6 f7 f8 hfp fy1 c5;generalize g.start=st at *;go_enter Tryz.func50,Tryz.ntmps50
    go_wp2_with (first
     | (go_at_call 74;refine G1.out.mono ?_;clear G1;rintro e w1 ⟨rfl,hc1⟩;have hc1:=hid hc1;obtain ⟨x0,x1,x2,x3,x4⟩:=hk1.out w1 hc1.out)
     | (go_at_call 18;refine (GT1.out w1 hc1.out).mono ?_;clear GT1;rintro e w2 ⟨rfl,hc2⟩;have hc2:=hid (a_ hc1.out hc2);obtain ⟨z0,z1,z2,z3,z4⟩:=hk1.out w2 hc2.out))
    go_ret;exact ⟨rfl,a_ hB.out hc2.out⟩
end Go.Proofs.YtjgedijclkoemaaGreatDoor
namespace Go.Proofs.YtjgedijclkoemaaGreatDoor
inductive Rch (g:Gm):Int→Prop
 | start:0<g.start→Rch g g.start
 | step (p:Pd) (n:Int):p∈g.prods→Rch g p.left→n∈p.right→(g.terms:Int)<n→Rch g n
inductive Ends (g:Gm):Int→Prop
 | prod (p:Pd):p∈g.prods→(∀ n∈p.right,(g.terms:Int)<n→Ends g n)→Ends g p.left
theorem a7H (p:Int→Bool):∀ l:List Int,l.length=(l.filter p).length+(l.filter fun n=>!p n).length
 | []=>rfl
 | x :: l=>by
  have:=a7H p l
  rw [List.filter_cons,List.filter_cons];cases h:p x
  · simp only [Bool.false_eq_true,if_false,Bool.not_false,if_true,List.length_cons]
    omega
  · simp only [if_true,Bool.not_true,Bool.false_eq_true,if_false,List.length_cons]
    omega
theorem a9V:∀ (N:Nat) (l:List Int) (a:Int),l.Nodup→(∀ n∈l,a<n∧n≤a+(N:Int))→l.length≤N
 | 0,l,a,_,h=>by
  cases l with
  | nil=>exact Nat.le_refl _
  | cons x r=>have:=h x List.mem_cons_self;omega
 | N+1,l,a,hd,h=>by
  have h1:=a9V N (l.filter (fun n=>decide (n≠a+((N+1:Nat):Int)))) a (hd.sublist List.filter_sublist) (fun n hn=>by
   rw [List.mem_filter,decide_eq_true_eq] at hn
   have:=h n hn.1
   omega)
  have h2:l.length≤(l.filter (fun n=>decide (n≠a+((N+1:Nat):Int)))).length+1:=by
   have hc:(l.filter (fun n=>!decide (n≠a+((N+1:Nat):Int)))).length≤1:=by
    have hdd:=hd.sublist (List.filter_sublist (p:=fun n=>!decide (n≠a+((N+1:Nat):Int))) (l:=l))
    have hall:∀ n∈l.filter (fun n=>!decide (n≠a+((N+1:Nat):Int))),n=a+((N+1:Nat):Int):=fun n hn=>by
     have:=(List.mem_filter.1 hn).2
     simpa using this
    generalize l.filter (fun n=>!decide (n≠a+((N+1:Nat):Int)))=q at hdd hall
    match q,hdd,hall with
    | [],_,_=>exact Nat.zero_le _
    | [_],_,_=>exact Nat.le_refl _
    | x :: y :: r,hdd,hall =>
     have e1:=hall x List.mem_cons_self;have e2:=hall y (List.mem_cons_of_mem _ List.mem_cons_self)
     have:=(List.nodup_cons.1 hdd).1
     exact absurd (by rw [e1,← e2];exact List.mem_cons_self) this
   have hs:=a7H (fun n=>decide (n≠a+((N+1:Nat):Int))) l;omega
  omega
end Go.Proofs.YtjgedijclkoemaaGreatDoor
