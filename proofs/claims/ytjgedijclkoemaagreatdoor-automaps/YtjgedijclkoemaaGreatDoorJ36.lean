/- What the five laws of layer 17 share, part 36: no statement of its own. -/
import Derived.Test.YtjgedijclkoemaaGreatDoorJ27
import Derived.Test.YtjgedijclkoemaaGreatDoorJ35
namespace Go.Proofs.YtjgedijclkoemaaGreatDoor
open Go.RowKit Go.Maps
def SyF (B:Nat) (T:Nat→Nat) (w:World) (rb:Nat) (X:RX) (st:RS) (f:FS) (lv:Value) (o:Ow) (V:World) (q:Nat):Prop:=∃ T' rs mp,RdW B T' V rb X st f lv rs mp∧Chg T T' w V∧Im T' V q (a8p o)
theorem a2Y {R F:World→Nat→Prop} {G:Prop} (h:(∀ V q,F V q→R V q)→G) (pf:∀ V q,F V q→R V q):G:=h pf
theorem RdW.boxQ {B rb:Nat} {T T3:Nat→Nat} {W u:World} {X:RX} {st:RS} {f:FS} {lv:Value} {rs:List Value} {mp:Option Nat} (o:Ow) (hc:Chg (a0x T W.heap.size 77) T3 (W.alloc a1Q) u) (hr:RdW B T3 u rb X st f lv rs mp) (_h0:T W.heap.size=0) :
 u.heap[W.heap.size]?=some a1Q∧∃ T',RdW B T' (((u.setCell ⟨W.heap.size,0,none⟩ (.int .i64 (o.1:Int))).setCell ⟨W.heap.size,1,none⟩ (.int .i64 (o.2.1:Int))).setCell ⟨W.heap.size,2,none⟩ (.int .i64 (o.2.2:Int))) rb X st f lv rs mp∧Chg T T' W (((u.setCell ⟨W.heap.size,0,none⟩ (.int .i64 (o.1:Int))).setCell ⟨W.heap.size,1,none⟩ (.int .i64 (o.2.1:Int))).setCell ⟨W.heap.size,2,none⟩ (.int .i64 (o.2.2:Int)))∧Im T' (((u.setCell ⟨W.heap.size,0,none⟩ (.int .i64 (o.1:Int))).setCell ⟨W.heap.size,1,none⟩ (.int .i64 (o.2.1:Int))).setCell ⟨W.heap.size,2,none⟩ (.int .i64 (o.2.2:Int))) W.heap.size (a8p o):=by
 have hal:=al' W a1Q;have hz:W.heap.size<(W.alloc a1Q).heap.size:=by rw [World.size_alloc];omega
 have hq:a0x T W.heap.size 77 W.heap.size=77:=if_pos rfl;have hq3:T3 W.heap.size=77:=(hc.tag _ hz).trans hq;have hbx:u.heap[W.heap.size]?=some a1Q:=hc.kept.blk (b_ W a1Q) (fun e=>e.2 hq);have hF:Kept (f_ W.heap.size) u (((u.setCell ⟨W.heap.size,0,none⟩ (.int .i64 (o.1:Int))).setCell ⟨W.heap.size,1,none⟩ (.int .i64 (o.2.1:Int))).setCell ⟨W.heap.size,2,none⟩ (.int .i64 (o.2.2:Int))):=(((Kept.refl (f_ W.heap.size) u).setCell (a:=⟨W.heap.size,0,none⟩) (fun _=>rfl)).setCell (a:=⟨W.heap.size,1,none⟩) (fun _=>rfl)).setCell (a:=⟨W.heap.size,2,none⟩) (fun _=>rfl);refine ⟨hbx,a0x T3 W.heap.size 0,?_,?_,if_pos rfl,heap_setCell (heap_setCell (heap_setCell hbx))⟩
 · refine hr.kept hF (fun b e=>by rw [show b=W.heap.size from e,hq3]) (fun b _ h7=>if_neg (fun e=>h7 (by rw [e,hq3]))) (fun b hn=>?_)
   have hb:b≠W.heap.size:=fun e=>hn (by rw [e];exact if_pos rfl)
   have e9:a0x T3 W.heap.size 0 b=T3 b:=if_neg hb;rw [e9] at hn;exact ⟨(hr.own b hn).1,Nat.lt_of_lt_of_le (hr.own b hn).2 hF.size⟩
 · have ht:∀ b,b<W.heap.size→a0x T3 W.heap.size 0 b=T b:=fun b hb=>by
    have e1:a0x T3 W.heap.size 0 b=T3 b:=if_neg (by omega);have e2:a0x T W.heap.size 77 b=T b:=if_neg (by omega);rw [e1,hc.tag b (by omega),e2]
   refine ⟨?_,ht⟩
   have k1:Kept (fun b=>T b≠0∧T b≠77) W u:=(Kept.of_below hal).step hc.kept (fun k hk e=>by
    have e2:a0x T W.heap.size 77 k=T k:=if_neg (by omega);rw [e2] at e;exact e)
   exact k1.step hF (fun k hk e=>absurd hk (by rw [show k=W.heap.size from e];exact Nat.lt_irrefl _))
set_option maxRecDepth 20000 in
theorem c4M {B rb j q:Nat} {T:Nat→Nat} {w V:World} {X:RX} {st:RS} {f:FS} {lv:Value} {o:Ow} (h:SyF B T w rb X st f lv o V q) (hj:j<f.prods.length) {g cap:Nat} (hg:X.pv=.slice (some ⟨g,0,none⟩) f.prods.length cap) (n:Int) (hn:f.prods[j].right.length≤100000) :
 ∃ v A C w6,(V.drew.cell? ⟨g,j * 3+1,none⟩=some v∧V.drew.cell? ⟨q,1,none⟩=some (.int .i64 (o.2.1:Int))∧V.drew.cell? ⟨q,2,none⟩=some (.int .i64 (o.2.2:Int)))∧((V.alloc (.cells #[.int .i64 n] 3)).drew.cell? ⟨g,j * 3+1,none⟩=some v∧(V.alloc (.cells #[.int .i64 n] 3)).drew.cell? ⟨q,1,none⟩=some (.int .i64 (o.2.1:Int))∧(V.alloc (.cells #[.int .i64 n] 3)).drew.cell? ⟨q,2,none⟩=some (.int .i64 (o.2.2:Int))) ∧
  (Builtin.append_ #[41,41] 41 #[v,.slice (some ⟨V.heap.size,0,none⟩) 1 1]).run Tryz.prog (V.alloc (.cells #[.int .i64 n] 3)).drew=.ok (.slice A (f.prods[j].right.length+1) C) w6∧w6.cell? ⟨g,j * 3+1,none⟩=some v∧w6.frozen? ⟨g,j * 3+1,none⟩=false ∧
  (let F:=w6.setCell ⟨g,j * 3+1,none⟩ (.slice A (f.prods[j].right.length+1) C)
   RdR B T w rb X st { f with prods:=U_ f.prods j fun p=>⟨p.left,p.right++[n],p.prec⟩ } lv F∧F.cell? ⟨q,1,none⟩=some (.int .i64 (o.2.1:Int))∧F.cell? ⟨g,j * 3+2,none⟩=some (.int .i64 f.prods[j].prec)∧F.frozen? ⟨g,j * 3+2,none⟩=false ∧
   ∀ k:Int,RdR B T w rb X st { f with prods:=U_ f.prods j fun p=>⟨p.left,p.right++[n],k⟩ } lv (F.setCell ⟨g,j * 3+2,none⟩ (.int .i64 k))):=by
 obtain ⟨T',rs,mp,hr,hc,iq⟩:=h;have hbd:Below V.heap.size V V.drew:=(Below.refl _ V).drew;have cd:=Chg.of_below (T:=T') hbd;have hr':=hr.keep hbd;have iq':=iq.keep cd;obtain ⟨v,A,C,w6,hv,hrun,k1,k2,T2,h2,c2⟩:=hr'.appRight hj hg n hn;obtain ⟨g',cap',hg',-,-,p1,p2,pf,-⟩:=hr'.prodAt hj;rw [hg] at hg';injection hg' with hg1 _ hg3;injection hg1 with hg1;injection hg1 with hg1 _ _;subst hg1;have hv':rs[j]'(by rw [hr'.rslen];exact hj)=v:=by rw [List.getElem?_eq_getElem (by rw [hr'.rslen];exact hj)] at hv;injection hv
 rw [hv'] at p1;have hba:Below V.drew.heap.size V.drew (V.alloc (.cells #[.int .i64 n] 3)).drew:=al' V.drew _;have i2:=iq'.keep c2;have hm:=a1Y (g:=fun p=>(⟨p.left,p.right++[n],p.prec⟩:Pd)) hj;have hj2:j<({ f with prods:=U_ f.prods j fun p=>⟨p.left,p.right++[n],p.prec⟩ }:FS).prods.length:=by show j<(U_ f.prods j _).length;rw [hm,List.length_set];exact hj
 have hl2:({ f with prods:=U_ f.prods j fun p=>⟨p.left,p.right++[n],p.prec⟩ }:FS).prods.length=f.prods.length:=by show (U_ f.prods j _).length=_;rw [hm,List.length_set]
 obtain ⟨g2,cap2,hg2,-,-,-,q2,qf,-⟩:=h2.prodAt hj2;rw [hg] at hg2;injection hg2 with hg4 _ hg5;injection hg4 with hg4;injection hg4 with hg4 _ _;subst hg4
 have e8:({ f with prods:=U_ f.prods j fun p=>⟨p.left,p.right++[n],p.prec⟩ }:FS).prods[j]=⟨f.prods[j].left,f.prods[j].right++[n],f.prods[j].prec⟩:=by
  have:(U_ f.prods j fun p=>(⟨p.left,p.right++[n],p.prec⟩:Pd))[j]'hj2=(f.prods.set j ⟨f.prods[j].left,f.prods[j].right++[n],f.prods[j].prec⟩)[j]'(by rw [List.length_set];exact hj):=by congr 1
  show (U_ f.prods j fun p=>(⟨p.left,p.right++[n],p.prec⟩:Pd))[j]'hj2=_
  rw [this,List.getElem_set_self]
 rw [e8] at q2;refine ⟨v,A,C,w6,⟨p1,iq'.cell rfl,iq'.cell rfl⟩,⟨d_ hba p1,d_ hba (iq'.cell rfl),d_ hba (iq'.cell rfl)⟩,hrun,k1,k2,⟨T2,_,mp,h2,(hc.trans cd).trans c2⟩,i2.cell rfl,q2,qf _,fun k=>?_⟩;obtain ⟨h3,c3⟩:=h2.setPrec hj2 (by rw [hl2];exact hg) k
 have e7:U_ (U_ f.prods j fun p=>(⟨p.left,p.right++[n],p.prec⟩:Pd)) j (fun p=>⟨p.left,p.right,k⟩)=U_ f.prods j fun p=>⟨p.left,p.right++[n],k⟩:=by
  have hj3:j<(f.prods.set j ⟨f.prods[j].left,f.prods[j].right++[n],f.prods[j].prec⟩).length:=by rw [List.length_set];exact hj
  rw [hm,a1Y hj3,a1Y hj,List.getElem_set_self,List.set_set]
 have h3:RdW B T2 _ rb X st { f with prods:=U_ (U_ f.prods j fun p=>(⟨p.left,p.right++[n],p.prec⟩:Pd)) j (fun p=>⟨p.left,p.right,k⟩) } lv _ mp:=h3;rw [e7] at h3;exact ⟨T2,_,mp,h3,((hc.trans cd).trans c2).trans c3⟩
def c1d (o:Ow) (j:Nat) (f:FS):FS×Int:=if 0<o.2.1 then ({ f with prods:=U_ f.prods j fun p=>⟨p.left,p.right++[(o.2.1:Int)],(o.2.1:Int)⟩ },0) else if 0<o.2.2 then ({ f with prods:=U_ f.prods j fun p=>⟨p.left,p.right++[(o.2.2:Int)],p.prec⟩ },0) else (f,5)
set_option maxRecDepth 20000 in
set_option maxHeartbeats 16000000 in
theorem c4L {B rb p q l j:Nat} {T:Nat→Nat} {w:World} {X:RX} {st:RS} {f:FS} {lv:Value} {rs:List Value} {mp:Option Nat} {x:Wd} (h:RdW B T w rb X st f lv rs mp) (hb:BndS st) (hx:x.2.2.length≤1000000) (hj:j<f.prods.length) (ip:Im T w p (a3a rb)) (iq:Im T w q (s_ x)) (il:Im T w l (b8s j)) (_hjz:f.prods.length≤100000) (hn:f.prods[j].right.length≤100000) :
 Calls Tryz.prog 196 #[r_ p,r_ l,r_ q] w fun r w'=>r=.returned (.int .i64 (c1d (st.fnd x.2.2) j f).2)∧RdR B T w rb X st (c1d (st.fnd x.2.2) j f).1 lv w':=by
 obtain ⟨g,cap,hg,-⟩:=h.prodAt hj;obtain ⟨W,hW⟩:∃ y,w.drew=y:=⟨_,rfl⟩;have hbW:Below w.heap.size w W:=by rw [← hW];exact (Below.refl _ w).drew
 have cW:=Chg.of_below (T:=T) hbW;have hrW:=h.keep hbW;have ipW:=ip.keep cW;have iqW:=iq.keep cW;have hbd:Below W.heap.size W W.drew:=(Below.refl _ W).drew;have cd:=Chg.of_below (T:=T) hbd;have hrd:=hrW.keep hbd;have ipd:=ipW.keep cd;have iqd:=iqW.keep cd;have r0:W.cell? ⟨p,0,none⟩=some (r_ rb):=ipW.cell rfl;have r1:W.cell? ⟨l,0,none⟩=some (.int .i64 (j:Int)):=(il.keep cW).cell rfl;have r2:W.cell? ⟨rb,4,none⟩=some (.slice (some ⟨g,0,none⟩) f.prods.length cap):=by rw [← hg];exact c_ hrW.blk rfl
 have d0:W.drew.cell? ⟨p,0,none⟩=some (r_ rb):=ipd.cell rfl;have d2:W.drew.cell? ⟨q,2,none⟩=some (.string (e_ x.2.2)):=iqd.cell rfl;have hba:Below W.drew.heap.size W.drew (W.alloc a1Q).drew:=al' W.drew a1Q;have f0:=d_ hba d0;have f2:=d_ hba d2;obtain ⟨o,ho⟩:∃ o,st.fnd x.2.2=o:=⟨_,rfl⟩
 have GF0:Hid (Calls Tryz.prog 133 #[.pointer (some ⟨rb,8,none⟩),.string (e_ x.2.2)] W.drew fun r u=>r=.returned (owV o)∧SyF B T w rb X st f lv o (u.alloc (a8p o)) u.heap.size):=hid ((c0g hrd hb x.2.2 hx).mono (fun r u ⟨e,T',mp',hr,hc⟩=>by
  have hal:=al' u (a8p o);exact ⟨by rw [← ho];exact e,T',rs,mp',hr.keep hal,((cW.trans cd).trans hc).trans (Chg.of_below hal),hr.fresh (Nat.le_refl _),b_ u _⟩))
 have GF1:Hid (Calls Tryz.prog 133 #[.pointer (some ⟨rb,8,none⟩),.string (e_ x.2.2)] (W.alloc a1Q).drew fun r u=>r=.returned (owV o)∧u.heap[W.heap.size]?=some a1Q∧SyF B T w rb X st f lv o (((u.setCell ⟨W.heap.size,0,none⟩ (.int .i64 (o.1:Int))).setCell ⟨W.heap.size,1,none⟩ (.int .i64 (o.2.1:Int))).setCell ⟨W.heap.size,2,none⟩ (.int .i64 (o.2.2:Int))) W.heap.size):=hid (by
  obtain ⟨h5,c5⟩:=hrd.aside (q:=W.drew.heap.size) (al' W.drew a1Q) (Nat.le_refl _) (by rw [World.size_alloc];omega);refine (c0g h5 hb x.2.2 hx).mono ?_;rintro r u ⟨e,T',mp',hr,hc⟩;obtain ⟨a1,T9,a2,a3,a4⟩:=RdW.boxQ (W:=W.drew) (T:=T) o hc hr (hrd.fresh (Nat.le_refl _));exact ⟨by rw [← ho];exact e,a1,T9,rs,mp',a2,(cW.trans cd).trans a3,a4⟩)
 have HA:Hid (∀ V q9 (n:Int),SyF B T w rb X st f lv o V q9→_):=hid (fun V q9 n hF=>c4M hF hj hg n hn);have HC:Hid (∀ V q9,SyF B T w rb X st f lv o V q9→V.cell? ⟨q9,1,none⟩=some (.int .i64 (o.2.1:Int))∧V.cell? ⟨q9,2,none⟩=some (.int .i64 (o.2.2:Int))∧RdR B T w rb X st f lv V):=hid (fun V q9 ⟨T',rs',mp',a1,a2,a3⟩=>⟨a3.cell rfl,a3.cell rfl,T',rs',mp',a1,a2⟩);rw [ho];have hjl:(j:Int)<(f.prods.length:Int):=by omega
 clear h hb hx ip iq il hbW cW hrW ipW iqW hbd cd hrd ipd iqd hba ho;unfold c1d;obtain ⟨xk,xp,xt⟩:=x;obtain ⟨oa,ob,oc⟩:=o
 try dsimp only at *
 generalize f.prods[j].right.length=nr at *;generalize f.prods[j].prec=pz at *;have hcs:(0<ob)∨(ob=0∧0<oc)∨(ob=0∧oc=0):=by omega
 rcases hcs with hz | ⟨hz,hy⟩ | ⟨hz,hy⟩
 · have hzz:(0:Int)<(ob:Int):=by omega
   rw [if_pos hz];clear hz;go_enter Tryz.func196,Tryz.ntmps196
   go_wp2_with fail
   go_region
   all_goals
    try rw [hW]
    clear r0 r1 r2 hW;go_wp2_with fail
    apply a2Y (F:=fun V q9=>SyF B T w rb X st f lv (oa,ob,oc) V q9)
    case h =>
     intro rest
     go_region_with (first
      | (go_at_call 133;refine GF0.out.mono ?_;rintro e u ⟨rfl,hf⟩;have hf9:=hid hf;clear hf)
      | (go_at_call 133;refine GF1.out.mono ?_;rintro e u ⟨rfl,hb9,hf⟩;have hf9:=hid hf;clear hf;obtain ⟨⟨m0,m1⟩,⟨m2,m3⟩,⟨m4,m5⟩,m6,m7,m8⟩:=a6a hb9 (.int .i64 (oa:Int)) (.int .i64 (ob:Int)) (.int .i64 (oc:Int));clear hb9 m6 m7 m8))
     all_goals
      have hf:=hf9.out;clear hf9
      first
       | (generalize ((u.setCell ⟨W.heap.size,0,none⟩ (.int .i64 (oa:Int))).setCell ⟨W.heap.size,1,none⟩ (.int .i64 (ob:Int))).setCell ⟨W.heap.size,2,none⟩ (.int .i64 (oc:Int))=V at hf ⊢;generalize W.heap.size=q9 at hf ⊢;exact rest V q9 hf)
       | (generalize u.alloc (a8p (oa,ob,oc))=V at hf ⊢;generalize u.heap.size=q9 at hf ⊢;exact rest V q9 hf)
    case pf =>
     rintro V q9 hF;obtain ⟨t1,t2,hQ0⟩:=HC.out V q9 hF;obtain ⟨v,A,C,w6,⟨a0,a1,a2⟩,⟨b0,b1,b2⟩,hrun,k1,k2,hR1,hR2,hR3,hR4,hR5⟩:=HA.out V q9 (ob:Int) hF;have hR1:=hid hR1;have hR5:=hid hR5;clear HA HC GF0 GF1 hF hQ0 d0 d2 f0 f2;go_wp2_with fail
     apply S_
     case h =>
      intro rest
      go_region_law ((first
       | (refine M_ (by rfl) (.tmp 27) (.tmp 30) 41 (by rfl) _ _ (by rfl) (by rfl) hrun ?_)
       | fail))
      all_goals exact rest.out
     case pf =>
      have hQ:=hid (hR5.out (ob:Int));clear hR5 hR1 a0 a1 a2 b0 b1 b2 hrun k1 k2;generalize w6.setCell ⟨g,j * 3+1,none⟩ (.slice A (nr+1) C)=F at *;go_wp2;go_ret;exact ⟨rfl,hQ.out⟩
 · have hzz:¬ (0:Int)<(ob:Int):=by omega
   have hyz:(0:Int)<(oc:Int):=by omega
   rw [if_neg (by omega),if_pos hy];clear hz hy;go_enter Tryz.func196,Tryz.ntmps196
   go_wp2_with fail
   go_region
   all_goals
    try rw [hW]
    clear r0 r1 r2 hW;go_wp2_with fail
    apply a2Y (F:=fun V q9=>SyF B T w rb X st f lv (oa,ob,oc) V q9)
    case h =>
     intro rest
     go_region_with (first
      | (go_at_call 133;refine GF0.out.mono ?_;rintro e u ⟨rfl,hf⟩;have hf9:=hid hf;clear hf)
      | (go_at_call 133;refine GF1.out.mono ?_;rintro e u ⟨rfl,hb9,hf⟩;have hf9:=hid hf;clear hf;obtain ⟨⟨m0,m1⟩,⟨m2,m3⟩,⟨m4,m5⟩,m6,m7,m8⟩:=a6a hb9 (.int .i64 (oa:Int)) (.int .i64 (ob:Int)) (.int .i64 (oc:Int));clear hb9 m6 m7 m8))
     all_goals
      have hf:=hf9.out;clear hf9
      first
       | (generalize ((u.setCell ⟨W.heap.size,0,none⟩ (.int .i64 (oa:Int))).setCell ⟨W.heap.size,1,none⟩ (.int .i64 (ob:Int))).setCell ⟨W.heap.size,2,none⟩ (.int .i64 (oc:Int))=V at hf ⊢;generalize W.heap.size=q9 at hf ⊢;exact rest V q9 hf)
       | (generalize u.alloc (a8p (oa,ob,oc))=V at hf ⊢;generalize u.heap.size=q9 at hf ⊢;exact rest V q9 hf)
    case pf =>
     rintro V q9 hF;obtain ⟨t1,t2,hQ0⟩:=HC.out V q9 hF;obtain ⟨v,A,C,w6,⟨a0,a1,a2⟩,⟨b0,b1,b2⟩,hrun,k1,k2,hR1,hR2,hR3,hR4,hR5⟩:=HA.out V q9 (oc:Int) hF;have hR1:=hid hR1;have hR5:=hid hR5;clear HA HC GF0 GF1 hF hQ0 d0 d2 f0 f2;go_wp2_with fail
     apply S_
     case h =>
      intro rest
      go_region_law ((first
       | (refine M_ (by rfl) (.tmp 47) (.tmp 50) 41 (by rfl) _ _ (by rfl) (by rfl) hrun ?_)
       | fail))
      all_goals exact rest.out
     case pf =>
      clear hR5 a0 a1 a2 b0 b1 b2 hrun k1 k2;go_wp2;go_ret;exact ⟨rfl,hR1.out⟩
 · have hzz:¬ (0:Int)<(ob:Int):=by omega
   have hyz:¬ (0:Int)<(oc:Int):=by omega
   rw [if_neg (by omega),if_neg (by omega)];clear hz hy;go_enter Tryz.func196,Tryz.ntmps196
   go_wp2_with fail
   go_region
   all_goals
    try rw [hW]
    clear r0 r1 r2 hW;go_wp2_with fail
    apply a2Y (F:=fun V q9=>SyF B T w rb X st f lv (oa,ob,oc) V q9)
    case h =>
     intro rest
     go_region_with (first
      | (go_at_call 133;refine GF0.out.mono ?_;rintro e u ⟨rfl,hf⟩;have hf9:=hid hf;clear hf)
      | (go_at_call 133;refine GF1.out.mono ?_;rintro e u ⟨rfl,hb9,hf⟩;have hf9:=hid hf;clear hf;obtain ⟨⟨m0,m1⟩,⟨m2,m3⟩,⟨m4,m5⟩,m6,m7,m8⟩:=a6a hb9 (.int .i64 (oa:Int)) (.int .i64 (ob:Int)) (.int .i64 (oc:Int));clear hb9 m6 m7 m8))
     all_goals
      have hf:=hf9.out;clear hf9
      first
       | (generalize ((u.setCell ⟨W.heap.size,0,none⟩ (.int .i64 (oa:Int))).setCell ⟨W.heap.size,1,none⟩ (.int .i64 (ob:Int))).setCell ⟨W.heap.size,2,none⟩ (.int .i64 (oc:Int))=V at hf ⊢;generalize W.heap.size=q9 at hf ⊢;exact rest V q9 hf)
       | (generalize u.alloc (a8p (oa,ob,oc))=V at hf ⊢;generalize u.heap.size=q9 at hf ⊢;exact rest V q9 hf)
    case pf =>
     rintro V q9 hF;obtain ⟨t1,t2,hQ0⟩:=HC.out V q9 hF;have hQ0:=hid hQ0;clear HA HC GF0 GF1 hF d0 d2 f0 f2;go_wp2;go_ret;exact ⟨rfl,hQ0.out⟩
theorem b3D (a:Value) (k:Nat):(madeCells #[a,a] k).toList=List.replicate k a:=by
 refine List.eq_replicate_iff.2 ⟨by rw [Array.length_toList,size_madeCells],fun b hb=>?_⟩;unfold madeCells at hb;rw [Array.toList_map,List.mem_map] at hb;obtain ⟨i,-,rfl⟩:=hb;have h2:i % 2=0∨i % 2=1:=by omega
 show (#[a,a]:Array Value)[i % 2]! =a
 rcases h2 with h | h <;> rw [h] <;> rfl
theorem a7R:∀ n:Nat,(List.replicate n ((0:Int),(0:Int))).flatMap csL=List.replicate (n * 2) (.int .i64 0)
 | 0=>rfl
 | n+1=>by
  rw [List.replicate_succ,List.flatMap_cons,a7R n,show (n+1) * 2=n * 2+1+1 by omega,List.replicate_succ,List.replicate_succ];rfl
def fs0 (st:RS) (N:Nat):FS:=⟨List.replicate N (0,0),st.prods.map fun (l:Nat)=>⟨(l:Int),[],0⟩,0,st.pl,st.err⟩
theorem b7S:∀ l:List Nat,l.flatMap pdV=((l.map fun (x:Nat)=>(⟨(x:Int),[],0⟩:Pd)).zip (List.replicate l.length (.slice none 0 0))).flatMap fun x=>prV x.1 x.2
 | []=>rfl
 | a :: l=>by
  rw [List.flatMap_cons,b7S l,List.map_cons,List.length_cons,List.replicate_succ,List.zip_cons_cons,List.flatMap_cons];rfl
set_option maxRecDepth 20000 in
theorem RdV.toW {B rb N:Nat} {T:Nat→Nat} {w:World} {X:RX} {st:RS} (h:RdV B T w rb X st) (hN:N≤1000000) :
 ∃ w1,(Instr.makeSlice 24 (.int .i64 (N:Int)) (.int .i64 (N:Int))).run Tryz.prog w=.ok (.slice (some ⟨w.heap.size,0,none⟩) N N) w1∧w1.cell? ⟨rb,3,none⟩=some (.slice none 0 0)∧w1.frozen? ⟨rb,3,none⟩=false ∧
  ∃ T',RdW B T' (w1.setCell ⟨rb,3,none⟩ (.slice (some ⟨w.heap.size,0,none⟩) N N)) rb X st (fs0 st N) (.slice (some ⟨w.heap.size,0,none⟩) N N) (List.replicate st.prods.length (.slice none 0 0)) none∧Chg T T' w (w1.setCell ⟨rb,3,none⟩ (.slice (some ⟨w.heap.size,0,none⟩) N N)):=by
 obtain ⟨i0,hi0,za,zb,zc⟩:=info_parts Tryz.infLv;obtain ⟨w1,hrun,hO,hg⟩:=run_make_full (P:=Tryz.prog) w B 24 143 i0 _ 2 Tryz.underlying24 hi0 za zb .i64 .i64 N (by rw [zc];omega) (by unfold maxLen;omega) h.base;have hrb:=u_ h.blk;have hb1:Below w.heap.size w w1:=((Kept.of_grown hg).mono (G:=a7z) (fun k _ e=>by cases e)).none;have hbk:=g_ h.blk hb1;have hwl:w.heap.size<w1.heap.size:=(hO.lt w.heap.size rfl).2;have ht:∀ b,b<w.heap.size→a0x T w.heap.size 3 b=T b:=fun b hb9=>if_neg (by omega)
 have hk:Kept (f_ rb) w (w1.setCell ⟨rb,3,none⟩ (.slice (some ⟨w.heap.size,0,none⟩) N N)):=(Kept.of_below hb1).setCell (a:=⟨rb,3,none⟩) (fun _=>rfl);have hc:Chg T (a0x T w.heap.size 3) w (w1.setCell ⟨rb,3,none⟩ (.slice (some ⟨w.heap.size,0,none⟩) N N)):=⟨hk.mono (fun k _ e=>by rw [show k=rb from e,h.rt];decide),ht⟩;have hF:∀ i,i≠99→∀ b,f_ rb b→T b≠i:=fun i hi b e=>by rw [show b=rb from e,h.rt];exact hi.symm
 have hsz:(w1.setCell ⟨rb,3,none⟩ (.slice (some ⟨w.heap.size,0,none⟩) N N)).heap.size=w1.heap.size:=by simp
 refine ⟨w1,hrun,c_ hbk rfl,i_ hbk 3,a0x T w.heap.size 3,⟨heap_setCell hbk,(ht rb hrb).trans h.rt,fun b hn=>?_,Nat.le_trans h.base hk.size,h.rules.kept hk (hF 1 (by decide)) ht,h.rlen,fun x hx=>(h.rre x hx).keep hc,h.nonts.kept hk (hF 2 (by decide)) ht,h.skips.kept hk (hF 8 (by decide)) ht,h.terms.kept hk (hF 9 (by decide)) ht,h.nons.kept hk (hF 10 (by decide)) ht,h.later.kept hk (hF 15 (by decide)) ht,h.flen,fun x hx=>(h.fst x hx).keep hc,?_,?_,?_,fun j a b=>?_,fun m e=>(by cases e)⟩,hc⟩
 · rw [hsz]
   unfold a0x at hn;split at hn
   · rename_i e;subst e;exact ⟨h.base,hwl⟩
   · exact ⟨(h.own b hn).1,Nat.lt_of_lt_of_le (h.own b hn).2 hb1.size⟩
 · show OwnI _ _ _ _ _ _ _ (List.replicate N ((0:Int),(0:Int))).length ((List.replicate N ((0:Int),(0:Int))).flatMap csL)
   rw [List.length_replicate,a7R];have e1:(madeCells (Value.agg #[.int .i64 0,.int .i64 0]).cells (N * 2)).toList=List.replicate (N * 2) (.int .i64 0):=b3D _ _;rw [e1] at hO;refine ⟨a0z hO (fun e=>by injection e with e;have:w.heap.size=rb:=e;omega),fun b e=>?_⟩
   have:w.heap.size=b:=by injection e
   rw [← this];exact if_pos rfl
 · show OwnI _ _ _ _ _ _ _ (st.prods.map fun (l:Nat)=>(⟨(l:Int),[],0⟩:Pd)).length (((st.prods.map fun (l:Nat)=>(⟨(l:Int),[],0⟩:Pd)).zip (List.replicate st.prods.length (.slice none 0 0))).flatMap fun x=>prV x.1 x.2)
   rw [List.length_map,← b7S];exact h.prods.kept hk (hF 4 (by decide)) ht
 · show (List.replicate st.prods.length _).length=(st.prods.map _).length
   rw [List.length_replicate,List.length_map]
 · rw [List.getElem_replicate]
   have e9:(fs0 st N).prods[j].right=[]:=by
    have b':j<(st.prods.map fun (l:Nat)=>(⟨(l:Int),[],0⟩:Pd)).length:=b
    show ((st.prods.map fun (l:Nat)=>(⟨(l:Int),[],0⟩:Pd))[j]'b').right=[]
    rw [List.getElem_map]
   rw [e9];exact ⟨World.ownsRow_nil _ _ _ _,fun b e=>by cases e⟩
theorem RdW.setLeft {B rb j g cap:Nat} {T:Nat→Nat} {w:World} {X:RX} {st:RS} {f:FS} {lv:Value} {rs:List Value} {mp:Option Nat} (h:RdW B T w rb X st f lv rs mp) (hj:j<f.prods.length) (hg:X.pv=.slice (some ⟨g,0,none⟩) f.prods.length cap) (n:Int) :
 RdW B T (w.setCell ⟨g,j * 3,none⟩ (.int .i64 n)) rb X st { f with prods:=U_ f.prods j fun p=>⟨n,p.right,p.prec⟩ } lv rs mp∧Chg T T w (w.setCell ⟨g,j * 3,none⟩ (.int .i64 n)):=by
 have hl:=h.rslen;have hz:(f.prods.zip rs).length=f.prods.length:=by rw [List.length_zip,hl,Nat.min_self]
 have hg4:T g=4:=h.prods.2 g (by rw [hg];rfl);have hk:Kept (fun b=>T b=4∨T b=100+j) w (w.setCell ⟨g,j * 3,none⟩ (.int .i64 n)):=(Kept.refl _ w).setCell (fun _=>.inl hg4);have hsz:(w.setCell ⟨g,j * 3,none⟩ (.int .i64 n)).heap.size=w.heap.size:=by simp
 have hone:Kept (f_ g) w (w.setCell ⟨g,j * 3,none⟩ (.int .i64 n)):=(Kept.refl (f_ g) w).setCell (a:=⟨g,j * 3,none⟩) (fun _=>rfl);have hm:=a1Y (g:=fun p=>⟨n,p.right,p.prec⟩) hj;refine h.chgP (j0:=j) hk (fun _ _=>rfl) (fun b hn=>by rw [hsz];exact h.own b hn) ?_ ?_ ?_ rfl rfl rfl rfl
 · show OwnI _ _ _ _ _ _ X.pv (U_ f.prods j _).length (((U_ f.prods j _).zip rs).flatMap _)
   rw [hm,List.length_set];have e1:rs=rs.set j (rs[j]'(by rw [hl];exact hj)):=by rw [List.set_getElem_self]
   have e2:((f.prods.set j ⟨n,f.prods[j].right,f.prods[j].prec⟩).zip rs).flatMap (fun x=>prV x.1 x.2)=((f.prods.zip rs).flatMap (fun x=>prV x.1 x.2)).set (j * 3) (.int .i64 n):=by
    have h0:=a1N (fun x:Pd×Value=>prV x.1 x.2) (sz:=3) (fun _=>rfl) (f.prods.zip rs) j 0 (⟨n,f.prods[j].right,f.prods[j].prec⟩,rs[j]'(by rw [hl];exact hj)) (.int .i64 n) (by rw [hz];exact hj) (by decide) (by rw [List.getElem_zip];rfl);rw [Nat.add_zero] at h0;rw [h0,← a5B,← e1]
   rw [e2,hg]
   have:=h.prods
   rw [hg] at this;exact this.setc _
 · show rs.length=(U_ f.prods j _).length
   rw [hm,List.length_set];exact hl
 · intro i a b
   have b':i<f.prods.length:=by rw [← hl];exact a
   have e9:({ f with prods:=U_ f.prods j fun p=>⟨n,p.right,p.prec⟩ }:FS).prods[i].right=f.prods[i].right:=by
    have e8:(U_ f.prods j fun p=>⟨n,p.right,p.prec⟩)[i]'b=(f.prods.set j ⟨n,f.prods[j].right,f.prods[j].prec⟩)[i]'(by rw [List.length_set];exact b'):=by congr 1
    show ((U_ f.prods j fun p=>⟨n,p.right,p.prec⟩)[i]'b).right=_
    rw [e8,List.getElem_set];split
    · rename_i e7;subst e7;rfl
    · rfl
   rw [e9];exact (h.rights i a b').kept hone (fun b0 e0=>by rw [show b0=g from e0,hg4];omega) (fun _ _=>rfl)
set_option maxRecDepth 20000 in
set_option maxHeartbeats 4000000 in
theorem c4c {B rb:Nat} {T:Nat→Nat} {w:World} {X:RX} {st:RS} {f:FS} {lv:Value} {rs:List Value} {mp:Option Nat} (h:RdW B T w rb X st f lv rs mp) (p:Nat) (e:Int) (h0:f.err=0) :
 Calls Tryz.prog 66 #[r_ rb,.int .i64 (p:Int),.int .i64 e] w fun r w'=>r=.returned (.tuple #[])∧RdR B T w rb X st { f with pl:=p,err:=e } lv w':=by
 have hb0:=h.blk;have hb1:=heap_setCell (o:=16) (v:=.int .i64 (p:Int)) hb0;have hb2:=heap_setCell (o:=17) (v:=.int .i64 e) hb1;have hk:Kept (f_ rb) w ((w.setCell ⟨rb,16,none⟩ (.int .i64 (p:Int))).setCell ⟨rb,17,none⟩ (.int .i64 e)):=((Kept.refl (f_ rb) w).setCell (a:=⟨rb,16,none⟩) (fun _=>rfl)).setCell (a:=⟨rb,17,none⟩) (fun _=>rfl);obtain ⟨h2,c2⟩:=h.put (f':={ f with pl:=p,err:=e }) hk hb2 rfl rfl;have hP:Hid (RdR B T w rb X st { f with pl:=p,err:=e } lv ((w.setCell ⟨rb,16,none⟩ (.int .i64 (p:Int))).setCell ⟨rb,17,none⟩ (.int .i64 e))):=hid ⟨T,rs,mp,h2,c2⟩;have y17':w.cell? ⟨rb,17,none⟩=some (.int .i64 f.err):=c_ hb0 rfl;have y17:(w.setCell ⟨rb,16,none⟩ (.int .i64 (p:Int))).cell? ⟨rb,17,none⟩=some (.int .i64 f.err):=c_ hb1 rfl;rw [h0] at y17 y17';have y16:w.cell? ⟨rb,16,none⟩=some (.int .i64 (f.pl:Int)):=c_ hb0 rfl;have f16:=i_ hb0 16;have f17:=i_ hb1 17;clear hb0 hb1 hb2 hk h0 h h2 c2;go_enter Tryz.func66,Tryz.ntmps66
 go_wp2;go_end0
 exact ⟨rfl,hP.out⟩
set_option maxRecDepth 20000 in
theorem c3v {B rb:Nat} {T:Nat→Nat} {w:World} {X:RX} {st:RS} {f:FS} {lv:Value} {rs:List Value} {mp:Option Nat} {v:Value} {s:Stp} (h:RdW B T w rb X st f lv rs mp) (hb:BndS st) (hs:StpV T w rb v s) (hx:s.w.2.2.length≤1000000) (hp:s.k=5∨s.k=6→s.a<f.prods.length) (ht:(st.fnd s.w.2.2).2.1<f.levels.length) (hr:∀ j (h:j<f.prods.length),f.prods[j].right.length≤100000) (hl1:f.levels.length≤100000) (hl2:f.prods.length≤100000) :
 ∃ K caps,v=.func (.func K) #[] caps∧Calls Tryz.prog K caps w fun r w'=>r=.returned (.int .i64 (a0c st.fnd s f).2)∧RdR B T w rb X st (a0c st.fnd s f).1 lv w':=by
 rcases hs with ⟨hk,p,q,e,h1,h2⟩ | ⟨hk,p,q,l,e,h1,h2,h3⟩ | ⟨hk,l,e,h3⟩ | ⟨hk,p,q,e,h1,h2⟩ | ⟨hk,p,l,q,e,h1,h2,h3⟩ | ⟨hk,p,q,l,e,h1,h2,h3⟩
 · refine ⟨_,_,e,?_⟩
   have e9:a0c st.fnd s f=(f,if (st.fnd s.w.2.2).1<s.w.2.1 then 6 else 0):=by unfold a0c;rw [if_pos hk]
   rw [e9];exact c3O h hb hx h1 h2
 · refine ⟨_,_,e,?_⟩
   have e9:a0c st.fnd s f=(if (st.fnd s.w.2.2).2.1=0 then (f,5) else if 0<(f.levels.getD (st.fnd s.w.2.2).2.1 (0,0)).1 then (f,6) else ({ f with levels:=f.levels.set (st.fnd s.w.2.2).2.1 ((s.a:Int),(s.b:Int)) },0)):=by unfold a0c;rw [if_neg (by omega),if_pos hk]
   have h9:=c4R h hb hx ht h1 h2 h3 hl1;rw [e9];by_cases c1:(st.fnd s.w.2.2).2.1=0
   · rw [if_pos c1,if_pos c1] at h9
     rw [if_pos c1];exact h9
   · rw [if_neg c1,if_neg c1] at h9
     rw [if_neg c1];by_cases c2:0<(f.levels.getD (st.fnd s.w.2.2).2.1 (0,0)).1
     · rw [if_pos c2,if_pos c2] at h9
       rw [if_pos c2];exact h9
     · rw [if_neg c2,if_neg c2] at h9
       rw [if_neg c2];exact h9
 · refine ⟨_,_,e,?_⟩
   have e9:a0c st.fnd s f=(f,if s.a=0 then 0 else 6):=by unfold a0c;rw [if_neg (by omega),if_neg (by omega),if_pos hk]
   rw [e9];exact c4O h h3
 · refine ⟨_,_,e,?_⟩
   have e9:a0c st.fnd s f=({ f with start:=((st.fnd s.w.2.2).2.2:Int) },if (st.fnd s.w.2.2).2.2=0 then 5 else 0):=by unfold a0c;rw [if_neg (by omega),if_neg (by omega),if_neg (by omega),if_pos hk]
   rw [e9];exact c3U h hb hx h1 h2
 · refine ⟨_,_,e,?_⟩
   have e9:a0c st.fnd s f=c1d (st.fnd s.w.2.2) s.a f:=by unfold a0c c1d;rw [if_neg (by omega),if_neg (by omega),if_neg (by omega),if_neg (by omega),if_pos hk]
   rw [e9];exact c4L h hb hx (hp (.inl hk)) h1 h2 h3 hl2 (hr _ _)
 · refine ⟨_,_,e,?_⟩
   have e9:a0c st.fnd s f=(if (st.fnd s.w.2.2).2.1=0 then (f,5) else ({ f with prods:=U_ f.prods s.a fun p=>⟨p.left,p.right,((st.fnd s.w.2.2).2.1:Int)⟩ },0)):=by unfold a0c;rw [if_neg (by omega),if_neg (by omega),if_neg (by omega),if_neg (by omega),if_neg (by omega)]
   have h9:=c3H h hb hx (hp (.inr hk)) h1 h2 h3 hl2;rw [e9];by_cases c1:(st.fnd s.w.2.2).2.1=0
   · rw [if_pos c1,if_pos c1] at h9
     rw [if_pos c1];exact h9
   · rw [if_neg c1,if_neg c1] at h9
     rw [if_neg c1];exact h9
def b3H (t:Nat) (l:List Nat) (k:Nat):List Pd:=((l.take k).map fun (x:Nat)=>(⟨(x:Int)+(t:Int),[],0⟩:Pd))++((l.drop k).map fun (x:Nat)=>(⟨(x:Int),[],0⟩:Pd))
theorem b6E (t:Nat) (l:List Nat) (k:Nat):(b3H t l k).length=l.length:=by
 unfold b3H;rw [List.length_append,List.length_map,List.length_map,← List.length_append,List.take_append_drop]
theorem a6n (t:Nat) (l:List Nat) (k:Nat) (hk:k<l.length):(b3H t l k)[k]?=some ⟨(l[k]:Int),[],0⟩:=by
 have h1:((l.take k).map fun (x:Nat)=>(⟨(x:Int)+(t:Int),[],0⟩:Pd)).length=k:=by rw [List.length_map,List.length_take];omega
 unfold b3H;rw [List.getElem?_append_right (by omega),h1,Nat.sub_self,List.drop_eq_getElem_cons hk];rfl
theorem b6D (t:Nat) (l:List Nat) (k:Nat) (hk:k<l.length):(b3H t l k).set k ⟨(l[k]:Int)+(t:Int),[],0⟩=b3H t l (k+1):=by
 have h1:((l.take k).map fun (x:Nat)=>(⟨(x:Int)+(t:Int),[],0⟩:Pd)).length=k:=by rw [List.length_map,List.length_take];omega
 unfold b3H;rw [List.set_append_right _ _ (by omega),h1,Nat.sub_self,List.drop_eq_getElem_cons hk,List.map_cons,List.set_cons_zero,List.take_add_one,List.getElem?_eq_getElem hk,List.map_append,List.append_assoc];rfl
def fsK (st:RS) (N t k:Nat):FS:={ fs0 st N with prods:=b3H t st.prods k }
theorem b0o (st:RS) (N t:Nat):fsK st N t 0=fs0 st N:=by unfold fsK fs0 b3H;simp
theorem a2U (st:RS) (N t k:Nat):(fsK st N t k).prods.length=st.prods.length:=b6E t st.prods k
theorem b0p (st:RS) (N t k:Nat) (hk:k<st.prods.length):({ fsK st N t k with prods:=U_ (fsK st N t k).prods k fun p=>⟨(st.prods[k]:Int)+(t:Int),p.right,p.prec⟩ }:FS)=fsK st N t (k+1):=by
 have e1:U_ (fsK st N t k).prods k (fun p=>⟨(st.prods[k]:Int)+(t:Int),p.right,p.prec⟩)=b3H t st.prods (k+1):=by
  unfold U_;have e2:(fsK st N t k).prods[k]?=some ⟨(st.prods[k]:Int),[],0⟩:=a6n t st.prods k hk;rw [e2];exact b6D t st.prods k hk
 rw [e1];rfl
theorem b3V (st:RS) (N t:Nat):(fsK st N t st.prods.length).prods=st.prods.map fun (l:Nat)=>(⟨(l:Int)+(t:Int),[],0⟩:Pd):=by
 unfold fsK b3H;simp
structure FOk (st:RS) (i:Nat) (f:FS):Prop where
 l:f.levels.length=st.trm+1
 p:f.prods.length=st.prods.length
 r:∀ j (h:j<f.prods.length),f.prods[j].right.length≤i
theorem a3L (l:List Pd) (k:Nat) (g:Pd→Pd):(U_ l k g).length=l.length:=by
 unfold U_;split
 · rw [List.length_set]
 · rfl
theorem a2T {l:List Pd} {k:Nat} {g:Pd→Pd} {i:Nat} (h:∀ j (h:j<l.length),l[j].right.length≤i) (hg:∀ p:Pd,p.right.length≤i→(g p).right.length≤i+1) (j:Nat) (hj:j<(U_ l k g).length):(U_ l k g)[j].right.length≤i+1:=by
 have hj':j<l.length:=by rw [a3L] at hj;exact hj
 by_cases hk:k<l.length
 · have e8:(U_ l k g)[j]'hj=(l.set k (g l[k]))[j]'(by rw [List.length_set];exact hj'):=by congr 1;exact a1Y hk
   rw [e8,List.getElem_set];split
   · exact hg _ (h k hk)
   · exact Nat.le_succ_of_le (h j hj')
 · have e8:(U_ l k g)[j]'hj=l[j]:=by congr 1;unfold U_;rw [List.getElem?_eq_none (by omega)]
   rw [e8];exact Nat.le_succ_of_le (h j hj')
theorem FOk.step {st:RS} {i:Nat} {f:FS} (h:FOk st i f) (F:Txt→Ow) (s:Stp):FOk st (i+1) (a0c F s f).1:=by
 have hup:FOk st (i+1) f:=⟨h.l,h.p,fun j hj=>Nat.le_succ_of_le (h.r j hj)⟩;unfold a0c;split
 · exact hup
 · split
   · split
     · exact hup
     · split
       · exact hup
       · exact ⟨by show (f.levels.set _ _).length=_;rw [List.length_set];exact h.l,h.p,hup.r⟩
   · split
     · exact hup
     · split
       · exact ⟨h.l,h.p,hup.r⟩
       · split
         · split
           · exact ⟨h.l,by show (U_ _ _ _).length=_;rw [a3L];exact h.p,fun j hj=>a2T h.r (fun p hp=>by show (p.right++[_]).length≤_;rw [List.length_append];exact Nat.add_le_add_right hp 1) j hj⟩
           · split
             · exact ⟨h.l,by show (U_ _ _ _).length=_;rw [a3L];exact h.p,fun j hj=>a2T h.r (fun p hp=>by show (p.right++[_]).length≤_;rw [List.length_append];exact Nat.add_le_add_right hp 1) j hj⟩
             · exact hup
         · split
           · exact hup
           · exact ⟨h.l,by show (U_ _ _ _).length=_;rw [a3L];exact h.p,fun j hj=>a2T (g:=fun p=>⟨p.left,p.right,((F s.w.2.2).2.1:Int)⟩) h.r (fun p hp=>Nat.le_succ_of_le hp) j hj⟩
theorem FOk.fail {st:RS} {i:Nat} {f:FS} (h:FOk st i f) (p:Nat) (e:Int):FOk st i (f.fail p e):=by
 unfold FS.fail;split
 · exact h
 · exact ⟨h.l,h.p,h.r⟩
theorem RdW.laterAt {B rb j:Nat} {T:Nat→Nat} {w:World} {X:RX} {st:RS} {f:FS} {lv:Value} {rs:List Value} {mp:Option Nat} (h:RdW B T w rb X st f lv rs mp) (hj:j<st.later.length) :
 ∃ g cap,X.la=.slice (some ⟨g,0,none⟩) st.later.length cap∧∃ hj':j<X.fl.length,w.cell? ⟨g,j * 2,none⟩=some (.int .i64 (st.later[j].w.2.1:Int))∧w.cell? ⟨g,j * 2+1,none⟩=some X.fl[j]∧StpV T w rb X.fl[j] st.later[j]:=by
 have hl:=h.flen;have hj':j<X.fl.length:=by rw [hl];exact hj
 have hz:(st.later.zip X.fl).length=st.later.length:=by rw [List.length_zip,hl,Nat.min_self]
 rcases h.later.1.2 with ⟨h1,h2⟩ | ⟨g,cap,cur,h1,h2,h3,h4,h5,h6,h7⟩
 · omega
 · have hcell:∀ i,i<2→w.cell? ⟨g,j * 2+i,none⟩=(spV st.later[j] X.fl[j])[i]?:=fun i hi=>by
    have e1:=a2V (fun x:Stp×Value=>spV x.1 x.2) (sz:=2) (fun _=>rfl) (st.later.zip X.fl) j i (by rw [hz];exact hj) hi;rw [List.getElem_zip] at e1;rw [← e1];have hown:=h.later.1;rw [h1] at hown;exact hown.cellAt (j * 2+i) (by omega)
   have hm:(st.later[j],X.fl[j])∈st.later.zip X.fl:=by
    have:=List.getElem_mem (l:=st.later.zip X.fl) (n:=j) (by rw [hz];exact hj)
    rw [List.getElem_zip] at this;exact this
   exact ⟨g,cap,h1,hj',hcell 0 (by decide),hcell 1 (by decide),h.fst _ hm⟩
theorem RdW.ruls {B rb:Nat} {T:Nat→Nat} {w:World} {X:RX} {st:RS} (h:RdV B T w rb X st):RulL w X.rv st.rules:=by
 have hl:=h.rlen;have hz:(st.rules.zip X.rl).length=st.rules.length:=by rw [List.length_zip,hl,Nat.min_self]
 have hO:=h.rules.1;rcases hO.2 with ⟨h1,h2⟩ | ⟨g,cap,cur,h1,h2,h3,h4,h5,h6,h7⟩
 · exact ⟨none,0,by rw [h1,h2],fun j hj=>by omega⟩
 · refine ⟨some ⟨g,0,none⟩,cap,h1,fun j hj=>?_⟩
   have hcell:∀ i,i<3→w.cell? ⟨g,0+j * 3+i,none⟩=(rlV st.rules[j] (X.rl[j]'(by rw [hl];exact hj)))[i]?:=fun i hi=>by
    have e1:=a2V (fun x:Rl×Value=>rlV x.1 x.2) (sz:=3) (fun _=>rfl) (st.rules.zip X.rl) j i (by rw [hz];exact hj) hi;rw [List.getElem_zip] at e1;rw [Nat.zero_add,← e1];have hown:=hO;rw [h1] at hown;exact hown.cellAt (j * 3+i) (by omega)
   have hm:(st.rules[j],X.rl[j]'(by rw [hl];exact hj))∈st.rules.zip X.rl:=by
    have:=List.getElem_mem (l:=st.rules.zip X.rl) (n:=j) (by rw [hz];exact hj)
    rw [List.getElem_zip] at this;exact this
   obtain ⟨xa,xm,xc,hx⟩:=(h.rre _ hm).1;have c1:=hcell 1 (by decide);have hx':X.rl[j]'(by rw [hl];exact hj)=.slice xa xm xc:=hx;refine ⟨g,0,xa,xm,xc,rfl,u_ h3,hcell 0 (by decide),?_,hcell 2 (by decide)⟩;rw [c1,hx'];rfl
structure StOk (st:RS):Prop where
 b:BndS st
 x:∀ s∈st.later,s.w.2.2.length≤1000000
 p:∀ s∈st.later,s.k=5∨s.k=6→s.a<st.prods.length
 t:∀ t,(st.fnd t).2.1<st.trm+1
 q:∀ l∈st.prods,l≤90000
 l1:st.rules.length≤90000
 l2:st.prods.length≤90000
 l3:st.later.length≤90000
theorem b2a (st:RS):st.trm≤st.rules.length:=a0d _ _
set_option maxRecDepth 20000 in
theorem b2u {B rb:Nat} {T T1:Nat→Nat} {w wr:World} {X:RX} {st:RS} {f:FS} {lv:Value} {rs:List Value} {mp:Option Nat} {i:Nat} (h:RdW B T1 wr rb X st f lv rs mp) (hc:Chg T T1 w wr) (ho:StOk st) (hf:FOk st i f) (hi:i<st.later.length) (h0:f.err=0) :
 ∃ hj':i<X.fl.length,∃ K caps,X.fl[i]=.func (.func K) #[] caps∧Calls Tryz.prog K caps (wr.alloc (.cells #[.int .i64 (st.later[i].w.2.1:Int),X.fl[i]] 131)) fun r u=>r=.returned (.int .i64 (a0c st.fnd st.later[i] f).2)∧u.cell? ⟨wr.heap.size,0,none⟩=some (.int .i64 (st.later[i].w.2.1:Int)) ∧
  ((a0c st.fnd st.later[i] f).2=0→RdR B T w rb X st ((a0c st.fnd st.later[i] f).1.fail st.later[i].w.2.1 (a0c st.fnd st.later[i] f).2) lv u) ∧
  ((a0c st.fnd st.later[i] f).2≠0→Calls Tryz.prog 66 #[r_ rb,.int .i64 (st.later[i].w.2.1:Int),.int .i64 (a0c st.fnd st.later[i] f).2] u fun r w'=>r=.returned (.tuple #[])∧RdR B T w rb X st ((a0c st.fnd st.later[i] f).1.fail st.later[i].w.2.1 (a0c st.fnd st.later[i] f).2) lv w'):=by
 obtain ⟨g,cap,hg,hj',c0,c1,hs⟩:=h.laterAt hi;have hal:=al' wr (.cells #[.int .i64 (st.later[i].w.2.1:Int),X.fl[i]] 131);have cal:=Chg.of_below (T:=T1) hal;have hm:=List.getElem_mem hi;have hle:=b2a st;have hl1:=ho.l1;have hl2:=ho.l2;have hl3:=ho.l3;have hfl:=hf.l;have hfp:=hf.p;obtain ⟨K,caps,hv,G⟩:=c3v (h.keep hal) ho.b (hs.keep cal) (ho.x _ hm) (fun e=>by rw [hfp];exact ho.p _ hm e) (by rw [hfl];exact ho.t _) (fun j hj=>Nat.le_trans (hf.r j hj) (by omega)) (by omega) (by omega)
 have herr:(a0c st.fnd st.later[i] f).1.err=f.err:=by
  unfold a0c
  repeat (first | rfl | split)
 refine ⟨hj',K,caps,hv,G.mono ?_⟩;rintro r u ⟨e,T2,rs2,mp2,hr2,hc2⟩;have ib:Im T1 (wr.alloc (.cells #[.int .i64 (st.later[i].w.2.1:Int),X.fl[i]] 131)) wr.heap.size (.cells #[.int .i64 (st.later[i].w.2.1:Int),X.fl[i]] 131):=⟨h.fresh (Nat.le_refl _),b_ wr _⟩;have cT:=(hc.trans cal).trans hc2;refine ⟨e,(ib.keep hc2).cell rfl,fun e0=>?_,fun e0=>(c4c hr2 st.later[i].w.2.1 _ (by rw [herr];exact h0)).mono ?_⟩
 · have e9:(a0c st.fnd st.later[i] f).1.fail st.later[i].w.2.1 (a0c st.fnd st.later[i] f).2=(a0c st.fnd st.later[i] f).1:=if_pos e0
   rw [e9];exact ⟨T2,rs2,mp2,hr2,cT⟩
 · rintro r w' ⟨e8,T3,rs3,mp3,hr3,hc3⟩
   have e9:(a0c st.fnd st.later[i] f).1.fail st.later[i].w.2.1 (a0c st.fnd st.later[i] f).2={ (a0c st.fnd st.later[i] f).1 with pl:=st.later[i].w.2.1,err:=(a0c st.fnd st.later[i] f).2 }:=if_neg e0;rw [e9];exact ⟨e8,T3,rs3,mp3,hr3,cT.trans hc3⟩
theorem a7f {T:Nat→Nat} {w:World} {rb:Nat} {v:Value} {s:Stp} (h:StpV T w rb v s):∃ fn cp,v=.func fn #[] cp:=by
 rcases h with ⟨_,p,q,rfl,_⟩ | ⟨_,p,q,l,rfl,_⟩ | ⟨_,l,rfl,_⟩ | ⟨_,p,q,rfl,_⟩ | ⟨_,p,l,q,rfl,_⟩ | ⟨_,p,q,l,rfl,_⟩ <;> exact ⟨_,_,rfl⟩
theorem c1e {T:Nat→Nat} {w:World} {rb K:Nat} {caps:Array Value} {s:Stp} (h:StpV T w rb (.func (.func K) #[] caps) s):(K=169∧∃ p q,caps=#[r_ p,r_ q])∨(K=172∧∃ p q l,caps=#[r_ p,r_ q,r_ l])∨(K=131∧∃ l,caps=#[r_ l])∨(K=132∧∃ p q,caps=#[r_ p,r_ q])∨(K=196∧∃ p l q,caps=#[r_ p,r_ l,r_ q])∨(K=197∧∃ p q l,caps=#[r_ p,r_ q,r_ l]):=by
 rcases h with ⟨_,p,q,e,_⟩ | ⟨_,p,q,l,e,_⟩ | ⟨_,l,e,_⟩ | ⟨_,p,q,e,_⟩ | ⟨_,p,l,q,e,_⟩ | ⟨_,p,q,l,e,_⟩
 all_goals
  injection e with e _ ec;injection e with e
 · exact .inl ⟨e,p,q,ec⟩
 · exact .inr (.inl ⟨e,p,q,l,ec⟩)
 · exact .inr (.inr (.inl ⟨e,l,ec⟩))
 · exact .inr (.inr (.inr (.inl ⟨e,p,q,ec⟩)))
 · exact .inr (.inr (.inr (.inr (.inl ⟨e,p,l,q,ec⟩))))
 · exact .inr (.inr (.inr (.inr (.inr ⟨e,p,q,l,ec⟩))))
theorem a9A {F:Txt→Ow} {l:List Stp} {f:FS} (h:f.err≠0):a2j F l f=f:=by
 cases l with
 | nil=>rfl
 | cons s l=>rw [a2j,if_pos h]
theorem a7h {F:Txt→Ow} {l:List Stp} {i:Nat} {f:FS} (hi:i<l.length) (h:f.err=0):a2j F (l.drop i) f=a2j F (l.drop (i+1)) ((a0c F l[i] f).1.fail l[i].w.2.1 (a0c F l[i] f).2):=by
 rw [List.drop_eq_getElem_cons hi,a2j,if_neg (fun e=>e h)]
theorem c2k (st:RS):FOk st 0 st.fs:=by
 refine ⟨List.length_replicate,by show (st.prods.map _).length=_;rw [List.length_map],fun j hj=>?_⟩;have hj':j<(st.prods.map fun (l:Nat)=>(⟨(l:Int)+(st.trm:Int),[],0⟩:Pd)).length:=hj
 show ((st.prods.map fun (l:Nat)=>(⟨(l:Int)+(st.trm:Int),[],0⟩:Pd))[j]'hj').right.length≤0
 rw [List.getElem_map];exact Nat.le_refl _
theorem b7L {B rb N:Nat} {T T1:Nat→Nat} {w wr:World} {X:RX} {st:RS} {lv:Value} {rs:List Value} (h:RdW B T1 wr rb X st (fsK st N st.trm st.prods.length) lv rs none) (hc:Chg T T1 w wr) (hN:N=st.trm+1) :
 (st.nonts.length=0→RdR B T w rb X st st.fs lv wr)∧(0<st.nonts.length→wr.cell? ⟨rb,5,none⟩=some (.int .i64 0)∧wr.frozen? ⟨rb,5,none⟩=false∧RdR B T w rb X st st.fs lv (wr.setCell ⟨rb,5,none⟩ (.int .i64 ((st.trm:Int)+1)))):=by
 subst hN;have e1:(fsK st (st.trm+1) st.trm st.prods.length).levels=st.fs.levels:=rfl;have e2:(fsK st (st.trm+1) st.trm st.prods.length).prods=st.fs.prods:=b3V st _ _;refine ⟨fun h0=>?_,fun h0=>⟨c_ h.blk rfl,i_ h.blk 5,?_⟩⟩
 · have e9:fsK st (st.trm+1) st.trm st.prods.length=st.fs:=by
    have e3:st.fs=⟨List.replicate (st.trm+1) (0,0),st.prods.map fun (l:Nat)=>⟨(l:Int)+(st.trm:Int),[],0⟩,0,st.pl,st.err⟩:=by unfold RS.fs;rw [if_neg (by omega)]
    rw [e3];have e4:=b3V st (st.trm+1) st.trm;unfold fsK at e4 ⊢;unfold fs0;dsimp only at e4 ⊢;rw [e4]
   rw [e9] at h;exact ⟨T1,rs,none,h,hc⟩
 · have hk:Kept (f_ rb) wr (wr.setCell ⟨rb,5,none⟩ (.int .i64 ((st.trm:Int)+1))):=(Kept.refl (f_ rb) wr).setCell (a:=⟨rb,5,none⟩) (fun _=>rfl)
   have es:st.fs.start=(st.trm:Int)+1:=by unfold RS.fs;exact if_pos h0
   have hb2:(wr.setCell ⟨rb,5,none⟩ (.int .i64 ((st.trm:Int)+1))).heap[rb]?=some (rdK (rdC X lv st.levels st.starts st.fs) (.int .u32 (if (none:Option Nat)=none then 0 else 1)) (.int .i32 0) (.map none)):=by
    have h9:=heap_setCell (o:=5) (v:=.int .i64 ((st.trm:Int)+1)) h.blk;rw [← es] at h9 ⊢;exact h9
   obtain ⟨h2,c2⟩:=h.put (f':=st.fs) hk hb2 e1.symm e2.symm;exact ⟨T1,rs,none,h2,hc.trans c2⟩
theorem a9k (T:Txt):∀ (f a:Nat) (l:List Wd),(a4G T f a l).1.length≤l.length+f
 | 0,a,l=>Nat.le_refl _
 | f+1,a,l=>by
  rw [a4G];split
  · show l.length≤_;omega
  · split
    · show ([]:List Wd).length≤_;simp
    · refine Nat.le_trans (a9k T f _ _) ?_
      rw [List.length_append,List.length_singleton];omega
theorem a5C (s:Txt) (h:(a0w s).2.2=0):(a0w s).1.length≤4000:=by
 unfold a0w at h ⊢;split at h
 · cases h
 · rename_i h4
   rw [if_neg h4]
   have:=a9k s s.length (skL false s) []
   simp at this
   omega
abbrev gm0:Obj:=.cells #[.slice none 0 0,.slice none 0 0,.slice none 0 0,.slice none 0 0,.int .i64 0] 27
def X0 (v:Value):RX:=⟨v,.slice none 0 0,.slice none 0 0,.slice none 0 0,.slice none 0 0,.slice none 0 0,.slice none 0 0,.slice none 0 0,[],[]⟩
theorem RdV.begin {w u:World} {g cap R:Nat} {ws:List Wd} (hb:w.heap.size≤R) (hR:R<u.heap.size) (hO:u.ownsRow w.heap.size 90 3 (.slice (some ⟨g,0,none⟩) ws.length cap) ws.length (ws.flatMap wdV)) (hg:g≠R) (hk:Below w.heap.size w u) (he:Endd ws) :
 RdV w.heap.size (a0x (a0x (fun _=>0) R 77) u.heap.size 99) (u.alloc (rdO (X0 (.slice (some ⟨g,0,none⟩) ws.length cap)) 0 0 0 0)) u.heap.size (X0 (.slice (some ⟨g,0,none⟩) ws.length cap)) (RS.init ws)∧Chg (fun _=>0) (a0x (a0x (fun _=>0) R 77) u.heap.size 99) w (u.alloc (rdO (X0 (.slice (some ⟨g,0,none⟩) ws.length cap)) 0 0 0 0)):=by
 have hal:=al' u (rdO (X0 (.slice (some ⟨g,0,none⟩) ws.length cap)) 0 0 0 0);have hz:(u.alloc (rdO (X0 (.slice (some ⟨g,0,none⟩) ws.length cap)) 0 0 0 0)).heap.size=u.heap.size+1:=World.size_alloc ..;have hgl:=(hO.lt g rfl).2;have hws:=hk.size;have hnil:∀ (i:Nat) (te:TypeId) (sz:Nat),OwnI (u.alloc (rdO (X0 (.slice (some ⟨g,0,none⟩) ws.length cap)) 0 0 0 0)) w.heap.size (a0x (a0x (fun _=>0) R 77) u.heap.size 99) i te sz (.slice none 0 0) 0 []:=fun i te sz=>⟨World.ownsRow_nil _ _ _ _,fun b e=>by cases e⟩
 have ht0:∀ b,b≠u.heap.size→b≠R→a0x (a0x (fun _=>0) R 77) u.heap.size 99 b=0:=fun b h1 h2=>by
  show (if b=u.heap.size then 99 else if b=R then 77 else 0)=0
  rw [if_neg h1,if_neg h2]
 refine ⟨⟨b_ u _,if_pos rfl,fun b hn=>?_,by omega,?_,he,hnil _ _ _,rfl,fun x hx=>(by cases hx),hnil _ _ _,hnil _ _ _,hnil _ _ _,hnil _ _ _,hnil _ _ _,hnil _ _ _,rfl,fun x hx=>(by cases hx)⟩,Kept.of_below (a_ hk hal),fun b hb9=>ht0 b (by omega) (by omega)⟩
 · by_cases h1:b=u.heap.size
   · omega
   · by_cases h2:b=R
     · omega
     · exact absurd (ht0 b h1 h2) hn
 · obtain ⟨a,c,e,hc,-,hat⟩:=a4k (sz:=3) (cs:=wdV) (fun _=>rfl) (by decide) (j_ hO hal)
   injection e with e1 _ e3;subst e1 e3;refine ⟨g,0,cap,rfl,hc,ht0 g (by omega) hg,by omega,fun j hj=>?_⟩;obtain ⟨b,o,e4,h1,h2⟩:=hat j hj;injection e4 with e4;injection e4 with e4 e5 _;subst e4 e5;exact ⟨h2 0 (by decide),h2 1 (by decide),h2 2 (by decide)⟩
theorem b0i (ws:List Wd):(RS.init ws).pot=4 * ws.length:=by unfold RS.init RS.pot RS.lens;simp
theorem b8z (s:Txt):Endd (wsE s):=⟨(a0w s).1,s.length,rfl⟩
theorem RdW.gm {B rb:Nat} {T:Nat→Nat} {w:World} {X:RX} {st:RS} {f:FS} {lv:Value} {rs:List Value} {mp:Option Nat} (h:RdW B T w rb X st f lv rs mp) (he:st.err=0):GmV w X.rv X.nv lv X.pv ⟨st.rules,st.nonts,f.levels,f.prods,f.start⟩:=by
 refine ⟨?_,b8A h.nonts.1,b9L h.levels.1,?_⟩
 · have hl:=h.rlen
   have hz:(st.rules.zip X.rl).length=st.rules.length:=by rw [List.length_zip,hl,Nat.min_self]
   have hO:=h.rules.1;rw [← hz] at hO;obtain ⟨a,cap,e,hc,hn,hat⟩:=a4k (sz:=3) (cs:=fun x:Rl×Value=>rlV x.1 x.2) (fun _=>rfl) (by decide) hO;refine ⟨a,cap,by rw [e,hz],by rw [← hz];exact hc,hn,fun j hj=>?_⟩;have hj2:j<(st.rules.zip X.rl).length:=by rw [hz];exact hj
   obtain ⟨b,o,e1,h1,h2⟩:=hat j hj2;have hm:=List.getElem_mem hj2;have hR:=(h.rre _ hm).2 he;rw [List.getElem_zip] at h2 hR;exact ⟨b,o,e1,h1,X.rl[j]'(by rw [hl];exact hj),h2 0 (by decide),h2 1 (by decide),h2 2 (by decide),hR.1⟩
 · have hl:=h.rslen
   have hz:(f.prods.zip rs).length=f.prods.length:=by rw [List.length_zip,hl,Nat.min_self]
   have hO:=h.prods.1;rw [← hz] at hO;obtain ⟨a,cap,e,hc,hn,hat⟩:=a4k (sz:=3) (cs:=fun x:Pd×Value=>prV x.1 x.2) (fun _=>rfl) (by decide) hO;refine ⟨a,cap,by rw [e,hz],by rw [← hz];exact hc,hn,fun j hj=>?_⟩;have hj2:j<(f.prods.zip rs).length:=by rw [hz];exact hj
   obtain ⟨b,o,e1,h1,h2⟩:=hat j hj2;rw [List.getElem_zip] at h2;have hjr:j<rs.length:=by rw [hl];exact hj
   exact ⟨b,o,e1,h1,rs[j],h2 0 (by decide),h2 1 (by decide),h2 2 (by decide),b6l (h.rights j hjr hj).1⟩
set_option maxRecDepth 20000 in
theorem c1F (s:Txt) (w:World) (_hs:s.length≤1000000) (h0:(a0w s).2.2=0) :
 ∀ u v,WdM (w.alloc gm0) u v (a0w s).1→∃ A C u6,(Builtin.append_ #[86,86] 86 #[v,.slice (some ⟨u.heap.size,0,none⟩) 1 1]).run Tryz.prog (u.alloc (.cells #[.int .i64 0,.int .i64 (s.length:Int),.string ⟨#[]⟩] 90))=.ok (.slice A (wsE s).length C) u6 ∧
  ∃ T X,RdV w.heap.size T (u6.alloc (rdO (X0 (.slice A (wsE s).length C)) 0 0 0 0)) u6.heap.size X (RS.init (wsE s))∧Chg (fun _=>0) T w (u6.alloc (rdO (X0 (.slice A (wsE s).length C)) 0 0 0 0))∧T w.heap.size=77∧(u6.alloc (rdO (X0 (.slice A (wsE s).length C)) 0 0 0 0)).heap[w.heap.size]?=some gm0:=fun u v hW=>by
 obtain ⟨i0,hi0,za,zb,zc⟩:=info_parts Tryz.infoWd;have hal0:=al' w gm0;have hz0:(w.alloc gm0).heap.size=w.heap.size+1:=World.size_alloc ..;have hlow:=hW.low;have hOI:OwnI u (w.alloc gm0).heap.size (fun _=>0) 0 90 3 v (a0w s).1.length ((a0w s).1.flatMap wdV):=⟨hW.own,fun _ _=>rfl⟩;have hlen:=a5C s h0;obtain ⟨A,C,u6,hrun,hO,hk,-,-⟩:=a0p (tS:=86) (ty:=86) Tryz.underlying86 hi0 za zb zc rfl (by decide) hOI #[.int .i64 0,.int .i64 (s.length:Int),.string ⟨#[]⟩] rfl (fun x hx=>by simp at hx;rcases hx with rfl | rfl | rfl <;> rfl) (by omega) (by decide) hlow.size (fun _ _=>rfl);have el:(wsE s).length=(a0w s).1.length+1:=by unfold wsE;rw [List.length_append];rfl
 have ef:(wsE s).flatMap wdV=(a0w s).1.flatMap wdV++[.int .i64 0,.int .i64 (s.length:Int),.string ⟨#[]⟩]:=by unfold wsE;rw [List.flatMap_append,List.flatMap_singleton];rfl
 rw [← el] at hrun hO;have hO1:u6.ownsRow (w.alloc gm0).heap.size 90 3 (.slice A (wsE s).length C) (wsE s).length ((wsE s).flatMap wdV):=by rw [ef];exact hO.1
 refine ⟨A,C,u6,hrun,?_⟩;rcases hO1.2 with ⟨h1,h2⟩ | ⟨g,cap,cur,h1,h2,h3,-⟩
 · omega
 · injection h1 with h1 _ h5
   subst h1 h5;have hkB:Below (w.alloc gm0).heap.size (w.alloc gm0) u6:=hlow.trans (hk.below (fun k e=>(hW.own.lt k e).1) hlow.size);have hBw:Below w.heap.size w u6:=a_ hal0 hkB;have hgR:u6.heap[w.heap.size]?=some gm0:=(hkB.block _ (by omega)).trans (b_ w gm0);obtain ⟨hR,hC⟩:=RdV.begin (R:=w.heap.size) (Nat.le_refl _) (u_ hgR) (b2Y hO1 (by omega)) (by omega) hBw (b8z s);have hlt:=u_ hgR;refine ⟨_,_,hR,hC,?_,g_ hgR (al' u6 _)⟩
   show (if w.heap.size=u6.heap.size then 99 else if w.heap.size=w.heap.size then 77 else 0)=77
   rw [if_neg (by omega),if_pos rfl]
end Go.Proofs.YtjgedijclkoemaaGreatDoor
