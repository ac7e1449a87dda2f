/- What the five laws of layer 17 share, part 27: no statement of its own. -/
import Derived.Test.YtjgedijclkoemaaGreatDoorJ24
namespace Go.Proofs.YtjgedijclkoemaaGreatDoor
open Go.RowKit Go.Maps
structure BndS (st:RS):Prop where
 l1:st.skips.length≤90000
 l2:st.terms.length≤90000
 l3:st.nons.length≤90000
 x1:∀ x∈st.skips,x.2.2.length≤1000000
 x2:∀ x∈st.terms,x.2.2.length≤1000000
 x3:∀ x∈st.nons,x.2.2.length≤1000000
def RdQ (B:Nat) (T:Nat→Nat) (w:World) (rb:Nat) (X:RX) (st:RS) (f:FS) (lv:Value) (rs:List Value) (w':World):Prop:=∃ T' mp,RdW B T' w' rb X st f lv rs mp∧Chg T T' w w'
set_option maxRecDepth 20000 in
set_option maxHeartbeats 8000000 in
theorem c0g {B rb:Nat} {T:Nat→Nat} {w:World} {X:RX} {st:RS} {f:FS} {lv:Value} {rs:List Value} {mp:Option Nat} (h:RdW B T w rb X st f lv rs mp) (hb:BndS st) (t:Txt) (ht:t.length≤1000000) :
 Calls Tryz.prog 133 #[.pointer (some ⟨rb,8,none⟩),.string (e_ t)] w fun r w'=>r=.returned (owV (st.fnd t))∧RdQ B T w rb X st f lv rs w':=by
 have hmf:∀ (fn:Fn) (first cap:Array Value) (w:World),(Instr.makeFunc fn first cap).run Tryz.prog w=.ok (.func fn first cap) w:=fun _ _ _ _=>rfl
 obtain ⟨W1,hW1⟩:∃ y,w.alloc a1Q=y:=⟨_,rfl⟩;have hz1:W1.heap.size=w.heap.size+1:=by rw [← hW1];exact World.size_alloc ..
 have hB1:Below w.heap.size w W1:=by rw [← hW1];exact al' w _
 have hr1:W1.heap[w.heap.size]?=some a1Q:=by rw [← hW1];exact b_ w _
 obtain ⟨h1,c1⟩:=h.aside (q:=w.heap.size) hB1 (Nat.le_refl _) (by omega);have hrb:=u_ h.blk;have hne:rb≠w.heap.size:=by omega
 have hq7:a0x T w.heap.size 77 w.heap.size=77:=if_pos rfl;obtain ⟨o,ho⟩:∃ o,st.fnd t=o:=⟨_,rfl⟩
 have HF:Hid (∀ T3 m F1,RdW B T3 F1 rb X st f lv rs (some m)→Chg (a0x T w.heap.size 77) T3 W1 F1→F1.heap[w.heap.size]?=some a1Q∧F1.cell? ⟨rb,14,none⟩=some (.map (some m))∧(Instr.lookup 103 (.map (some m)) (.string (e_ t)) false).run Tryz.prog F1=.ok (owV o) F1∧RdQ B T w rb X st f lv rs (((F1.setCell ⟨w.heap.size,0,none⟩ (.int .i64 (o.1:Int))).setCell ⟨w.heap.size,1,none⟩ (.int .i64 (o.2.1:Int))).setCell ⟨w.heap.size,2,none⟩ (.int .i64 (o.2.2:Int)))):=hid (fun T3 m F1 h3 c3=>by
  obtain ⟨-,n,hM⟩:=h3.map m rfl;have hbx:F1.heap[w.heap.size]?=some a1Q:=c3.kept.blk hr1 (fun e=>e.2 hq7);have hk:=hM.look1 t ht;have e9:(a4l st.told (fun _=>none) t).getD (0,0,0)=o:=ho;rw [e9] at hk;have hF:Kept (f_ w.heap.size) F1 (((F1.setCell ⟨w.heap.size,0,none⟩ (.int .i64 (o.1:Int))).setCell ⟨w.heap.size,1,none⟩ (.int .i64 (o.2.1:Int))).setCell ⟨w.heap.size,2,none⟩ (.int .i64 (o.2.2:Int))):=(((Kept.refl (f_ w.heap.size) F1).setCell (a:=⟨w.heap.size,0,none⟩) (fun _=>rfl)).setCell (a:=⟨w.heap.size,1,none⟩) (fun _=>rfl)).setCell (a:=⟨w.heap.size,2,none⟩) (fun _=>rfl);have ht3:T3 w.heap.size=77:=(c3.tag w.heap.size (by omega)).trans hq7;have c13:=c1.trans c3;refine ⟨hbx,c_ h3.blk rfl,hk,T3,some m,h3.wrote hF ht3,?_,c13.tag⟩;exact c13.kept.step hF (fun k hk9 e=>absurd hk9 (by rw [show k=w.heap.size from e];exact Nat.lt_irrefl _)))
 have GD:Hid (Calls Tryz.prog 170 #[.pointer (some ⟨rb,11,none⟩),b6X rb] W1 fun r F1=>r=.returned (.tuple #[])∧∃ T3 m,RdW B T3 F1 rb X st f lv rs (some m)∧Chg (a0x T w.heap.size 77) T3 W1 F1):=hid (by
  cases mp with
  | none =>
   refine (doC (c:=rdC X lv st.levels st.starts f) st.skips st.terms st.nons h1.blk (h1.skips.wrow (_n:=0) h1.rt (by decide)) (h1.terms.wrow (_n:=0) h1.rt (by decide)) (h1.nons.wrow (_n:=0) h1.rt (by decide)) hb.l1 hb.l2 hb.l3 hb.x1 hb.x2 hb.x3).mono ?_;rintro r F1 ⟨e,hblk,⟨n,hM⟩,hk,hs⟩;obtain ⟨h3,c3⟩:=h1.mapped hk hblk (Nat.le_refl _) hs hM;exact ⟨e,_,_,h3,c3⟩
  | some m =>
   refine (c4g (b6X rb) (c_ h1.blk rfl)).mono ?_;rintro r F1 ⟨e,rfl⟩;exact ⟨e,_,m,h1,Chg.refl _ _⟩)
 rw [ho];clear h h1 c1 hb hr1 hB1 ho hq7;obtain ⟨oa,ob,oc⟩:=o
 try dsimp only at *
 go_enter Tryz.func133,Tryz.ntmps133
 go_wp2_with (go_at_call 170;refine GD.out.mono ?_;clear GD;rintro e F1 ⟨rfl,T3,m,h3,c3⟩;obtain ⟨hbx,c14,hlk,hQ⟩:=HF.out T3 m F1 h3 c3;clear HF h3 c3;have hQ:=hid hQ;obtain ⟨⟨q0,q1⟩,⟨q2,q3⟩,⟨q4,q5⟩,q6,q7,q8⟩:=a6a hbx (.int .i64 (oa:Int)) (.int .i64 (ob:Int)) (.int .i64 (oc:Int));clear hbx)
 refine bodyPost_ret (v:=owV (oa,ob,oc)) (by simp [results,Tryz.results133,go_sem,q6,q7,q8]) rfl ⟨rfl,?_⟩;exact hQ.out
theorem b4y {R F:World→Prop} {G:Prop} (h:(∀ V,F V→R V)→G) (pf:∀ V,F V→R V):G:=h pf
def RdR (B:Nat) (T:Nat→Nat) (w:World) (rb:Nat) (X:RX) (st:RS) (f:FS) (lv:Value) (w':World):Prop:=∃ T' rs mp,RdW B T' w' rb X st f lv rs mp∧Chg T T' w w'
set_option maxRecDepth 20000 in
theorem c3h (o:Ow) (u:World):(Instr.field 188 (owV o) 0).run Tryz.prog u=.ok (.int .i64 (o.1:Int)) u∧(Instr.field 188 (owV o) 1).run Tryz.prog u=.ok (.int .i64 (o.2.1:Int)) u∧(Instr.field 188 (owV o) 2).run Tryz.prog u=.ok (.int .i64 (o.2.2:Int)) u:=⟨by kernel_rfl,by kernel_rfl,by kernel_rfl⟩
set_option maxRecDepth 20000 in
theorem b6W {B rb p q:Nat} {T:Nat→Nat} {w:World} {X:RX} {st:RS} {f:FS} {lv:Value} {rs:List Value} {mp:Option Nat} {x:Wd} (h:RdW B T w rb X st f lv rs mp) (hb:BndS st) (hx:x.2.2.length≤1000000) (ip:Im T w p (a3a rb)) (iq:Im T w q (s_ x)) :
 Calls Tryz.prog 133 #[.pointer (some ⟨rb,8,none⟩),.string (e_ x.2.2)] w fun r w'=>r=.returned (owV (st.fnd x.2.2))∧∃ T' mp',RdW B T' w' rb X st f lv rs mp'∧Chg T T' w w'∧Im T' w' p (a3a rb)∧Im T' w' q (s_ x):=by
 refine (c0g h hb x.2.2 hx).mono ?_;rintro r w' ⟨e,T',mp',hr,hc⟩;exact ⟨e,T',mp',hr,hc,ip.keep hc,iq.keep hc⟩
set_option maxRecDepth 20000 in
set_option maxHeartbeats 8000000 in
theorem c3O {B rb p q:Nat} {T:Nat→Nat} {w:World} {X:RX} {st:RS} {f:FS} {lv:Value} {rs:List Value} {mp:Option Nat} {x:Wd} (h:RdW B T w rb X st f lv rs mp) (hb:BndS st) (hx:x.2.2.length≤1000000) (ip:Im T w p (a3a rb)) (iq:Im T w q (s_ x)) :
 Calls Tryz.prog 169 #[r_ p,r_ q] w fun r w'=>r=.returned (.int .i64 (if (st.fnd x.2.2).1<x.2.1 then 6 else 0))∧RdR B T w rb X st f lv w':=by
 have hbd:Below w.heap.size w w.drew:=(Below.refl _ w).drew;have cd:=Chg.of_below (T:=T) hbd;have hrd:=h.keep hbd;have ipd:=ip.keep cd;have iqd:=iq.keep cd;have G:=b6W hrd hb hx ipd iqd;have G:Hid (Calls Tryz.prog 133 #[.pointer (some ⟨rb,8,none⟩),.string (e_ x.2.2)] w.drew fun r w'=>r=.returned (owV (st.fnd x.2.2))∧(w'.cell? ⟨p,0,none⟩=some (r_ rb)∧w'.cell? ⟨q,1,none⟩=some (.int .i64 (x.2.1:Int))∧w'.cell? ⟨q,2,none⟩=some (.string (e_ x.2.2)))∧RdR B T w rb X st f lv w'):=hid (G.mono (fun r w' ⟨e,T',mp',hr,hc,i1,i2⟩=>⟨e,⟨i1.cell rfl,i2.cell rfl,i2.cell rfl⟩,T',rs,mp',hr,cd.trans hc⟩));have d0:w.drew.cell? ⟨p,0,none⟩=some (r_ rb):=ipd.cell rfl;have d1:w.drew.cell? ⟨q,1,none⟩=some (.int .i64 (x.2.1:Int)):=iqd.cell rfl;have d2:w.drew.cell? ⟨q,2,none⟩=some (.string (e_ x.2.2)):=iqd.cell rfl;obtain ⟨o,ho⟩:∃ o,st.fnd x.2.2=o:=⟨_,rfl⟩;rw [ho] at G ⊢;have hfd:∀ u:World,(Instr.field 188 (owV o) 0).run Tryz.prog u=.ok (.int .i64 (o.1:Int)) u:=fun u=>(c3h o u).1
 clear h hb hx ip iq hbd cd hrd ipd iqd ho;obtain ⟨xk,xp,xt⟩:=x;obtain ⟨oa,ob,oc⟩:=o
 try dsimp only at *
 by_cases hlt:oa<xp
 · have hltz:(oa:Int)<(xp:Int):=by omega
   rw [if_pos hlt];clear hlt;go_enter Tryz.func169,Tryz.ntmps169
   go_wp2_with fail
   go_region_held3 (fun w'=>w'.cell? ⟨p,0,none⟩=some (r_ rb)∧w'.cell? ⟨q,1,none⟩=some (.int .i64 (xp:Int))∧w'.cell? ⟨q,2,none⟩=some (.string (e_ xt))) (go_keep) ((go_at_call 133;refine G.out.mono ?_;rintro e u1 ⟨rfl,⟨s0,s1,s2⟩,hQ⟩;have hQ:=hid hQ))
   all_goals
    go_wp2;go_ret;exact ⟨rfl,hQ.out⟩
 · have hltz:¬ (oa:Int)<(xp:Int):=by omega
   rw [if_neg hlt];clear hlt;go_enter Tryz.func169,Tryz.ntmps169
   go_wp2_with fail
   go_region_held3 (fun w'=>w'.cell? ⟨p,0,none⟩=some (r_ rb)∧w'.cell? ⟨q,1,none⟩=some (.int .i64 (xp:Int))∧w'.cell? ⟨q,2,none⟩=some (.string (e_ xt))) (go_keep) ((go_at_call 133;refine G.out.mono ?_;rintro e u1 ⟨rfl,⟨s0,s1,s2⟩,hQ⟩;have hQ:=hid hQ))
   all_goals
    go_wp2;go_ret;exact ⟨rfl,hQ.out⟩
set_option maxRecDepth 20000 in
set_option maxHeartbeats 8000000 in
theorem c4O {B rb l:Nat} {T:Nat→Nat} {w:World} {X:RX} {st:RS} {f:FS} {lv:Value} {rs:List Value} {mp:Option Nat} {a:Nat} (h:RdW B T w rb X st f lv rs mp) (il:Im T w l (c2T (decide (a≠0)))) :
 Calls Tryz.prog 131 #[r_ l] w fun r w'=>r=.returned (.int .i64 (if a=0 then 0 else 6))∧RdR B T w rb X st f lv w':=by
 have hQ:Hid (RdR B T w rb X st f lv w):=hid ⟨T,rs,mp,h,Chg.refl _ _⟩;have d0:w.cell? ⟨l,0,none⟩=some (.bool (decide (a≠0))):=il.cell rfl;clear h il;by_cases ha:a=0
 · rw [if_pos ha]
   rw [decide_eq_false (fun e=>e ha)] at d0;clear ha;go_enter Tryz.func131,Tryz.ntmps131
   go_wp2;go_ret;exact ⟨rfl,hQ.out⟩
 · rw [if_neg ha]
   rw [decide_eq_true (show a≠0 from ha)] at d0;clear ha;go_enter Tryz.func131,Tryz.ntmps131
   go_wp2;go_ret;exact ⟨rfl,hQ.out⟩
theorem RdW.put {B rb:Nat} {T:Nat→Nat} {w F:World} {X:RX} {st:RS} {f f':FS} {lv:Value} {rs:List Value} {mp:Option Nat} (h:RdW B T w rb X st f lv rs mp) (hk:Kept (f_ rb) w F) (hb:F.heap[rb]?=some (rdK (rdC X lv st.levels st.starts f') (.int .u32 (if mp=none then 0 else 1)) (.int .i32 0) (.map mp))) (e1:f'.levels=f.levels) (e2:f'.prods=f.prods) :
 RdW B T F rb X st f' lv rs mp∧Chg T T w F:=by
 have hr:=u_ h.blk;have ht:∀ b,b<w.heap.size→T b=T b:=fun _ _=>rfl
 have hc:Chg T T w F:=⟨hk.mono (fun k _ e=>by rw [show k=rb from e,h.rt];decide),ht⟩;have hF:∀ i,i≠99→∀ b,f_ rb b→T b≠i:=fun i hi b e=>by rw [show b=rb from e,h.rt];exact hi.symm
 refine ⟨⟨hb,h.rt,fun b hn=>⟨(h.own b hn).1,Nat.lt_of_lt_of_le (h.own b hn).2 hk.size⟩,Nat.le_trans h.base hk.size,h.rules.kept hk (hF 1 (by decide)) ht,h.rlen,fun x hx=>(h.rre x hx).keep hc,h.nonts.kept hk (hF 2 (by decide)) ht,h.skips.kept hk (hF 8 (by decide)) ht,h.terms.kept hk (hF 9 (by decide)) ht,h.nons.kept hk (hF 10 (by decide)) ht,h.later.kept hk (hF 15 (by decide)) ht,h.flen,fun x hx=>(h.fst x hx).keep hc,?_,?_,?_,?_,fun m e=>?_⟩,hc⟩
 · rw [e1];exact h.levels.kept hk (hF 3 (by decide)) ht
 · rw [e2];exact h.prods.kept hk (hF 4 (by decide)) ht
 · rw [e2];exact h.rslen
 · rw [e2]
   exact fun j a b=>(h.rights j a b).kept hk (hF (100+j) (by omega)) ht
 · obtain ⟨t5,n,hM⟩:=h.map m e
   exact ⟨t5,n,hM.keep hk (fun e9=>by rw [show m=rb from e9,h.rt] at t5;cases t5)⟩
def RulL (w:World) (v:Value) (l:List Rl):Prop:=∃ a cap,v=.slice a l.length cap∧∀ j (h:j<l.length),∃ b o xa xm xc,a=some ⟨b,o,none⟩∧b<w.heap.size∧w.cell? ⟨b,o+j * 3,none⟩=some (.string (e_ l[j].name))∧w.cell? ⟨b,o+j * 3+1,none⟩=some (.slice xa xm xc)∧w.cell? ⟨b,o+j * 3+2,none⟩=some (.bool l[j].skip)
theorem RulL.keep {w u:World} {v:Value} {l:List Rl} (h:RulL w v l) (hu:Below w.heap.size w u):RulL u v l:=by
 obtain ⟨a,cap,e,hat⟩:=h;refine ⟨a,cap,e,fun j hj=>?_⟩;obtain ⟨b,o,xa,xm,xc,e1,h1,x0,x1,x2⟩:=hat j hj;exact ⟨b,o,xa,xm,xc,e1,Nat.lt_of_lt_of_le h1 hu.size,d_ hu x0,d_ hu x1,d_ hu x2⟩
theorem RulL.at {w:World} {a:Option Addr} {n cap:Nat} {l:List Rl} (h:RulL w (.slice a n cap) l) {j:Nat} (hj:j<l.length):∃ b o xa xm xc,a=some ⟨b,o,none⟩∧w.cell? ⟨b,o+j * 3,none⟩=some (.string (e_ l[j].name))∧w.cell? ⟨b,o+j * 3+1,none⟩=some (.slice xa xm xc)∧w.cell? ⟨b,o+j * 3+2,none⟩=some (.bool l[j].skip):=by
 obtain ⟨a',cap',e,hat⟩:=h;injection e with e1 _ _;subst e1;obtain ⟨b,o,xa,xm,xc,e2,_,y0,y1,y2⟩:=hat j hj;exact ⟨b,o,xa,xm,xc,e2,y0,y1,y2⟩
theorem b2B {w:World} {v:Value} {l:List Rl} (h:Lst 3 RuleAt w v l):RulL w v l:=by
 obtain ⟨a,cap,e,_,_,hat⟩:=h;refine ⟨a,cap,e,fun j hj=>?_⟩;obtain ⟨b,o,e1,h1,h2⟩:=hat j hj;obtain ⟨v,y0,y1,y2,xa,xc,e9,_⟩:=h2;rw [e9] at y1;exact ⟨b,o,xa,_,xc,e1,h1,y0,y1,y2⟩
set_option maxRecDepth 20000 in
set_option maxHeartbeats 8000000 in
theorem b2c (rv nv lv pv:Value) (st:Int) (l:List Rl) (w:World) (h:RulL w rv l) (hl:l.length≤1000000) :
 Calls Tryz.prog 45 #[gmA rv nv lv pv st] w fun e w'=>e=.returned (.int .i64 (a3z l l.length:Int))∧Below w.heap.size w w':=by
 obtain ⟨a,cap,hrv,-⟩:=id h;subst hrv;have hB1:Hid (Below w.heap.size w (w.alloc (.cells #[.slice a l.length cap,nv,lv,pv,.int .i64 st] 27))):=hid (al' w _);have c0:(w.alloc (.cells #[.slice a l.length cap,nv,lv,pv,.int .i64 st] 27)).cell? ⟨w.heap.size,0,none⟩=some (.slice a l.length cap):=c_ (b_ w _) rfl;obtain ⟨W1,hW1⟩:∃ x,w.alloc (.cells #[.slice a l.length cap,nv,lv,pv,.int .i64 st] 27)=x:=⟨_,rfl⟩;rw [hW1] at hB1 c0;have h0:=hid (h.keep hB1.out);clear h;obtain ⟨n,hnn⟩:∃ n,Hid (l.length=n):=⟨_,hid rfl⟩;obtain ⟨RR,hRR⟩:∃ x,Hid (a3z l l.length=x):=⟨_,hid rfl⟩;rw [hRR.out];rw [hnn.out] at hl h0 hRR c0 hW1 ⊢;go_enter Tryz.func45,Tryz.ntmps45
 go_wp2;clear hW1 c0;go_loopw [3,9] (fun x i wr=>∃ k:Nat,k≤n∧i=.int .i64 (k:Int)∧x=.int .i64 (a3z l k:Int)∧Hid (Below W1.heap.size W1 wr)) (fun _ i _=>n - (intOf i).toNat)
 case atStart=>exact ⟨0,Nat.zero_le _,rfl,rfl,hid (Below.refl _ _)⟩
 case round =>
  obtain ⟨k,hk,rfl,rfl,hw⟩:=hrel;by_cases hlt:k<n
  · have hltz:(k:Int)<(n:Int):=by omega
    have hkl:k<l.length:=by rw [hnn.out];exact hlt
    obtain ⟨b,o,xa,xm,xc,he,x0,x1,x2⟩:=(h0.out.keep hw.out).at hkl;subst he;have hs:=a3T hkl;have hle:=a0d l k;obtain ⟨t0,ht0⟩:∃ x,a3z l k=x:=⟨_,rfl⟩;rw [ht0] at hs hle ⊢;clear ht0;have hwn:=hid (a_ hw.out (al' wr (.cells #[.string (e_ l[k].name),.slice xa xm xc,.bool l[k].skip] 62)));cases hsk:l[k].skip with
    | true =>
     rw [hsk] at x2 hs hwn;rw [if_pos rfl,Nat.add_zero] at hs;have hsH:=hid hs;clear hs;go_wp2;go_roundw
     case rel=>exact ⟨k+1,by omega,by go_num,by rw [hsH.out];rfl,hwn⟩
     case measure=>simp [intOf];omega
    | false =>
     rw [hsk] at x2 hs hwn;rw [if_neg (by decide)] at hs;have hsH:=hid hs;clear hs;have hlz:(t0:Int)≤1000000:=by omega
     go_wp2;go_roundw
     case rel=>exact ⟨k+1,by omega,by go_num,by rw [hsH.out];go_num,hwn⟩
     case measure=>simp [intOf];omega
  · have hltz:¬ (k:Int)<(n:Int):=by omega
    obtain rfl:k=n:=by omega
    go_wp2;go_ret;exact ⟨by rw [hRR.out];rfl,a_ hB1.out hw.out⟩
theorem a1N {α:Type} {sz:Nat} (cs:α→List Value) (hc:∀ x,(cs x).length=sz):∀ (l:List α) (j i:Nat) (y:α) (v:Value) (h:j<l.length),i<sz→(cs l[j]).set i v=cs y→(l.flatMap cs).set (j * sz+i) v=(l.set j y).flatMap cs
 | [],j,i,y,v,h,_,_=>absurd h (Nat.not_lt_zero _)
 | a :: l,0,i,y,v,h,hi,e=>by
  rw [List.flatMap_cons,List.set_cons_zero,List.flatMap_cons,Nat.zero_mul,Nat.zero_add,List.set_append_left _ _ (by rw [hc];exact hi)];have e:(cs a).set i v=cs y:=e;rw [e]
 | a :: l,j+1,i,y,v,h,hi,e=>by
  have h1:j<l.length:=by simpa using h
  have e2:(j+1) * sz+i=(cs a).length+(j * sz+i):=by rw [hc,Nat.succ_mul];omega
  rw [List.flatMap_cons,List.set_cons_succ,List.flatMap_cons,e2,List.set_append_right _ _ (Nat.le_add_right _ _),Nat.add_sub_cancel_left,a1N cs hc l j i y v h1 hi e]
theorem a5B {α β:Type}:∀ (l:List α) (m:List β) (j:Nat) (a:α) (b:β),(l.set j a).zip (m.set j b)=(l.zip m).set j (a,b)
 | [],m,j,a,b=>by simp
 | x :: l,[],j,a,b=>by cases j <;> simp
 | x :: l,y :: m,0,a,b=>by simp
 | x :: l,y :: m,j+1,a,b=>by
  rw [List.set_cons_succ,List.set_cons_succ,List.zip_cons_cons,a5B l m j a b,List.zip_cons_cons,List.set_cons_succ]
theorem OwnI.setc {w:World} {B i sz n g k cap:Nat} {T:Nat→Nat} {te:TypeId} {xs:List Value} (h:OwnI w B T i te sz (.slice (some ⟨g,0,none⟩) n cap) n xs) (y:Value):OwnI (w.setCell ⟨g,k,none⟩ y) B T i te sz (.slice (some ⟨g,0,none⟩) n cap) n (xs.set k y):=⟨b9g h.1 y,h.2⟩
theorem RdW.chgP {B rb j0:Nat} {T T':Nat→Nat} {w F:World} {X:RX} {st:RS} {f f':FS} {lv:Value} {rs rs':List Value} {mp:Option Nat} (h:RdW B T w rb X st f lv rs mp) (hk:Kept (fun b=>T b=4∨T b=100+j0) w F) (ht:∀ b,b<w.heap.size→T' b=T b) (ho:∀ b,T' b≠0→B≤b∧b<F.heap.size)
 (hp:OwnI F B T' 4 64 3 X.pv f'.prods.length ((f'.prods.zip rs').flatMap fun x=>prV x.1 x.2)) (hl:rs'.length=f'.prods.length) (hr:∀ j (h:j<rs'.length) (h':j<f'.prods.length),OwnI F B T' (100+j) 3 1 rs'[j] f'.prods[j].right.length (f'.prods[j].right.flatMap csI))
 (e1:f'.levels=f.levels) (e2:f'.start=f.start) (e3:f'.pl=f.pl) (e4:f'.err=f.err):RdW B T' F rb X st f' lv rs' mp∧Chg T T' w F:=by
 have hrb:=u_ h.blk;have hc:Chg T T' w F:=⟨hk.mono (fun k _ e=>by rcases e with e | e <;> rw [e] <;> omega),ht⟩;have hF:∀ i,i≠4→i<100→∀ b,T b=4∨T b=100+j0→T b≠i:=fun i hi hj b e=>by rcases e with e | e <;> rw [e] <;> omega
 have hnr:¬ (T rb=4∨T rb=100+j0):=fun e=>by rw [h.rt] at e;omega
 have ebl:rdC X lv st.levels st.starts f'=rdC X lv st.levels st.starts f:=by
  funext i
  unfold rdC;rw [e2,e3,e4]
 refine ⟨⟨by rw [ebl];exact hk.blk h.blk hnr,(ht rb hrb).trans h.rt,ho,Nat.le_trans h.base hk.size,h.rules.kept hk (hF 1 (by decide) (by decide)) ht,h.rlen,fun x hx=>(h.rre x hx).keep hc,h.nonts.kept hk (hF 2 (by decide) (by decide)) ht,h.skips.kept hk (hF 8 (by decide) (by decide)) ht,h.terms.kept hk (hF 9 (by decide) (by decide)) ht,h.nons.kept hk (hF 10 (by decide) (by decide)) ht,h.later.kept hk (hF 15 (by decide) (by decide)) ht,h.flen,fun x hx=>(h.fst x hx).keep hc,?_,hp,hl,hr,fun m e=>?_⟩,hc⟩
 · rw [e1];exact h.levels.kept hk (hF 3 (by decide) (by decide)) ht
 · obtain ⟨t5,n,hM⟩:=h.map m e
   have hml:m<w.heap.size:=(h.own m (by rw [t5];decide)).2;exact ⟨(ht m hml).trans t5,n,hM.keep hk (fun e9=>by rw [t5] at e9;omega)⟩
theorem RdW.prodAt {B rb j:Nat} {T:Nat→Nat} {w:World} {X:RX} {st:RS} {f:FS} {lv:Value} {rs:List Value} {mp:Option Nat} (h:RdW B T w rb X st f lv rs mp) (hj:j<f.prods.length) :
 ∃ g cap,X.pv=.slice (some ⟨g,0,none⟩) f.prods.length cap∧T g=4∧w.cell? ⟨g,j * 3,none⟩=some (.int .i64 f.prods[j].left)∧w.cell? ⟨g,j * 3+1,none⟩=some (rs[j]'(by rw [h.rslen];exact hj))∧w.cell? ⟨g,j * 3+2,none⟩=some (.int .i64 f.prods[j].prec)∧(∀ k,w.frozen? ⟨g,k,none⟩=false)∧g≠rb:=by
 have hl:=h.rslen;have hz:(f.prods.zip rs).length=f.prods.length:=by rw [List.length_zip,hl,Nat.min_self]
 rcases h.prods.1.2 with ⟨h1,h2⟩ | ⟨g,cap,cur,h1,h2,h3,h4,h5,h6,h7⟩
 · omega
 · have hg:T g=4:=h.prods.2 g (by rw [h1];rfl)
   have hcell:∀ i,i<3→w.cell? ⟨g,j * 3+i,none⟩=(prV f.prods[j] (rs[j]'(by rw [hl];exact hj)))[i]?:=fun i hi=>by
    have e1:=a2V (fun x:Pd×Value=>prV x.1 x.2) (sz:=3) (fun _=>rfl) (f.prods.zip rs) j i (by rw [hz];exact hj) hi;rw [List.getElem_zip] at e1;rw [← e1];have hown:=h.prods.1;rw [h1] at hown;exact hown.cellAt (j * 3+i) (by omega)
   exact ⟨g,cap,h1,hg,hcell 0 (by decide),hcell 1 (by decide),hcell 2 (by decide),fun k=>i_ h3 k,fun e=>by rw [e,h.rt] at hg;cases hg⟩
theorem a1Y {l:List Pd} {j:Nat} {g:Pd→Pd} (hj:j<l.length):U_ l j g=l.set j (g l[j]):=by
 unfold U_;rw [List.getElem?_eq_getElem hj]
theorem RdW.setPrec {B rb j g cap:Nat} {T:Nat→Nat} {w:World} {X:RX} {st:RS} {f:FS} {lv:Value} {rs:List Value} {mp:Option Nat} (h:RdW B T w rb X st f lv rs mp) (hj:j<f.prods.length) (hg:X.pv=.slice (some ⟨g,0,none⟩) f.prods.length cap) (n:Int) :
 RdW B T (w.setCell ⟨g,j * 3+2,none⟩ (.int .i64 n)) rb X st { f with prods:=U_ f.prods j fun p=>⟨p.left,p.right,n⟩ } lv rs mp∧Chg T T w (w.setCell ⟨g,j * 3+2,none⟩ (.int .i64 n)):=by
 have hl:=h.rslen;have hz:(f.prods.zip rs).length=f.prods.length:=by rw [List.length_zip,hl,Nat.min_self]
 have hg4:T g=4:=h.prods.2 g (by rw [hg];rfl);have hk:Kept (fun b=>T b=4∨T b=100+j) w (w.setCell ⟨g,j * 3+2,none⟩ (.int .i64 n)):=(Kept.refl _ w).setCell (fun _=>.inl hg4);have hsz:(w.setCell ⟨g,j * 3+2,none⟩ (.int .i64 n)).heap.size=w.heap.size:=by simp
 have hone:Kept (f_ g) w (w.setCell ⟨g,j * 3+2,none⟩ (.int .i64 n)):=(Kept.refl (f_ g) w).setCell (a:=⟨g,j * 3+2,none⟩) (fun _=>rfl);have hm:=a1Y (g:=fun p=>⟨p.left,p.right,n⟩) hj;refine h.chgP (j0:=j) hk (fun _ _=>rfl) (fun b hn=>by rw [hsz];exact h.own b hn) ?_ ?_ ?_ rfl rfl rfl rfl
 · show OwnI _ _ _ _ _ _ X.pv (U_ f.prods j _).length (((U_ f.prods j _).zip rs).flatMap _)
   rw [hm,List.length_set];have e1:rs=rs.set j (rs[j]'(by rw [hl];exact hj)):=by rw [List.set_getElem_self]
   have e2:((f.prods.set j ⟨f.prods[j].left,f.prods[j].right,n⟩).zip rs).flatMap (fun x=>prV x.1 x.2)=((f.prods.zip rs).flatMap (fun x=>prV x.1 x.2)).set (j * 3+2) (.int .i64 n):=by
    rw [a1N (fun x:Pd×Value=>prV x.1 x.2) (sz:=3) (fun _=>rfl) (f.prods.zip rs) j 2 (⟨f.prods[j].left,f.prods[j].right,n⟩,rs[j]'(by rw [hl];exact hj)) (.int .i64 n) (by rw [hz];exact hj) (by decide) (by rw [List.getElem_zip];rfl),← a5B];rw [← e1]
   rw [e2,hg]
   have:=h.prods
   rw [hg] at this;exact this.setc _
 · show rs.length=(U_ f.prods j _).length
   rw [hm,List.length_set];exact hl
 · intro i a b
   have b':i<f.prods.length:=by rw [← hl];exact a
   have e9:({ f with prods:=U_ f.prods j fun p=>⟨p.left,p.right,n⟩ }:FS).prods[i].right=f.prods[i].right:=by
    have e8:(U_ f.prods j fun p=>⟨p.left,p.right,n⟩)[i]'b=(f.prods.set j ⟨f.prods[j].left,f.prods[j].right,n⟩)[i]'(by rw [List.length_set];exact b'):=by congr 1
    show ((U_ f.prods j fun p=>⟨p.left,p.right,n⟩)[i]'b).right=_
    rw [e8,List.getElem_set];split
    · rename_i e7;subst e7;rfl
    · rfl
   rw [e9];exact (h.rights i a b').kept hone (fun b0 e0=>by rw [show b0=g from e0,hg4];omega) (fun _ _=>rfl)
theorem RdW.levAt {B rb j:Nat} {T:Nat→Nat} {w:World} {X:RX} {st:RS} {f:FS} {lv:Value} {rs:List Value} {mp:Option Nat} (h:RdW B T w rb X st f lv rs mp) (hj:j<f.levels.length) :
 ∃ g cap,lv=.slice (some ⟨g,0,none⟩) f.levels.length cap∧T g=3∧w.cell? ⟨g,j * 2,none⟩=some (.int .i64 f.levels[j].1)∧w.cell? ⟨g,j * 2+1,none⟩=some (.int .i64 f.levels[j].2)∧(∀ k,w.frozen? ⟨g,k,none⟩=false)∧g≠rb:=by
 rcases h.levels.1.2 with ⟨h1,h2⟩ | ⟨g,cap,cur,h1,h2,h3,h4,h5,h6,h7⟩
 · omega
 · have hg:T g=3:=h.levels.2 g (by rw [h1];rfl)
   have hcell:∀ i,i<2→w.cell? ⟨g,j * 2+i,none⟩=(csL f.levels[j])[i]?:=fun i hi=>by
    have e1:=a2V csL (sz:=2) (fun _=>rfl) f.levels j i hj hi;rw [← e1];have hown:=h.levels.1;rw [h1] at hown;exact hown.cellAt (j * 2+i) (by omega)
   exact ⟨g,cap,h1,hg,hcell 0 (by decide),hcell 1 (by decide),fun k=>i_ h3 k,fun e=>by rw [e,h.rt] at hg;cases hg⟩
theorem RdW.setLev {B rb j g cap:Nat} {T:Nat→Nat} {w:World} {X:RX} {st:RS} {f:FS} {lv:Value} {rs:List Value} {mp:Option Nat} (h:RdW B T w rb X st f lv rs mp) (hj:j<f.levels.length) (hg:lv=.slice (some ⟨g,0,none⟩) f.levels.length cap) (p s:Int) :
 RdW B T ((w.setCell ⟨g,j * 2,none⟩ (.int .i64 p)).setCell ⟨g,j * 2+1,none⟩ (.int .i64 s)) rb X st { f with levels:=f.levels.set j (p,s) } lv rs mp∧Chg T T w ((w.setCell ⟨g,j * 2,none⟩ (.int .i64 p)).setCell ⟨g,j * 2+1,none⟩ (.int .i64 s)):=by
 have hg3:T g=3:=h.levels.2 g (by rw [hg];rfl);have hone:Kept (f_ g) w ((w.setCell ⟨g,j * 2,none⟩ (.int .i64 p)).setCell ⟨g,j * 2+1,none⟩ (.int .i64 s)):=((Kept.refl (f_ g) w).setCell (a:=⟨g,j * 2,none⟩) (fun _=>rfl)).setCell (a:=⟨g,j * 2+1,none⟩) (fun _=>rfl);have hrb:=u_ h.blk;have ht:∀ b,b<w.heap.size→T b=T b:=fun _ _=>rfl
 have hc:Chg T T w ((w.setCell ⟨g,j * 2,none⟩ (.int .i64 p)).setCell ⟨g,j * 2+1,none⟩ (.int .i64 s)):=⟨hone.mono (fun k _ e=>by rw [show k=g from e,hg3];decide),ht⟩;have hF:∀ i,i≠3→∀ b,f_ g b→T b≠i:=fun i hi b e=>by rw [show b=g from e,hg3];exact hi.symm
 refine ⟨⟨hone.blk h.blk (fun e=>by have:=h.rt;rw [show rb=g from e,hg3] at this;cases this),h.rt,fun b hn=>⟨(h.own b hn).1,Nat.lt_of_lt_of_le (h.own b hn).2 hone.size⟩,Nat.le_trans h.base hone.size,h.rules.kept hone (hF 1 (by decide)) ht,h.rlen,fun x hx=>(h.rre x hx).keep hc,h.nonts.kept hone (hF 2 (by decide)) ht,h.skips.kept hone (hF 8 (by decide)) ht,h.terms.kept hone (hF 9 (by decide)) ht,h.nons.kept hone (hF 10 (by decide)) ht,h.later.kept hone (hF 15 (by decide)) ht,h.flen,fun x hx=>(h.fst x hx).keep hc,?_,h.prods.kept hone (hF 4 (by decide)) ht,h.rslen,fun i a b=>(h.rights i a b).kept hone (hF (100+i) (by omega)) ht,fun m e=>?_⟩,hc⟩
 · show OwnI _ _ _ _ _ _ lv (f.levels.set j (p,s)).length ((f.levels.set j (p,s)).flatMap csL)
   rw [List.length_set]
   have e1:(f.levels.set j (p,f.levels[j].2)).flatMap csL=(f.levels.flatMap csL).set (j * 2) (.int .i64 p):=by
    have:=a1N csL (sz:=2) (fun _=>rfl) f.levels j 0 (p,f.levels[j].2) (.int .i64 p) hj (by decide) rfl
    rw [Nat.add_zero] at this;exact this.symm
   have e2:(f.levels.set j (p,s)).flatMap csL=((f.levels.set j (p,f.levels[j].2)).flatMap csL).set (j * 2+1) (.int .i64 s):=by
    have h9:j<(f.levels.set j (p,f.levels[j].2)).length:=by rw [List.length_set];exact hj
    rw [a1N csL (sz:=2) (fun _=>rfl) (f.levels.set j (p,f.levels[j].2)) j 1 (p,s) (.int .i64 s) h9 (by decide) (by rw [List.getElem_set_self];rfl),List.set_set]
   rw [e2,e1,hg]
   have:=h.levels
   rw [hg] at this;exact (this.setc _).setc _
 · obtain ⟨t5,n,hM⟩:=h.map m e
   exact ⟨t5,n,hM.keep hone (fun e9=>by rw [show m=g from e9,hg3] at t5;cases t5)⟩
set_option maxRecDepth 20000 in
theorem RdW.appRight {B rb j g cap:Nat} {T:Nat→Nat} {w:World} {X:RX} {st:RS} {f:FS} {lv:Value} {rs:List Value} {mp:Option Nat} (h:RdW B T w rb X st f lv rs mp) (hj:j<f.prods.length) (hg:X.pv=.slice (some ⟨g,0,none⟩) f.prods.length cap) (n:Int) (hn:f.prods[j].right.length≤100000) :
 ∃ v A C w6,rs[j]?=some v∧(Builtin.append_ #[41,41] 41 #[v,.slice (some ⟨w.heap.size,0,none⟩) 1 1]).run Tryz.prog (w.alloc (.cells #[.int .i64 n] 3))=.ok (.slice A (f.prods[j].right.length+1) C) w6∧w6.cell? ⟨g,j * 3+1,none⟩=some v∧w6.frozen? ⟨g,j * 3+1,none⟩=false ∧
  ∃ T',RdW B T' (w6.setCell ⟨g,j * 3+1,none⟩ (.slice A (f.prods[j].right.length+1) C)) rb X st { f with prods:=U_ f.prods j fun p=>⟨p.left,p.right++[n],p.prec⟩ } lv (rs.set j (.slice A (f.prods[j].right.length+1) C)) mp∧Chg T T' w (w6.setCell ⟨g,j * 3+1,none⟩ (.slice A (f.prods[j].right.length+1) C)):=by
 have hl:=h.rslen;have hjr:j<rs.length:=by rw [hl];exact hj
 have hz:(f.prods.zip rs).length=f.prods.length:=by rw [List.length_zip,hl,Nat.min_self]
 obtain ⟨g',cap',hg',hg4,p0,p1,p2,pf,pn⟩:=h.prodAt hj;rw [hg] at hg';injection hg' with hg' _ _;injection hg' with hg';injection hg' with hg' _ _;subst hg';obtain ⟨i0,hi0,za,zb,zc⟩:=info_parts Tryz.infIn;obtain ⟨A,C,w6,hrun,hO,hk,hold,hown⟩:=a0p (tS:=41) (ty:=41) Tryz.underlying41 hi0 za zb zc rfl (by decide) (h.rights j hjr hj) #[.int .i64 n] rfl (fun u hu=>by simp at hu;rw [hu];rfl) hn (by decide) h.base (fun b hb=>h.fresh hb);have hnr:∀ b,rs[j].ownBlock=some b→T b=100+j:=(h.rights j hjr hj).2;have hgl:g<w.heap.size:=World.block_lt_of_cell? _ _ p1;have hgk:¬ (rs[j].ownBlock=some g):=fun e=>by have:=hnr g e;rw [hg4] at this;omega
 have hgb:w6.heap[g]?=w.heap[g]?:=hk.block g hgl hgk;refine ⟨rs[j],A,C,w6,List.getElem?_eq_getElem hjr,hrun,hk.cell p1 hgl hgk,?_,a4H T (.slice A (f.prods[j].right.length+1) C) (100+j),?_⟩
 · rw [World.frozen?_of_block (a:=⟨g,j * 3+1,none⟩) hgb];exact pf _
 have hTT:∃ T',T'=a4H T (.slice A (f.prods[j].right.length+1) C) (100+j):=⟨_,rfl⟩;obtain ⟨T',hT'⟩:=hTT;rw [← hT'] at hO hold hown ⊢;have hkF:Kept (fun b=>T b=4∨T b=100+j) w (w6.setCell ⟨g,j * 3+1,none⟩ (.slice A (f.prods[j].right.length+1) C)):=(hk.mono (fun b _ e=>.inr (hnr b e))).setCell (fun _=>.inl hg4);have hsz:(w6.setCell ⟨g,j * 3+1,none⟩ (.slice A (f.prods[j].right.length+1) C)).heap.size=w6.heap.size:=by simp
 have hm:=a1Y (g:=fun p=>⟨p.left,p.right++[n],p.prec⟩) hj;have hg4':T' g=4:=(hold g hgl).trans hg4;refine h.chgP (j0:=j) hkF hold (fun b hn9=>?_) ?_ ?_ ?_ rfl rfl rfl rfl
 · rw [hsz]
   rcases hown b hn9 with h9 | h9
   · exact ⟨(h.own b h9).1,Nat.lt_of_lt_of_le (h.own b h9).2 hk.size⟩
   · exact h9
 · show OwnI _ _ _ _ _ _ X.pv (U_ f.prods j _).length (((U_ f.prods j _).zip _).flatMap _)
   rw [hm,List.length_set,a5B,← a1N (fun x:Pd×Value=>prV x.1 x.2) (sz:=3) (fun _=>rfl) (f.prods.zip rs) j 1 _ (.slice A (f.prods[j].right.length+1) C) (by rw [hz];exact hj) (by decide) (by rw [List.getElem_zip];rfl),hg]
   have h9:OwnI w6 B T' 4 64 3 (.slice (some ⟨g,0,none⟩) f.prods.length cap) f.prods.length ((f.prods.zip rs).flatMap fun x=>prV x.1 x.2):=by
    have:=h.prods.kept (F:=fun b=>rs[j].ownBlock=some b) hk (fun b e=>by rw [hnr b e];omega) hold
    rw [hg] at this;exact this
   exact h9.setc _
 · show (rs.set j _).length=(U_ f.prods j _).length
   rw [hm,List.length_set,List.length_set];exact hl
 · intro i a b
   have a':i<rs.length:=by rw [List.length_set] at a;exact a
   have b':i<f.prods.length:=by rw [← hl];exact a'
   have e8:(U_ f.prods j fun p=>⟨p.left,p.right++[n],p.prec⟩)[i]'b=(f.prods.set j ⟨f.prods[j].left,f.prods[j].right++[n],f.prods[j].prec⟩)[i]'(by rw [List.length_set];exact b'):=by congr 1
   show OwnI _ _ _ _ _ _ ((rs.set j _)[i]'a) ((U_ f.prods j fun p=>⟨p.left,p.right++[n],p.prec⟩)[i]'b).right.length (((U_ f.prods j fun p=>⟨p.left,p.right++[n],p.prec⟩)[i]'b).right.flatMap csI)
   rw [e8,List.getElem_set,List.getElem_set];by_cases e7:j=i
   · subst e7
     rw [if_pos rfl,if_pos rfl];have e6:(f.prods[j].right++[n]).flatMap csI=f.prods[j].right.flatMap csI++[.int .i64 n]:=by rw [List.flatMap_append,List.flatMap_singleton];rfl
     have e5:(f.prods[j].right++[n]).length=f.prods[j].right.length+1:=by rw [List.length_append];rfl
     show OwnI _ _ _ _ _ _ _ (f.prods[j].right++[n]).length ((f.prods[j].right++[n]).flatMap csI)
     rw [e6,e5];exact ⟨a0z hO.1 (fun e=>by have:=hO.2 g e;rw [hg4'] at this;omega),hO.2⟩
   · rw [if_neg e7,if_neg e7]
     exact (h.rights i a' b').kept (F:=fun b=>rs[j].ownBlock=some b∨b=g) ((hk.mono (fun _ _ e=>.inl e)).setCell (fun _=>.inr rfl)) (fun b0 e0=>by
      rcases e0 with e0 | e0
      · rw [hnr b0 e0];omega
      · rw [e0,hg4];omega) hold
set_option maxRecDepth 20000 in
set_option maxHeartbeats 8000000 in
theorem c3U {B rb p q:Nat} {T:Nat→Nat} {w:World} {X:RX} {st:RS} {f:FS} {lv:Value} {rs:List Value} {mp:Option Nat} {x:Wd} (h:RdW B T w rb X st f lv rs mp) (hb:BndS st) (hx:x.2.2.length≤1000000) (ip:Im T w p (a3a rb)) (iq:Im T w q (s_ x)) :
 Calls Tryz.prog 132 #[r_ p,r_ q] w fun r w'=>r=.returned (.int .i64 (if (st.fnd x.2.2).2.2=0 then 5 else 0))∧RdR B T w rb X st { f with start:=((st.fnd x.2.2).2.2:Int) } lv w':=by
 have hbd:Below w.heap.size w w.drew:=(Below.refl _ w).drew;have cd:=Chg.of_below (T:=T) hbd;have hrd:=h.keep hbd;have ipd:=ip.keep cd;have iqd:=iq.keep cd;have G:=b6W hrd hb hx ipd iqd
 have G:Hid (Calls Tryz.prog 133 #[.pointer (some ⟨rb,8,none⟩),.string (e_ x.2.2)] w.drew fun r w'=>r=.returned (owV (st.fnd x.2.2))∧(w'.cell? ⟨p,0,none⟩=some (r_ rb)∧w'.cell? ⟨rb,5,none⟩=some (.int .i64 f.start)∧w'.frozen? ⟨rb,5,none⟩=false)∧((w'.setCell ⟨rb,5,none⟩ (.int .i64 ((st.fnd x.2.2).2.2:Int))).cell? ⟨p,0,none⟩=some (r_ rb)∧(w'.setCell ⟨rb,5,none⟩ (.int .i64 ((st.fnd x.2.2).2.2:Int))).cell? ⟨rb,5,none⟩=some (.int .i64 ((st.fnd x.2.2).2.2:Int)))∧RdR B T w rb X st { f with start:=((st.fnd x.2.2).2.2:Int) } lv (w'.setCell ⟨rb,5,none⟩ (.int .i64 ((st.fnd x.2.2).2.2:Int)))):=hid (G.mono (fun r w' ⟨e,T',mp',hr,hc,i1,i2⟩=>by
  have hk:Kept (f_ rb) w' (w'.setCell ⟨rb,5,none⟩ (.int .i64 ((st.fnd x.2.2).2.2:Int))):=(Kept.refl (f_ rb) w').setCell (a:=⟨rb,5,none⟩) (fun _=>rfl);have hb2:(w'.setCell ⟨rb,5,none⟩ (.int .i64 ((st.fnd x.2.2).2.2:Int))).heap[rb]?=some (rdK (rdC X lv st.levels st.starts { f with start:=((st.fnd x.2.2).2.2:Int) }) (.int .u32 (if mp'=none then 0 else 1)) (.int .i32 0) (.map mp')):=heap_setCell hr.blk;obtain ⟨h2,c2⟩:=hr.put (f':={ f with start:=((st.fnd x.2.2).2.2:Int) }) hk hb2 rfl rfl;exact ⟨e,⟨i1.cell rfl,c_ hr.blk rfl,i_ hr.blk 5⟩,⟨(i1.keep c2).cell rfl,c_ hb2 rfl⟩,T',rs,mp',h2,(cd.trans hc).trans c2⟩))
 have d0:w.drew.cell? ⟨p,0,none⟩=some (r_ rb):=ipd.cell rfl;have d2:w.drew.cell? ⟨q,2,none⟩=some (.string (e_ x.2.2)):=iqd.cell rfl;obtain ⟨o,ho⟩:∃ o,st.fnd x.2.2=o:=⟨_,rfl⟩;rw [ho] at G ⊢;have hfd:∀ u:World,(Instr.field 188 (owV o) 2).run Tryz.prog u=.ok (.int .i64 (o.2.2:Int)) u:=fun u=>(c3h o u).2.2
 clear h hb hx ip iq hbd cd hrd ipd iqd ho;obtain ⟨xk,xp,xt⟩:=x;obtain ⟨oa,ob,oc⟩:=o
 try dsimp only at *
 by_cases hz:oc=0
 all_goals
  first
   | (have hzz:((oc:Int) == 0)=true:=by rw [beq_iff_eq];omega)
   | (have hzz:((oc:Int) == 0)=false:=by rw [beq_eq_false_iff_ne];omega)
  first | rw [if_pos hz] | rw [if_neg hz]
  clear hz;go_enter Tryz.func132,Tryz.ntmps132
  go_wp2_with fail
  apply b4y (F:=fun V=>(V.cell? ⟨p,0,none⟩=some (r_ rb)∧V.cell? ⟨rb,5,none⟩=some (.int .i64 (oc:Int)))∧RdR B T w rb X st { f with start:=(oc:Int) } lv V)
  case h =>
   intro rest;go_region_with (go_at_call 133;refine G.out.mono ?_;rintro e u1 ⟨rfl,⟨s0,s1,s2⟩,hs3,hQ⟩;have hs3:=hid hs3;have hQ:=hid hQ)
   all_goals
    have h9:=hs3.out;have h8:=hQ.out;generalize u1.setCell ⟨rb,5,none⟩ (.int .i64 (oc:Int))=V at h9 h8 ⊢;exact rest V ⟨h9,h8⟩
  case pf =>
   rintro V ⟨⟨s0,s1⟩,hQ⟩;have hQ:=hid hQ;go_wp2;go_ret;exact ⟨rfl,hQ.out⟩
set_option maxRecDepth 20000 in
set_option maxHeartbeats 8000000 in
theorem c3H {B rb p q l j:Nat} {T:Nat→Nat} {w:World} {X:RX} {st:RS} {f:FS} {lv:Value} {rs:List Value} {mp:Option Nat} {x:Wd} (h:RdW B T w rb X st f lv rs mp) (hb:BndS st) (hx:x.2.2.length≤1000000) (hj:j<f.prods.length) (ip:Im T w p (a3a rb)) (iq:Im T w q (s_ x)) (il:Im T w l (b8s j)) (_hjz:f.prods.length≤100000) :
 Calls Tryz.prog 197 #[r_ p,r_ q,r_ l] w fun r w'=>r=.returned (.int .i64 (if (st.fnd x.2.2).2.1=0 then 5 else 0))∧RdR B T w rb X st (if (st.fnd x.2.2).2.1=0 then f else { f with prods:=U_ f.prods j fun p=>⟨p.left,p.right,((st.fnd x.2.2).2.1:Int)⟩ }) lv w':=by
 have hbd:Below w.heap.size w w.drew:=(Below.refl _ w).drew;have cd:=Chg.of_below (T:=T) hbd;have hrd:=h.keep hbd;have ipd:=ip.keep cd;have iqd:=iq.keep cd;have ild:=il.keep cd;obtain ⟨g,cap,hg,-⟩:=h.prodAt hj;have G:=b6W hrd hb hx ipd iqd
 have G:Hid (Calls Tryz.prog 133 #[.pointer (some ⟨rb,8,none⟩),.string (e_ x.2.2)] w.drew fun r w'=>r=.returned (owV (st.fnd x.2.2))∧(w'.drew.cell? ⟨p,0,none⟩=some (r_ rb)∧w'.drew.cell? ⟨l,0,none⟩=some (.int .i64 (j:Int))∧w'.drew.cell? ⟨rb,4,none⟩=some (.slice (some ⟨g,0,none⟩) f.prods.length cap)∧w'.drew.cell? ⟨g,j * 3+2,none⟩=some (.int .i64 f.prods[j].prec)∧w'.drew.frozen? ⟨g,j * 3+2,none⟩=false)∧RdR B T w rb X st f lv w'∧RdR B T w rb X st { f with prods:=U_ f.prods j fun p=>⟨p.left,p.right,((st.fnd x.2.2).2.1:Int)⟩ } lv (w'.drew.setCell ⟨g,j * 3+2,none⟩ (.int .i64 ((st.fnd x.2.2).2.1:Int)))):=hid (G.mono (fun r w' ⟨e,T',mp',hr,hc,i1,i2⟩=>by
  have hbd':Below w'.heap.size w' w'.drew:=(Below.refl _ w').drew;have cd':=Chg.of_below (T:=T') hbd';have hr':=hr.keep hbd';obtain ⟨g',cap',hg',-,-,-,p2,pf,-⟩:=hr'.prodAt hj;rw [hg] at hg';injection hg' with hg1 _ hg3;injection hg1 with hg1;injection hg1 with hg1 _ _;subst hg1;obtain ⟨h2,c2⟩:=hr'.setPrec hj hg ((st.fnd x.2.2).2.1:Int);have i3:=(ild.keep hc).keep cd';exact ⟨e,⟨(i1.keep cd').cell rfl,i3.cell rfl,by rw [← hg];exact c_ hr'.blk rfl,p2,pf _⟩,⟨T',rs,mp',hr,cd.trans hc⟩,T',rs,mp',h2,((cd.trans hc).trans cd').trans c2⟩))
 have d0:w.drew.cell? ⟨p,0,none⟩=some (r_ rb):=ipd.cell rfl;have d2:w.drew.cell? ⟨q,2,none⟩=some (.string (e_ x.2.2)):=iqd.cell rfl;obtain ⟨o,ho⟩:∃ o,st.fnd x.2.2=o:=⟨_,rfl⟩;rw [ho] at G ⊢;have hfd:∀ u:World,(Instr.field 188 (owV o) 1).run Tryz.prog u=.ok (.int .i64 (o.2.1:Int)) u:=fun u=>(c3h o u).2.1
 have hjl:(j:Int)<(f.prods.length:Int):=by omega
 clear h hb hx ip iq il hbd cd hrd ipd iqd ild ho hg;obtain ⟨xk,xp,xt⟩:=x;obtain ⟨oa,ob,oc⟩:=o
 try dsimp only at *
 generalize f.prods[j].prec=pz at *;by_cases hz:ob=0
 · have hzz:((ob:Int) == 0)=true:=by rw [beq_iff_eq];omega
   rw [if_pos hz,if_pos hz];clear hz;go_enter Tryz.func197,Tryz.ntmps197
   go_wp2_with fail
   go_region_with (go_at_call 133;refine G.out.mono ?_;rintro e u1 ⟨rfl,-,hQ,-⟩;have hQ:=hid hQ)
   all_goals
    go_wp2;go_ret;exact ⟨rfl,hQ.out⟩
 · have hzz:((ob:Int) == 0)=false:=by rw [beq_eq_false_iff_ne];omega
   rw [if_neg hz,if_neg hz];clear hz;generalize { f with prods:=U_ f.prods j fun p=>⟨p.left,p.right,(ob:Int)⟩ }=fF at *;generalize f.prods.length=np at *;go_enter Tryz.func197,Tryz.ntmps197
   go_wp2_with fail
   go_region_with (go_at_call 133;refine G.out.mono ?_;rintro e u1 ⟨rfl,⟨s0,s1,s2,s3,s4⟩,-,hQ⟩;have hQ:=hid hQ)
   all_goals
    go_wp2_with fail
    go_region
    all_goals
     go_wp2;go_ret;exact ⟨rfl,hQ.out⟩
set_option maxRecDepth 20000 in
set_option maxHeartbeats 8000000 in
theorem c4R {B rb p q l a b:Nat} {T:Nat→Nat} {w:World} {X:RX} {st:RS} {f:FS} {lv:Value} {rs:List Value} {mp:Option Nat} {x:Wd} (h:RdW B T w rb X st f lv rs mp) (hb:BndS st) (hx:x.2.2.length≤1000000) (hj:(st.fnd x.2.2).2.1<f.levels.length) (ip:Im T w p (a3a rb)) (iq:Im T w q (s_ x)) (il:Im T w l (a8f a b)) (_hjz:f.levels.length≤100000) :
 Calls Tryz.prog 172 #[r_ p,r_ q,r_ l] w fun r w'=>r=.returned (.int .i64 (if (st.fnd x.2.2).2.1=0 then 5 else if 0<(f.levels.getD (st.fnd x.2.2).2.1 (0,0)).1 then 6 else 0))∧RdR B T w rb X st (if (st.fnd x.2.2).2.1=0 then f else if 0<(f.levels.getD (st.fnd x.2.2).2.1 (0,0)).1 then f else { f with levels:=f.levels.set (st.fnd x.2.2).2.1 ((a:Int),(b:Int)) }) lv w':=by
 have hbd:Below w.heap.size w w.drew:=(Below.refl _ w).drew;have cd:=Chg.of_below (T:=T) hbd;have hrd:=h.keep hbd;have ipd:=ip.keep cd;have iqd:=iq.keep cd;have ild:=il.keep cd;have eD:f.levels.getD (st.fnd x.2.2).2.1 (0,0)=f.levels[(st.fnd x.2.2).2.1]:=by rw [List.getD_eq_getElem?_getD,List.getElem?_eq_getElem hj];rfl
 rw [eD];obtain ⟨g,cap,hg,-⟩:=h.levAt hj;have G:=b6W hrd hb hx ipd iqd
 have G:Hid (Calls Tryz.prog 133 #[.pointer (some ⟨rb,8,none⟩),.string (e_ x.2.2)] w.drew fun r w'=>r=.returned (owV (st.fnd x.2.2))∧(w'.cell? ⟨p,0,none⟩=some (r_ rb)∧w'.cell? ⟨rb,3,none⟩=some (.slice (some ⟨g,0,none⟩) f.levels.length cap)∧w'.cell? ⟨g,(st.fnd x.2.2).2.1 * 2,none⟩=some (.int .i64 f.levels[(st.fnd x.2.2).2.1].1)∧w'.cell? ⟨g,(st.fnd x.2.2).2.1 * 2+1,none⟩=some (.int .i64 f.levels[(st.fnd x.2.2).2.1].2)∧∀ k,w'.frozen? ⟨g,k,none⟩=false) ∧
  (w'.drew.cell? ⟨p,0,none⟩=some (r_ rb)∧w'.drew.cell? ⟨rb,3,none⟩=some (.slice (some ⟨g,0,none⟩) f.levels.length cap)∧w'.drew.cell? ⟨l,0,none⟩=some (.int .i64 (a:Int))∧w'.drew.cell? ⟨l,1,none⟩=some (.int .i64 (b:Int))∧w'.drew.cell? ⟨g,(st.fnd x.2.2).2.1 * 2,none⟩=some (.int .i64 f.levels[(st.fnd x.2.2).2.1].1)∧w'.drew.frozen? ⟨g,(st.fnd x.2.2).2.1 * 2,none⟩=false∧w'.drew.cell? ⟨g,(st.fnd x.2.2).2.1 * 2+1,none⟩=some (.int .i64 f.levels[(st.fnd x.2.2).2.1].2)∧w'.drew.frozen? ⟨g,(st.fnd x.2.2).2.1 * 2+1,none⟩=false) ∧
  RdR B T w rb X st f lv w'∧RdR B T w rb X st { f with levels:=f.levels.set (st.fnd x.2.2).2.1 ((a:Int),(b:Int)) } lv ((w'.drew.setCell ⟨g,(st.fnd x.2.2).2.1 * 2,none⟩ (.int .i64 (a:Int))).setCell ⟨g,(st.fnd x.2.2).2.1 * 2+1,none⟩ (.int .i64 (b:Int)))):=hid (G.mono (fun r w' ⟨e,T',mp',hr,hc,i1,i2⟩=>by
  have hbd':Below w'.heap.size w' w'.drew:=(Below.refl _ w').drew;have cd':=Chg.of_below (T:=T') hbd';have hr':=hr.keep hbd';obtain ⟨g',cap',hg',-,p1,p2,pf,-⟩:=hr'.levAt hj;obtain ⟨g2,cap2,hg2,-,m1,m2,mf,-⟩:=hr.levAt hj;rw [hg] at hg' hg2;injection hg' with hg1 _ hg3;injection hg1 with hg1;injection hg1 with hg1 _ _;subst hg1;injection hg2 with hg4 _ hg5;injection hg4 with hg4;injection hg4 with hg4 _ _;subst hg4;obtain ⟨h2,c2⟩:=hr'.setLev hj hg (a:Int) (b:Int);have i3:=(ild.keep hc).keep cd';refine ⟨e,⟨i1.cell rfl,by rw [← hg];exact c_ hr.blk rfl,m1,m2,mf⟩,⟨(i1.keep cd').cell rfl,by rw [← hg];exact c_ hr'.blk rfl,i3.cell rfl,i3.cell rfl,p1,pf _,p2,pf _⟩,⟨T',rs,mp',hr,cd.trans hc⟩,T',rs,mp',h2,((cd.trans hc).trans cd').trans c2⟩))
 have d0:w.drew.cell? ⟨p,0,none⟩=some (r_ rb):=ipd.cell rfl;have d2:w.drew.cell? ⟨q,2,none⟩=some (.string (e_ x.2.2)):=iqd.cell rfl;have hjl:((st.fnd x.2.2).2.1:Int)<(f.levels.length:Int):=by omega
 have hfd:∀ u:World,(Instr.field 188 (owV (st.fnd x.2.2)) 1).run Tryz.prog u=.ok (.int .i64 ((st.fnd x.2.2).2.1:Int)) u:=fun u=>(c3h (st.fnd x.2.2) u).2.1
 clear h hb hx ip iq il hbd cd hrd ipd iqd ild hg eD;obtain ⟨y,hy⟩:∃ y,f.levels[(st.fnd x.2.2).2.1]=y:=⟨_,rfl⟩;rw [hy] at G ⊢;clear hy hj;generalize st.fnd x.2.2=o at *;obtain ⟨xk,xp,xt⟩:=x;obtain ⟨oa,ob,oc⟩:=o;obtain ⟨y1,y2⟩:=y
 try dsimp only at *
 generalize { f with levels:=f.levels.set ob ((a:Int),(b:Int)) }=fF at *;generalize f.levels.length=np at *;by_cases hz:ob=0
 · have hzz:((ob:Int) == 0)=true:=by rw [beq_iff_eq];omega
   rw [if_pos hz,if_pos hz];clear hz;go_enter Tryz.func172,Tryz.ntmps172
   go_wp2_with fail
   go_region_with (go_at_call 133;refine G.out.mono ?_;rintro e u1 ⟨rfl,-,-,hQ,-⟩;have hQ:=hid hQ)
   all_goals
    go_wp2;go_ret;exact ⟨rfl,hQ.out⟩
 · have hzz:((ob:Int) == 0)=false:=by rw [beq_eq_false_iff_ne];omega
   rw [if_neg hz,if_neg hz];clear hz;by_cases hy:0<y1
   · rw [if_pos hy,if_pos hy]
     go_enter Tryz.func172,Tryz.ntmps172
     go_wp2_with fail
     go_region_with (go_at_call 133;refine G.out.mono ?_;rintro e u1 ⟨rfl,⟨s0,s1,s2,s3,s4⟩,-,hQ,-⟩;have hQ:=hid hQ)
     all_goals
      go_wp2;go_ret;exact ⟨rfl,hQ.out⟩
   · rw [if_neg hy,if_neg hy]
     go_enter Tryz.func172,Tryz.ntmps172
     go_wp2_with fail
     go_region_with (go_at_call 133;refine G.out.mono ?_;rintro e u1 ⟨rfl,⟨s0,s1,s2,s3,s4⟩,⟨r0,r1,r2,r3,r4,r5,r6,r7⟩,-,hQ⟩;have hQ:=hid hQ;have s5:=s4 (ob * 2);have s6:=s4 (ob * 2+1))
     all_goals
      go_wp2_with fail
      go_region
      all_goals
       go_wp2;go_ret;exact ⟨rfl,hQ.out⟩
end Go.Proofs.YtjgedijclkoemaaGreatDoor
