/- What the five laws of layer 17 share, part 33: no statement of its own. -/
import Derived.Test.YtjgedijclkoemaaGreatDoorJ32
namespace Go.Proofs.YtjgedijclkoemaaGreatDoor
open Go.RowKit Go.Maps Go.Sort
theorem RS.pot_le {st:RS} {K:Nat} (h:st.pot≤K):st.rules.length≤K∧st.nonts.length≤K∧st.prods.length≤K∧st.skips.length≤K∧st.terms.length≤K∧st.nons.length≤K∧st.later.length+st.ws.length≤K∧st.levels≤K∧st.starts≤K:=by
 unfold RS.pot RS.lens at h;omega
def NtP (B:Nat) (T:Nat→Nat) (w:World) (rb:Nat) (x:Wd) (s:RS) (q:Nat) (V:World):Prop:=∃ T1 X1,RdV B T1 V rb X1 s∧Chg T T1 w V∧Im T1 V q (s_ x)
set_option maxRecDepth 20000 in
theorem c3R {B rb q:Nat} {T:Nat→Nat} {w V:World} {x:Wd} {s1:RS} (h:NtP B T w rb x s1 q V) (hn:s1.nonts.length≤99000) :
 Calls Tryz.prog 127 #[r_ rb,.string ⟨#[58]⟩] V fun r u=>r=.returned (.tuple #[])∧∃ rv A C w6,(u.drew.cell? ⟨rb,2,none⟩=some rv∧u.drew.cell? ⟨q,2,none⟩=some (.string (e_ x.2.2))) ∧
  ((u.alloc (.cells #[.string (e_ x.2.2)] 9)).drew.cell? ⟨rb,2,none⟩=some rv∧(u.alloc (.cells #[.string (e_ x.2.2)] 9)).drew.cell? ⟨q,2,none⟩=some (.string (e_ x.2.2))) ∧
  (Builtin.append_ #[23,23] 23 #[rv,.slice (some ⟨u.heap.size,0,none⟩) 1 1]).run Tryz.prog (u.alloc (.cells #[.string (e_ x.2.2)] 9)).drew=.ok (.slice A (s1.nonts.length+1) C) w6∧w6.cell? ⟨rb,2,none⟩=some rv∧w6.frozen? ⟨rb,2,none⟩=false ∧
  NtP B T w rb x ((s1.tkS [58]).addN x.2.2) q (w6.setCell ⟨rb,2,none⟩ (.slice A (s1.nonts.length+1) C)):=by
 obtain ⟨T1,X1,hr,hc,iq⟩:=h;refine (b8D hr [58]).mono ?_;rintro r u ⟨e,wv,hM⟩;have hbd:Below u.heap.size u u.drew:=(Below.refl _ u).drew;have hrd:=hM.rd.keep hbd;have c1:=hM.chg.trans (Chg.of_below (T:=T1) hbd);have hnn:(s1.tkS [58]).nonts.length=s1.nonts.length:=by rw [(SameL.tkS s1 [58]).nonts]
 obtain ⟨A,C,w6,hrun,hbk,T',X',hR,hC⟩:=hrd.app_nonts x.2.2 (by rw [hnn];omega);rw [hnn] at hrun hR hC;have jq:=iq.keep c1;have hbl:=hrd.blk;have hb6:=hbk.trans hbl;have hba:Below u.drew.heap.size u.drew (u.alloc (.cells #[.string (e_ x.2.2)] 9)).drew:=al' u.drew _;have d1:u.drew.cell? ⟨rb,2,none⟩=some X1.nv:=c_ hbl rfl;exact ⟨e,X1.nv,A,C,w6,⟨d1,jq.cell rfl⟩,⟨d_ hba d1,d_ hba (jq.cell rfl)⟩,hrun,c_ hb6 rfl,i_ hb6 2,T',X',hR,(hc.trans c1).trans hC,jq.keep hC⟩
set_option maxRecDepth 20000 in
theorem c3Q {B rb q:Nat} {T:Nat→Nat} {w V:World} {x:Wd} {s3:RS} (h:NtP B T w rb x s3 q V) (hn:s3.pot≤90000) :
 (V.drew.cell? ⟨q,0,none⟩=some (.int .i64 (x.1:Int))∧V.drew.cell? ⟨q,1,none⟩=some (.int .i64 (x.2.1:Int))∧V.drew.cell? ⟨q,2,none⟩=some (.string (e_ x.2.2))) ∧
 Calls Tryz.prog 137 #[.pointer (some ⟨rb,8,none⟩),wdA x] V.drew fun r u=>r=.returned (.tuple #[])∧(u.cell? ⟨q,0,none⟩=some (.int .i64 (x.1:Int))∧u.cell? ⟨q,1,none⟩=some (.int .i64 (x.2.1:Int))∧u.cell? ⟨q,2,none⟩=some (.string (e_ x.2.2))) ∧
  Calls Tryz.prog 129 #[r_ rb,wdA x] u fun r u2=>r=.returned (.tuple #[])∧Calls Tryz.prog 138 #[r_ rb] u2 fun r w'=>r=.returned (.tuple #[])∧RdP B T w rb ((s3.addO x).once x).alt w':=by
 obtain ⟨T1,X1,hr,hc,iq⟩:=h;have hbd:Below V.heap.size V V.drew:=(Below.refl _ V).drew;have cd:=Chg.of_below (T:=T1) hbd;have jq:=iq.keep cd;obtain ⟨-,-,-,-,-,p6,p7,-,-⟩:=RS.pot_le hn;refine ⟨⟨jq.cell rfl,jq.cell rfl,jq.cell rfl⟩,(c4o (hr.keep hbd) x (by omega)).mono ?_⟩;rintro r u ⟨e,T',X',hr',hc'⟩;have lq:=jq.keep hc';refine ⟨e,⟨lq.cell rfl,lq.cell rfl,lq.cell rfl⟩,(c1H hr' x (by show s3.later.length≤_;omega)).mono ?_⟩;rintro r u2 ⟨e',T'',X'',hr'',hc''⟩
 have hp:((s3.addO x).once x).pot≤90002:=by
  unfold RS.once;rw [RS.thn_pot,RS.addO_pot];omega
 obtain ⟨-,-,q3,-,-,-,q7,-,-⟩:=RS.pot_le hp;refine ⟨e',(c4E hr'' (by omega) (by omega)).mono ?_⟩;rintro r w' ⟨e3,T3,X3,hr3,hc3⟩;exact ⟨e3,T3,X3,hr3,(((hc.trans cd).trans hc').trans hc'').trans hc3⟩
theorem b0K {st:RS} (h:st.atS [124]=true) (hn:st.ws≠[]):RS.alts st.ws.length st=RS.alts (st.ws.length - 1) (st.tkS [124]).alt:=by
 cases hw:st.ws with
 | nil=>exact absurd hw hn
 | cons x l=>rw [List.length_cons,RS.alts,h,if_pos rfl];rfl
theorem a9h {st:RS} (f:Nat) (h:st.atS [124]=false):RS.alts f st=st:=by
 cases f with
 | zero=>rfl
 | succ m=>rw [RS.alts,h];rfl
theorem b2e (pr:Nat):∀ (f n:Nat) (st:RS),(RS.syms pr f n st).ws.length≤st.ws.length
 | 0,_,st=>Nat.le_refl _
 | f+1,n,st=>by
  rw [RS.syms];split
  · rename_i h
    refine Nat.le_trans (b2e pr f (n+1) _) ?_;rw [a3U h,List.length_tail];omega
  · exact Nat.le_refl _
theorem b0L (st:RS):st.alt.ws.length≤st.ws.length:=by
 unfold RS.alt RS.pct;have h1:=b2e st.prods.length st.alt1.ws.length 0 st.alt1;have h2:st.alt1.ws=st.ws:=RS.full_ws _ _ _;generalize RS.syms st.prods.length st.alt1.ws.length 0 st.alt1=s at *;rw [h2] at h1;split
 · show ((s.tkS [37]).tkN).ws.length≤_
   have h3:=(SameL.tkS s [37]).ws;have h4:=(SameL.tkN (s.tkS [37])).ws;omega
 · exact h1
theorem a2F:∀ (f:Nat) (st:RS),st.ws.length≤f→RS.alts f st=RS.alts st.ws.length st
 | 0,st,h=>by rw [Nat.le_zero.1 h]
 | f+1,st,h=>by
  cases hs:st.atS [124] with
  | false=>rw [a9h _ hs,a9h _ hs]
  | true =>
   have h0:=RS.hd_ne (RS.atS_hd hs);rw [b0K hs (fun e=>by rw [e] at h0;exact absurd h0 (Nat.lt_irrefl _)),RS.alts,hs,if_pos rfl]
   have h1:(st.tkS [124]).alt.ws.length≤st.ws.length - 1:=by
    have:=b0L (st.tkS [124])
    rw [RS.tkS_ws hs,List.length_tail] at this;exact this
   rw [a2F f _ (by omega)];rcases Nat.lt_or_ge (st.ws.length - 1) f with h9 | h9
   · rw [a2F (st.ws.length - 1) _ h1]
   · rw [show st.ws.length - 1=f by omega,a2F f _ (by omega)]
termination_by f=>f
end Go.Proofs.YtjgedijclkoemaaGreatDoor
namespace Go.Proofs.YtjgedijclkoemaaGreatDoor
theorem b3E (p s:Nat):∀ (f:Nat) (st:RS),(RS.lvds p s f st).ws.length≤st.ws.length
 | 0,st=>Nat.le_refl _
 | f+1,st=>by
  rw [RS.lvds];split
  · exact Nat.le_trans (b3E p s f _) (SameL.tkN st).ws
  · exact Nat.le_refl _
theorem b5b:∀ (f:Nat) (st:RS),(RS.alts f st).ws.length≤st.ws.length
 | 0,st=>Nat.le_refl _
 | f+1,st=>by
  rw [RS.alts];split
  · exact Nat.le_trans (b5b f _) (Nat.le_trans (b0L _) (SameL.tkS st [124]).ws)
  · exact Nat.le_refl _
theorem b9R {st:RS} (h1:st.hd.1=1):st.item.ws.length<st.ws.length:=by
 have h0:st.hd.1≠0:=by omega
 have ht:=(RS.take_pot h0).2;unfold RS.item;rw [if_neg (by omega)];split
 · have e:st.rule.ws=(st.rule1.tkN.cells.tkS [59]).ws:=by unfold RS.rule RS.rule2 RS.once RS.thn RS.addW RS.addR;split <;> rfl
   rw [e];have a1:=(SameL.tkS st.rule1.tkN.cells [59]).ws;have a2:=(SameL.cells st.rule1.tkN).ws;have a3:=(SameL.tkN st.rule1).ws;have a4:st.rule1.ws.length≤(st.take true).ws.length:=(SameL.full _ _ _).ws;omega
 · rename_i h2
   split
   · have e:st.start.ws=(((st.st1.take true).thn ⟨3,st.hd,if 1<st.starts+1 then 1 else 0,0⟩).tkN.tkS [59]).ws:=rfl
     rw [e];have a1:=(SameL.tkS ((st.st1.take true).thn ⟨3,st.hd,if 1<st.starts+1 then 1 else 0,0⟩).tkN [59]).ws;have a2:=(SameL.tkN ((st.st1.take true).thn ⟨3,st.hd,if 1<st.starts+1 then 1 else 0,0⟩)).ws;have a3:((st.st1.take true).thn ⟨3,st.hd,if 1<st.starts+1 then 1 else 0,0⟩).ws.length=(st.take true).ws.length:=rfl;omega
   · rename_i h3
     split
     · unfold RS.level
       dsimp only;have a1:=(SameL.tkS (RS.lvds (st.levels+1) (sdN st.hd.2.2) ((st.lv1.take true).lvd (st.levels+1) (sdN st.hd.2.2)).ws.length ((st.lv1.take true).lvd (st.levels+1) (sdN st.hd.2.2))) [59]).ws;have a2:=b3E (st.levels+1) (sdN st.hd.2.2) ((st.lv1.take true).lvd (st.levels+1) (sdN st.hd.2.2)).ws.length ((st.lv1.take true).lvd (st.levels+1) (sdN st.hd.2.2));have a3:((st.lv1.take true).lvd (st.levels+1) (sdN st.hd.2.2)).ws.length≤(st.lv1.take true).ws.length:=(SameL.tkN _).ws;have a4:(st.lv1.take true).ws.length=(st.take true).ws.length:=rfl;omega
     · rename_i h4
       have hat:st.atN=true:=by unfold RS.atN;rw [h1,b2w h2 h3 h4];rfl
       unfold RS.nont;have a1:=(SameL.tkS (RS.alts st.nont1.ws.length st.nont1) [59]).ws;have a2:=b5b st.nont1.ws.length st.nont1;have a3:st.nont1.ws.length≤st.nont0.ws.length:=b0L st.nont0;have a4:st.nont0.ws.length=((st.tkN.full (decide (st.nonts.length=16)) st.hd.2.1).tkS [58]).ws.length:=rfl;have a5:=(SameL.tkS (st.tkN.full (decide (st.nonts.length=16)) st.hd.2.1) [58]).ws;have a6:=(SameL.full st.tkN (decide (st.nonts.length=16)) st.hd.2.1).ws;have a7:st.tkN.ws.length+1=st.ws.length:=by rw [RS.tkN_ws hat,List.length_tail];have:=RS.hd_ne h0;omega
       omega
theorem O_ (f:Nat) {st:RS} (h:¬ (st.err=0∧st.hd.1≠0)):RS.items f st=st:=by
 cases f with
 | zero=>rfl
 | succ f=>rw [RS.items,if_neg h]
theorem a4p {st:RS} (_h:st.err=0):st.item.err≠0∨st.item.ws.length<st.ws.length:=by
 by_cases h1:st.hd.1=1
 · exact .inr (b9R h1)
 · left
   have e:st.item=st.give st.hd.2.1 1:=if_pos h1;rw [e];exact RS.give_err _ _ _ (by decide)
theorem a7L:∀ (n f:Nat) (st:RS),st.ws.length≤n→n≤f→RS.items f st=RS.items n st
 | 0,f,st,h,_=>by
  have:¬ (st.err=0∧st.hd.1≠0):=fun e=>by have:=RS.hd_ne e.2;omega
  rw [O_ f this,O_ 0 this]
 | n+1,0,st,h,hf=>by omega
 | n+1,f+1,st,h,hf=>by
  by_cases hc:st.err=0∧st.hd.1≠0
  · rw [RS.items,RS.items,if_pos hc,if_pos hc]
    rcases a4p hc.1 with h1 | h1
    · rw [O_ f (fun e=>h1 e.1),O_ n (fun e=>h1 e.1)]
    · exact a7L n f _ (by omega) (by omega)
  · rw [O_ _ hc,O_ _ hc]
theorem b1w {st:RS} (h:st.err=0) (hk:st.hd.1≠0):RS.items st.ws.length st=RS.items st.item.ws.length st.item:=by
 have h0:=RS.hd_ne hk;obtain ⟨f,hf⟩:∃ f,st.ws.length=f+1:=⟨st.ws.length - 1,by omega⟩;rw [hf,RS.items,if_pos ⟨h,hk⟩];rcases a4p h with h1 | h1
 · rw [O_ f (fun e=>h1 e.1),O_ _ (fun e=>h1 e.1)]
 · exact a7L _ f _ (Nat.le_refl _) (by omega)
end Go.Proofs.YtjgedijclkoemaaGreatDoor
namespace Go.Proofs.YtjgedijclkoemaaGreatDoor
open Go.RowKit Go.Maps Go.Sort
set_option maxRecDepth 20000 in
set_option maxHeartbeats 16000000 in
theorem c1r {B rb:Nat} {T:Nat→Nat} {w:World} {X:RX} {st:RS} (h:RdV B T w rb X st) (hm:st.hd.1≠0) (h16:st.rules.length=16) (b1:st.rules.length≤99000) (b2:st.skips.length≤99000) (b3:st.terms.length≤99000) (b4:st.later.length≤99000) :
 Calls Tryz.prog 86 #[r_ rb] w fun r w'=>r=.returned (.tuple #[])∧RdP B T w rb st.rule w':=by
 obtain ⟨ra,rc,hrv⟩:=p_ h.rules.1;have G1:=hid (a7d h true (fun _=>hm))
 have G2:Hid (∀ u,(∃ wv,Mov B T w rb X (st.take true) u wv)→(u.alloc (s_ st.hd)).cell? ⟨rb,1,none⟩=some (.slice ra st.rules.length rc)∧(st.rules.length=16→Calls Tryz.prog 66 #[r_ rb,.int .i64 (st.hd.2.1:Int),.int .i64 3] (u.alloc (s_ st.hd)) fun r w'=>r=.returned (.tuple #[])∧(∃ wv,Mov B T w rb X st.rule1 w' wv)∧Im T w' u.heap.size (s_ st.hd))∧(¬ st.rules.length=16→(∃ wv,Mov B T w rb X st.rule1 (u.alloc (s_ st.hd)) wv)∧Im T (u.alloc (s_ st.hd)) u.heap.size (s_ st.hd))):=hid (fun u hu=>by
  obtain ⟨wv,hM⟩:=hu;have hM1:=hM.keep (al' u (s_ st.hd));have i1:Im T (u.alloc (s_ st.hd)) u.heap.size (s_ st.hd):=hM.rd.im (Nat.le_refl _) (b_ u _);refine ⟨by rw [← hrv];exact c_ hM1.rd.blk rfl,fun e=>(a7Q hM1.rd st.hd.2.1 3 (by decide)).mono ?_,fun e=>⟨⟨wv,?_⟩,i1⟩⟩
  · rintro r w' ⟨e9,hM2⟩
    refine ⟨e9,⟨wv,?_⟩,i1.keep hM2.chg⟩;have e8:st.rule1=(st.take true).give st.hd.2.1 3:=by unfold RS.rule1 RS.full;rw [decide_eq_true e];rfl
    rw [e8];exact hM1.trans hM2
  · have e8:st.rule1=st.take true:=by unfold RS.rule1 RS.full;rw [decide_eq_false e];rfl
    rw [e8];exact hM1)
 have G3:Hid (∀ q1 u,(∃ wv,Mov B T w rb X st.rule1 u wv)→Im T u q1 (s_ st.hd)→Calls Tryz.prog 125 #[r_ rb] u fun r w'=>r=.returned (wdA st.rule1.hd)∧(∃ wv,Mov B T w rb X st.rule1.tkN w' wv)∧Im T w' q1 (s_ st.hd)):=hid (fun q1 u hu hi=>by
  obtain ⟨wv,hM⟩:=hu;refine (b8E hM.rd).mono ?_;rintro r w' ⟨e9,wv',hM2⟩;exact ⟨e9,⟨wv',hM.trans hM2⟩,hi.keep hM2.chg⟩)
 have hbd:∀ W:World,Below W.heap.size W W.drew:=fun W=>(Below.refl _ W).drew
 have G4:Hid (∀ q1 u,(∃ wv,Mov B T w rb X st.rule1.tkN u wv)→Im T u q1 (s_ st.hd)→∀ W,u.alloc (s_ st.rule1.hd)=W →
  (W.drew.cell? ⟨q1,2,none⟩=some (.string (e_ st.hd.2.2))∧W.drew.cell? ⟨u.heap.size,2,none⟩=some (.string (e_ st.rule1.hd.2.2))∧(W.alloc a0D).drew.cell? ⟨q1,2,none⟩=some (.string (e_ st.hd.2.2))∧(W.alloc a0D).drew.cell? ⟨u.heap.size,2,none⟩=some (.string (e_ st.rule1.hd.2.2))) ∧
  (Calls Tryz.prog 126 #[r_ rb] W.drew fun r w'=>∃ a m c,r=.returned (.slice a m c)∧(w'.cell? ⟨q1,2,none⟩=some (.string (e_ st.hd.2.2))∧w'.cell? ⟨u.heap.size,2,none⟩=some (.string (e_ st.rule1.hd.2.2))∧(w'.alloc a0D).cell? ⟨q1,2,none⟩=some (.string (e_ st.hd.2.2))∧(w'.alloc a0D).cell? ⟨u.heap.size,2,none⟩=some (.string (e_ st.rule1.hd.2.2))) ∧
   RuF B T w rb st.hd st.rule1.hd (decide (st.hd.2.2=L_)) (rxA st.rule1.tkN.hd.2.2).1 st.rule1.tkN.cells q1 u.heap.size (w'.alloc (a8e st.rule1.hd.2.2 (.slice a m c) (decide (st.hd.2.2=L_)))) w'.heap.size a m c) ∧
  (Calls Tryz.prog 126 #[r_ rb] (W.alloc a0D).drew fun r w'=>∃ a m c,r=.returned (.slice a m c)∧(w'.cell? ⟨q1,2,none⟩=some (.string (e_ st.hd.2.2))∧w'.cell? ⟨u.heap.size,2,none⟩=some (.string (e_ st.rule1.hd.2.2)))∧w'.heap[W.heap.size]?=some a0D ∧
   RuF B T w rb st.hd st.rule1.hd (decide (st.hd.2.2=L_)) (rxA st.rule1.tkN.hd.2.2).1 st.rule1.tkN.cells q1 u.heap.size (((w'.setCell ⟨W.heap.size,0,none⟩ (.string (e_ st.rule1.hd.2.2))).setCell ⟨W.heap.size,1,none⟩ (.slice a m c)).setCell ⟨W.heap.size,2,none⟩ (.bool (decide (st.hd.2.2=L_)))) W.heap.size a m c)):=hid (fun q1 u hu hi W hW=>by
  obtain ⟨wv,hM⟩:=hu;have hal:Below u.heap.size u W:=by rw [← hW];exact al' u _
  have hM1:=(hM.keep hal).keep (hbd W);have i1:=(hi.keep (Chg.of_below (T:=T) hal)).keep (Chg.of_below (T:=T) (hbd W));have i3:Im T W.drew u.heap.size (s_ st.rule1.hd):=⟨hM.rd.fresh (Nat.le_refl _),g_ (by rw [← hW];exact b_ u _) (hbd W)⟩;have hal2:Below W.drew.heap.size W.drew (W.alloc a0D).drew:=al' W.drew a0D;refine ⟨⟨i1.cell rfl,i3.cell rfl,d_ hal2 (i1.cell rfl),d_ hal2 (i3.cell rfl)⟩,(a3G hM1.rd).mono ?_,?_⟩
  · rintro r w' ⟨a,m,c,wv',e9,hM2,hI⟩
    have j1:=i1.keep hM2.chg;have j3:=i3.keep hM2.chg;have hal3:=al' w' a0D;have hal4:=al' w' (a8e st.rule1.hd.2.2 (.slice a m c) (decide (st.hd.2.2=L_)));have c4:=Chg.of_below (T:=T) hal4;exact ⟨a,m,c,e9,⟨j1.cell rfl,j3.cell rfl,d_ hal3 (j1.cell rfl),d_ hal3 (j3.cell rfl)⟩,T,_,hM2.rd.keep hal4,(hM1.trans hM2).chg.trans c4,j1.keep c4,j3.keep c4,⟨hM2.rd.fresh (Nat.le_refl _),b_ w' _⟩,fun e=>(hI e).keep c4⟩
  · obtain ⟨h5,c5⟩:=hM1.rd.aside (q:=W.drew.heap.size) (al' W.drew a0D) (Nat.le_refl _) (by rw [World.size_alloc];omega)
    refine (a3G h5).mono ?_;rintro r w' ⟨a,m,c,wv',e9,hM2,hI⟩;have k1:=(i1.keep c5).keep hM2.chg;have k3:=(i3.keep c5).keep hM2.chg;have hrb:=u_ hM1.rd.blk;have hne:¬ f_ rb W.drew.heap.size:=fun e=>absurd hrb (by rw [← show W.drew.heap.size=rb from e];exact Nat.lt_irrefl _)
    have hb0:w'.heap[W.heap.size]?=some a0D:=hM2.kept.blk (b_ W.drew a0D) hne;obtain ⟨p1,p2⟩:=c1y hb0 (.string (e_ st.rule1.hd.2.2)) (.slice a m c) (.bool (decide (st.hd.2.2=L_)));obtain ⟨r1,r2,r3,r4,r5⟩:=hM1.rd.boxG hM2 p1 p2;exact ⟨a,m,c,e9,⟨k1.cell rfl,k3.cell rfl⟩,hb0,T,_,r1,hM1.chg.trans r2,r4 _ _ i1,r4 _ _ i3,r3,fun e=>r5 _ _ (hI e)⟩)
 have hfin:st.rule=(((st.rule1.tkN.cells.tkS [59]).addR ⟨st.rule1.hd.2.2,(rxA st.rule1.tkN.hd.2.2).1,decide (st.hd.2.2=L_)⟩).addW st.rule1.hd (decide (st.hd.2.2=L_))).once st.rule1.hd:=rfl;rw [hfin];have hsm:SameL st st.rule1.tkN.cells:=((SameL.rule1 _).trans (SameL.tkN _)).trans (SameL.cells _)
 have hskp:((e_ st.hd.2.2).toList == ([115,107,105,112]:Txt))=decide (st.hd.2.2=L_):=by
  by_cases e:st.hd.2.2=L_
  · rw [decide_eq_true e];exact a1o e
  · rw [decide_eq_false e];exact a0r e
 have b1':st.rule1.tkN.cells.rules.length≤99000:=by rw [hsm.rules];exact b1
 have b2':st.rule1.tkN.cells.skips.length≤99000:=by rw [hsm.skips];exact b2
 have b3':st.rule1.tkN.cells.terms.length≤99000:=by rw [hsm.terms];exact b3
 have b4':st.rule1.tkN.cells.later.length≤99000:=by rw [hsm.later];exact b4
 clear hsm hfin h hrv b2 b3 b4 hm;generalize (rxA st.rule1.tkN.hd.2.2).1=cl at *;generalize st.rule1.tkN.cells=s3 at *;generalize st.rule1.tkN=s2 at *;generalize hH2:st.rule1.hd=H2 at *;generalize st.rule1=s1 at *;generalize st.take true=sA at *;generalize st.rules.length=nr at *;generalize hH1:st.hd=H1 at *;obtain ⟨k1,p1,t1⟩:=H1;obtain ⟨k2,p2,t2⟩:=H2
 try dsimp only at *
 clear hH1 hH2;generalize decide (t1=L_)=sk at *;have H3:Hid (∀ q1 u,(∃ wv,Mov B T w rb X s1 u wv)→Im T u q1 (s_ (k1,p1,t1))→Calls Tryz.prog 125 #[r_ rb] u fun r w'=>r=.returned (wdA (k2,p2,t2))∧(∃ wv,Mov B T w rb X s2 w' wv)∧Im T w' q1 (s_ (k1,p1,t1))):=G3;clear G3;have hz16:((nr:Int) == 16)=true:=by rw [beq_iff_eq];omega
 go_enter Tryz.func86,Tryz.ntmps86
 go_wp2_with (first
  | (go_at_call 124;refine G1.out.mono ?_;clear G1;rintro e u1 ⟨rfl,hu⟩;obtain ⟨z1,g16,gno⟩:=G2.out u1 hu;clear G2 hu;have gno:=hid gno;have g16:=hid g16;obtain ⟨v0,v1,v2,-,-⟩:=rd3 (b_ u1 (s_ (k1,p1,t1)));obtain ⟨W1,hW1⟩:∃ y,u1.alloc (s_ (k1,p1,t1))=y:=⟨_,rfl⟩;rw [hW1] at z1 g16 gno v0 v1 v2)
  | (go_at_call 66;refine (g16.out h16).mono ?_;clear g16 gno;rintro e u2 ⟨rfl,hm2,hi2⟩;have hm2:=hid hm2;have hi2:=hid hi2)
  | (go_at_call 125;refine (H3.out _ _ hm2.out hi2.out).mono ?_;clear hm2 hi2;rintro e u3 ⟨rfl,hm3,hi3⟩;obtain ⟨W3,hW3⟩:∃ y,u3.alloc (s_ (k2,p2,t2))=y:=⟨_,rfl⟩;obtain ⟨⟨y1,y2,y3,y4⟩,GC,GC'⟩:=G4.out _ u3 hm3 hi3 W3 hW3;have GC:=hid GC;have GC':=hid GC';clear hm3 hi3)
  | (go_at_call 125;refine (H3.out _ _ (gno.out h16).1 (gno.out h16).2).mono ?_;rintro e u3 ⟨rfl,hm3,hi3⟩;obtain ⟨W3,hW3⟩:∃ y,u3.alloc (s_ (k2,p2,t2))=y:=⟨_,rfl⟩;obtain ⟨⟨y1,y2,y3,y4⟩,GC,GC'⟩:=G4.out _ u3 hm3 hi3 W3 hW3;have GC:=hid GC;have GC':=hid GC';clear hm3 hi3))
 clear hW3 G4 H3 hz16
 try clear hW1
 try clear z1 v0 v1 v2
 try clear gno g16
 generalize u1.heap.size=q1 at *;generalize u3.heap.size=q3 at *;apply a7Z (F:=fun V q a m c=>RuF B T w rb (k1,p1,t1) (k2,p2,t2) sk cl s3 q1 q3 V q a m c)
 case h =>
  intro rest
  go_region_with (first
   | (go_at_call 126;refine GC.out.mono ?_;rintro e u4 ⟨a,m,c,rfl,⟨x1,x2,x3,x4⟩,hf⟩;have hf9:=hid hf;clear hf)
   | (go_at_call 126;refine GC'.out.mono ?_;rintro e u4 ⟨a,m,c,rfl,⟨x1,x2⟩,hb9,hf⟩;have hf9:=hid hf;clear hf;obtain ⟨⟨m0,m1⟩,⟨m2,m3⟩,⟨m4,m5⟩,m6,m7,m8⟩:=a6a hb9 (.string (e_ t2)) (.slice a m c) (.bool sk);clear hb9 m6 m7 m8))
  all_goals
   have hf:=hf9.out;clear hf9
   first
    | (generalize ((u4.setCell ⟨W3.heap.size,0,none⟩ (.string (e_ t2))).setCell ⟨W3.heap.size,1,none⟩ (.slice a m c)).setCell ⟨W3.heap.size,2,none⟩ (.bool sk)=V at hf ⊢;generalize W3.heap.size=q at hf ⊢;exact rest V q a m c hf)
    | (generalize u4.alloc (a8e t2 (.slice a m c) sk)=V at hf ⊢;generalize u4.heap.size=q at hf ⊢;exact rest V q a m c hf)
 case pf =>
  rintro V q a m c hF;have G5:=hid (b2z hF b1');have hS:SameL s3 (s3.tkS [59]):=SameL.tkS _ _;have e2:((s3.tkS [59]).addR ⟨t2,cl,sk⟩).skips.length≤99000:=by show (s3.tkS [59]).skips.length≤_;rw [hS.skips];exact b2'
  have e3:((s3.tkS [59]).addR ⟨t2,cl,sk⟩).terms.length≤99000:=by show (s3.tkS [59]).terms.length≤_;rw [hS.terms];exact b3'
  have e4:((s3.tkS [59]).addR ⟨t2,cl,sk⟩).later.length≤99000:=by show (s3.tkS [59]).later.length≤_;rw [hS.later];exact b4'
  have G6:=hid (fun V6 (h6:RuP B T w rb (k2,p2,t2) (a8e t2 (.slice a m c) sk) ((s3.tkS [59]).addR ⟨t2,cl,sk⟩) q3 q V6)=>b2A h6 e2 e3 e4);clear hF GC GC' y1 y2 y3 y4 hS e2 e3 e4 b1' b2' b3' b4';generalize s3.rules.length=n5 at *;go_wp2_with (go_at_call 127;refine G5.out.mono ?_;clear G5;rintro e u5 ⟨rfl,rv,A,C,w6,⟨d0,d1,d2,d3⟩,⟨f0,f1,f2,f3⟩,hrun,g0,g1,hP⟩;have hP:=hid hP)
  apply S_
  case h =>
   intro rest
   go_region_law ((first
    | (refine M_ (by rfl) (.tmp 35) (.tmp 37) 22 (by rfl) _ _ (by rfl) (by rfl) hrun ?_)
    | fail))
   all_goals exact rest.out
  case pf =>
   obtain ⟨⟨z0,z1,z2,z3⟩,G7⟩:=G6.out _ hP.out;have G7:=hid G7;clear G6 hP d0 d1 d2 d3 f0 f1 f2 f3 g0 g1 hrun;generalize w6.setCell ⟨rb,1,none⟩ (.slice A (n5+1) C)=V6 at *;go_wp2_with fail
   go_region_with (go_at_call 128;refine G7.out.mono ?_;rintro e u7 ⟨rfl,⟨o0,o1,o2⟩,G8⟩;have G8:=hid G8)
   all_goals
    go_wp2_with (go_at_call 129;refine G8.out.mono ?_;clear G8;rintro e u8 ⟨rfl,hQ⟩;have hQ:=hid hQ)
    go_end0
    exact ⟨rfl,hQ.out⟩
set_option maxRecDepth 20000 in
set_option maxHeartbeats 16000000 in
theorem c1q {B rb:Nat} {T:Nat→Nat} {w:World} {X:RX} {st:RS} (h:RdV B T w rb X st) (hm:st.hd.1≠0) (h16:¬ st.rules.length=16) (b1:st.rules.length≤99000) (b2:st.skips.length≤99000) (b3:st.terms.length≤99000) (b4:st.later.length≤99000) :
 Calls Tryz.prog 86 #[r_ rb] w fun r w'=>r=.returned (.tuple #[])∧RdP B T w rb st.rule w':=by
 obtain ⟨ra,rc,hrv⟩:=p_ h.rules.1;have G1:=hid (a7d h true (fun _=>hm))
 have G2:Hid (∀ u,(∃ wv,Mov B T w rb X (st.take true) u wv)→(u.alloc (s_ st.hd)).cell? ⟨rb,1,none⟩=some (.slice ra st.rules.length rc)∧(st.rules.length=16→Calls Tryz.prog 66 #[r_ rb,.int .i64 (st.hd.2.1:Int),.int .i64 3] (u.alloc (s_ st.hd)) fun r w'=>r=.returned (.tuple #[])∧(∃ wv,Mov B T w rb X st.rule1 w' wv)∧Im T w' u.heap.size (s_ st.hd))∧(¬ st.rules.length=16→(∃ wv,Mov B T w rb X st.rule1 (u.alloc (s_ st.hd)) wv)∧Im T (u.alloc (s_ st.hd)) u.heap.size (s_ st.hd))):=hid (fun u hu=>by
  obtain ⟨wv,hM⟩:=hu;have hM1:=hM.keep (al' u (s_ st.hd));have i1:Im T (u.alloc (s_ st.hd)) u.heap.size (s_ st.hd):=hM.rd.im (Nat.le_refl _) (b_ u _);refine ⟨by rw [← hrv];exact c_ hM1.rd.blk rfl,fun e=>(a7Q hM1.rd st.hd.2.1 3 (by decide)).mono ?_,fun e=>⟨⟨wv,?_⟩,i1⟩⟩
  · rintro r w' ⟨e9,hM2⟩
    refine ⟨e9,⟨wv,?_⟩,i1.keep hM2.chg⟩;have e8:st.rule1=(st.take true).give st.hd.2.1 3:=by unfold RS.rule1 RS.full;rw [decide_eq_true e];rfl
    rw [e8];exact hM1.trans hM2
  · have e8:st.rule1=st.take true:=by unfold RS.rule1 RS.full;rw [decide_eq_false e];rfl
    rw [e8];exact hM1)
 have G3:Hid (∀ q1 u,(∃ wv,Mov B T w rb X st.rule1 u wv)→Im T u q1 (s_ st.hd)→Calls Tryz.prog 125 #[r_ rb] u fun r w'=>r=.returned (wdA st.rule1.hd)∧(∃ wv,Mov B T w rb X st.rule1.tkN w' wv)∧Im T w' q1 (s_ st.hd)):=hid (fun q1 u hu hi=>by
  obtain ⟨wv,hM⟩:=hu;refine (b8E hM.rd).mono ?_;rintro r w' ⟨e9,wv',hM2⟩;exact ⟨e9,⟨wv',hM.trans hM2⟩,hi.keep hM2.chg⟩)
 have hbd:∀ W:World,Below W.heap.size W W.drew:=fun W=>(Below.refl _ W).drew
 have G4:Hid (∀ q1 u,(∃ wv,Mov B T w rb X st.rule1.tkN u wv)→Im T u q1 (s_ st.hd)→∀ W,u.alloc (s_ st.rule1.hd)=W →
  (W.drew.cell? ⟨q1,2,none⟩=some (.string (e_ st.hd.2.2))∧W.drew.cell? ⟨u.heap.size,2,none⟩=some (.string (e_ st.rule1.hd.2.2))∧(W.alloc a0D).drew.cell? ⟨q1,2,none⟩=some (.string (e_ st.hd.2.2))∧(W.alloc a0D).drew.cell? ⟨u.heap.size,2,none⟩=some (.string (e_ st.rule1.hd.2.2))) ∧
  (Calls Tryz.prog 126 #[r_ rb] W.drew fun r w'=>∃ a m c,r=.returned (.slice a m c)∧(w'.cell? ⟨q1,2,none⟩=some (.string (e_ st.hd.2.2))∧w'.cell? ⟨u.heap.size,2,none⟩=some (.string (e_ st.rule1.hd.2.2))∧(w'.alloc a0D).cell? ⟨q1,2,none⟩=some (.string (e_ st.hd.2.2))∧(w'.alloc a0D).cell? ⟨u.heap.size,2,none⟩=some (.string (e_ st.rule1.hd.2.2))) ∧
   RuF B T w rb st.hd st.rule1.hd (decide (st.hd.2.2=L_)) (rxA st.rule1.tkN.hd.2.2).1 st.rule1.tkN.cells q1 u.heap.size (w'.alloc (a8e st.rule1.hd.2.2 (.slice a m c) (decide (st.hd.2.2=L_)))) w'.heap.size a m c) ∧
  (Calls Tryz.prog 126 #[r_ rb] (W.alloc a0D).drew fun r w'=>∃ a m c,r=.returned (.slice a m c)∧(w'.cell? ⟨q1,2,none⟩=some (.string (e_ st.hd.2.2))∧w'.cell? ⟨u.heap.size,2,none⟩=some (.string (e_ st.rule1.hd.2.2)))∧w'.heap[W.heap.size]?=some a0D ∧
   RuF B T w rb st.hd st.rule1.hd (decide (st.hd.2.2=L_)) (rxA st.rule1.tkN.hd.2.2).1 st.rule1.tkN.cells q1 u.heap.size (((w'.setCell ⟨W.heap.size,0,none⟩ (.string (e_ st.rule1.hd.2.2))).setCell ⟨W.heap.size,1,none⟩ (.slice a m c)).setCell ⟨W.heap.size,2,none⟩ (.bool (decide (st.hd.2.2=L_)))) W.heap.size a m c)):=hid (fun q1 u hu hi W hW=>by
  obtain ⟨wv,hM⟩:=hu;have hal:Below u.heap.size u W:=by rw [← hW];exact al' u _
  have hM1:=(hM.keep hal).keep (hbd W);have i1:=(hi.keep (Chg.of_below (T:=T) hal)).keep (Chg.of_below (T:=T) (hbd W));have i3:Im T W.drew u.heap.size (s_ st.rule1.hd):=⟨hM.rd.fresh (Nat.le_refl _),g_ (by rw [← hW];exact b_ u _) (hbd W)⟩;have hal2:Below W.drew.heap.size W.drew (W.alloc a0D).drew:=al' W.drew a0D;refine ⟨⟨i1.cell rfl,i3.cell rfl,d_ hal2 (i1.cell rfl),d_ hal2 (i3.cell rfl)⟩,(a3G hM1.rd).mono ?_,?_⟩
  · rintro r w' ⟨a,m,c,wv',e9,hM2,hI⟩
    have j1:=i1.keep hM2.chg;have j3:=i3.keep hM2.chg;have hal3:=al' w' a0D;have hal4:=al' w' (a8e st.rule1.hd.2.2 (.slice a m c) (decide (st.hd.2.2=L_)));have c4:=Chg.of_below (T:=T) hal4;exact ⟨a,m,c,e9,⟨j1.cell rfl,j3.cell rfl,d_ hal3 (j1.cell rfl),d_ hal3 (j3.cell rfl)⟩,T,_,hM2.rd.keep hal4,(hM1.trans hM2).chg.trans c4,j1.keep c4,j3.keep c4,⟨hM2.rd.fresh (Nat.le_refl _),b_ w' _⟩,fun e=>(hI e).keep c4⟩
  · obtain ⟨h5,c5⟩:=hM1.rd.aside (q:=W.drew.heap.size) (al' W.drew a0D) (Nat.le_refl _) (by rw [World.size_alloc];omega)
    refine (a3G h5).mono ?_;rintro r w' ⟨a,m,c,wv',e9,hM2,hI⟩;have k1:=(i1.keep c5).keep hM2.chg;have k3:=(i3.keep c5).keep hM2.chg;have hrb:=u_ hM1.rd.blk;have hne:¬ f_ rb W.drew.heap.size:=fun e=>absurd hrb (by rw [← show W.drew.heap.size=rb from e];exact Nat.lt_irrefl _)
    have hb0:w'.heap[W.heap.size]?=some a0D:=hM2.kept.blk (b_ W.drew a0D) hne;obtain ⟨p1,p2⟩:=c1y hb0 (.string (e_ st.rule1.hd.2.2)) (.slice a m c) (.bool (decide (st.hd.2.2=L_)));obtain ⟨r1,r2,r3,r4,r5⟩:=hM1.rd.boxG hM2 p1 p2;exact ⟨a,m,c,e9,⟨k1.cell rfl,k3.cell rfl⟩,hb0,T,_,r1,hM1.chg.trans r2,r4 _ _ i1,r4 _ _ i3,r3,fun e=>r5 _ _ (hI e)⟩)
 have hfin:st.rule=(((st.rule1.tkN.cells.tkS [59]).addR ⟨st.rule1.hd.2.2,(rxA st.rule1.tkN.hd.2.2).1,decide (st.hd.2.2=L_)⟩).addW st.rule1.hd (decide (st.hd.2.2=L_))).once st.rule1.hd:=rfl;rw [hfin];have hsm:SameL st st.rule1.tkN.cells:=((SameL.rule1 _).trans (SameL.tkN _)).trans (SameL.cells _)
 have hskp:((e_ st.hd.2.2).toList == ([115,107,105,112]:Txt))=decide (st.hd.2.2=L_):=by
  by_cases e:st.hd.2.2=L_
  · rw [decide_eq_true e];exact a1o e
  · rw [decide_eq_false e];exact a0r e
 have b1':st.rule1.tkN.cells.rules.length≤99000:=by rw [hsm.rules];exact b1
 have b2':st.rule1.tkN.cells.skips.length≤99000:=by rw [hsm.skips];exact b2
 have b3':st.rule1.tkN.cells.terms.length≤99000:=by rw [hsm.terms];exact b3
 have b4':st.rule1.tkN.cells.later.length≤99000:=by rw [hsm.later];exact b4
 clear hsm hfin h hrv b2 b3 b4 hm;generalize (rxA st.rule1.tkN.hd.2.2).1=cl at *;generalize st.rule1.tkN.cells=s3 at *;generalize st.rule1.tkN=s2 at *;generalize hH2:st.rule1.hd=H2 at *;generalize st.rule1=s1 at *;generalize st.take true=sA at *;generalize st.rules.length=nr at *;generalize hH1:st.hd=H1 at *;obtain ⟨k1,p1,t1⟩:=H1;obtain ⟨k2,p2,t2⟩:=H2
 try dsimp only at *
 clear hH1 hH2;generalize decide (t1=L_)=sk at *;have H3:Hid (∀ q1 u,(∃ wv,Mov B T w rb X s1 u wv)→Im T u q1 (s_ (k1,p1,t1))→Calls Tryz.prog 125 #[r_ rb] u fun r w'=>r=.returned (wdA (k2,p2,t2))∧(∃ wv,Mov B T w rb X s2 w' wv)∧Im T w' q1 (s_ (k1,p1,t1))):=G3;clear G3;have hz16:((nr:Int) == 16)=false:=by rw [beq_eq_false_iff_ne];omega
 go_enter Tryz.func86,Tryz.ntmps86
 go_wp2_with (first
  | (go_at_call 124;refine G1.out.mono ?_;clear G1;rintro e u1 ⟨rfl,hu⟩;obtain ⟨z1,g16,gno⟩:=G2.out u1 hu;clear G2 hu;have gno:=hid gno;have g16:=hid g16;obtain ⟨v0,v1,v2,-,-⟩:=rd3 (b_ u1 (s_ (k1,p1,t1)));obtain ⟨W1,hW1⟩:∃ y,u1.alloc (s_ (k1,p1,t1))=y:=⟨_,rfl⟩;rw [hW1] at z1 g16 gno v0 v1 v2)
  | (go_at_call 66;refine (g16.out h16).mono ?_;clear g16 gno;rintro e u2 ⟨rfl,hm2,hi2⟩;have hm2:=hid hm2;have hi2:=hid hi2)
  | (go_at_call 125;refine (H3.out _ _ hm2.out hi2.out).mono ?_;clear hm2 hi2;rintro e u3 ⟨rfl,hm3,hi3⟩;obtain ⟨W3,hW3⟩:∃ y,u3.alloc (s_ (k2,p2,t2))=y:=⟨_,rfl⟩;obtain ⟨⟨y1,y2,y3,y4⟩,GC,GC'⟩:=G4.out _ u3 hm3 hi3 W3 hW3;have GC:=hid GC;have GC':=hid GC';clear hm3 hi3)
  | (go_at_call 125;refine (H3.out _ _ (gno.out h16).1 (gno.out h16).2).mono ?_;rintro e u3 ⟨rfl,hm3,hi3⟩;obtain ⟨W3,hW3⟩:∃ y,u3.alloc (s_ (k2,p2,t2))=y:=⟨_,rfl⟩;obtain ⟨⟨y1,y2,y3,y4⟩,GC,GC'⟩:=G4.out _ u3 hm3 hi3 W3 hW3;have GC:=hid GC;have GC':=hid GC';clear hm3 hi3))
 clear hW3 G4 H3 hz16
 try clear hW1
 try clear z1 v0 v1 v2
 try clear gno g16
 generalize u1.heap.size=q1 at *;generalize u3.heap.size=q3 at *;apply a7Z (F:=fun V q a m c=>RuF B T w rb (k1,p1,t1) (k2,p2,t2) sk cl s3 q1 q3 V q a m c)
 case h =>
  intro rest
  go_region_with (first
   | (go_at_call 126;refine GC.out.mono ?_;rintro e u4 ⟨a,m,c,rfl,⟨x1,x2,x3,x4⟩,hf⟩;have hf9:=hid hf;clear hf)
   | (go_at_call 126;refine GC'.out.mono ?_;rintro e u4 ⟨a,m,c,rfl,⟨x1,x2⟩,hb9,hf⟩;have hf9:=hid hf;clear hf;obtain ⟨⟨m0,m1⟩,⟨m2,m3⟩,⟨m4,m5⟩,m6,m7,m8⟩:=a6a hb9 (.string (e_ t2)) (.slice a m c) (.bool sk);clear hb9 m6 m7 m8))
  all_goals
   have hf:=hf9.out;clear hf9
   first
    | (generalize ((u4.setCell ⟨W3.heap.size,0,none⟩ (.string (e_ t2))).setCell ⟨W3.heap.size,1,none⟩ (.slice a m c)).setCell ⟨W3.heap.size,2,none⟩ (.bool sk)=V at hf ⊢;generalize W3.heap.size=q at hf ⊢;exact rest V q a m c hf)
    | (generalize u4.alloc (a8e t2 (.slice a m c) sk)=V at hf ⊢;generalize u4.heap.size=q at hf ⊢;exact rest V q a m c hf)
 case pf =>
  rintro V q a m c hF;have G5:=hid (b2z hF b1');have hS:SameL s3 (s3.tkS [59]):=SameL.tkS _ _;have e2:((s3.tkS [59]).addR ⟨t2,cl,sk⟩).skips.length≤99000:=by show (s3.tkS [59]).skips.length≤_;rw [hS.skips];exact b2'
  have e3:((s3.tkS [59]).addR ⟨t2,cl,sk⟩).terms.length≤99000:=by show (s3.tkS [59]).terms.length≤_;rw [hS.terms];exact b3'
  have e4:((s3.tkS [59]).addR ⟨t2,cl,sk⟩).later.length≤99000:=by show (s3.tkS [59]).later.length≤_;rw [hS.later];exact b4'
  have G6:=hid (fun V6 (h6:RuP B T w rb (k2,p2,t2) (a8e t2 (.slice a m c) sk) ((s3.tkS [59]).addR ⟨t2,cl,sk⟩) q3 q V6)=>b2A h6 e2 e3 e4);clear hF GC GC' y1 y2 y3 y4 hS e2 e3 e4 b1' b2' b3' b4';generalize s3.rules.length=n5 at *;go_wp2_with (go_at_call 127;refine G5.out.mono ?_;clear G5;rintro e u5 ⟨rfl,rv,A,C,w6,⟨d0,d1,d2,d3⟩,⟨f0,f1,f2,f3⟩,hrun,g0,g1,hP⟩;have hP:=hid hP)
  apply S_
  case h =>
   intro rest
   go_region_law ((first
    | (refine M_ (by rfl) (.tmp 35) (.tmp 37) 22 (by rfl) _ _ (by rfl) (by rfl) hrun ?_)
    | fail))
   all_goals exact rest.out
  case pf =>
   obtain ⟨⟨z0,z1,z2,z3⟩,G7⟩:=G6.out _ hP.out;have G7:=hid G7;clear G6 hP d0 d1 d2 d3 f0 f1 f2 f3 g0 g1 hrun;generalize w6.setCell ⟨rb,1,none⟩ (.slice A (n5+1) C)=V6 at *;go_wp2_with fail
   go_region_with (go_at_call 128;refine G7.out.mono ?_;rintro e u7 ⟨rfl,⟨o0,o1,o2⟩,G8⟩;have G8:=hid G8)
   all_goals
    go_wp2_with (go_at_call 129;refine G8.out.mono ?_;clear G8;rintro e u8 ⟨rfl,hQ⟩;have hQ:=hid hQ)
    go_end0
    exact ⟨rfl,hQ.out⟩
theorem b4x {R F:World→Prop} {G:Prop} (h:(∀ V,F V→R V)→G) (pf:∀ V,F V→R V):G:=h pf
set_option maxRecDepth 20000 in
theorem c0H {B rb:Nat} {T T1:Nat→Nat} {w u:World} {X1:RX} {st:RS} (h:RdV B T1 u rb X1 st) (hc:Chg T T1 w u) (hb:st.pot≤80010) (hs:st.atS [124]=true) :
 ∀ v,Below u.heap.size u v→Calls Tryz.prog 127 #[r_ rb,.string ⟨#[124]⟩] v fun r v2=>r=.returned (.tuple #[])∧Calls Tryz.prog 138 #[r_ rb] v2 fun r w'=>r=.returned (.tuple #[])∧RdP B T w rb (st.tkS [124]).alt w':=fun v hv=>by
 refine (b8D (h.keep hv) [124]).mono ?_;rintro r v2 ⟨e,wv,hM⟩;have hp:=RS.tkS_pot hs;obtain ⟨-,-,q3,-,-,-,q7,-,-⟩:=RS.pot_le (show (st.tkS [124]).pot≤80010 by omega);refine ⟨e,(c4E hM.rd (by omega) (by omega)).mono ?_⟩;rintro r w' ⟨e3,T3,X3,hr3,hc3⟩;exact ⟨e3,T3,X3,hr3,((hc.trans (Chg.of_below hv)).trans hM.chg).trans hc3⟩
theorem c0G {st:RS} (hs:st.atS [124]=true):RS.alts st.ws.length st=RS.alts (st.tkS [124]).alt.ws.length (st.tkS [124]).alt∧(st.tkS [124]).alt.ws.length<st.ws.length∧(st.tkS [124]).alt.pot≤st.pot:=by
 have h0:=RS.hd_ne (RS.atS_hd hs)
 have h1:(st.tkS [124]).alt.ws.length≤st.ws.length - 1:=by
  have:=b0L (st.tkS [124])
  rw [RS.tkS_ws hs,List.length_tail] at this;exact this
 refine ⟨by rw [b0K hs (fun e=>by rw [e] at h0;exact absurd h0 (Nat.lt_irrefl _)),a2F _ _ h1],by omega,?_⟩;have h2:=RS.tkS_pot hs;have h3:=RS.alt_pot (st.tkS [124]);omega
set_option maxRecDepth 20000 in
set_option maxHeartbeats 16000000 in
theorem c3P {B rb:Nat} {T:Nat→Nat} {w:World} {X:RX} {st:RS} (h:RdV B T w rb X st) (ha:st.atN=true) (hpot:st.pot≤80000) :
 Calls Tryz.prog 90 #[r_ rb] w fun r w'=>r=.returned (.tuple #[])∧RdP B T w rb st.nont w':=by
 obtain ⟨na,nc,hnv⟩:=p_ h.nonts.1;have G1:=hid (b8E h);obtain ⟨-,pn,-⟩:=RS.pot_le hpot
 have G2:Hid (∀ u,(∃ wv,Mov B T w rb X st.tkN u wv)→(u.alloc (s_ st.hd)).cell? ⟨rb,2,none⟩=some (.slice na st.nonts.length nc)∧(st.nonts.length=16→Calls Tryz.prog 66 #[r_ rb,.int .i64 (st.hd.2.1:Int),.int .i64 3] (u.alloc (s_ st.hd)) fun r w'=>r=.returned (.tuple #[])∧NtP B T w rb st.hd (st.tkN.full (decide (st.nonts.length=16)) st.hd.2.1) u.heap.size w')∧(¬ st.nonts.length=16→NtP B T w rb st.hd (st.tkN.full (decide (st.nonts.length=16)) st.hd.2.1) u.heap.size (u.alloc (s_ st.hd)))):=hid (fun u hu=>by
  obtain ⟨wv,hM⟩:=hu;have hM1:=hM.keep (al' u (s_ st.hd));have i1:Im T (u.alloc (s_ st.hd)) u.heap.size (s_ st.hd):=hM.rd.im (Nat.le_refl _) (b_ u _);refine ⟨by rw [← hnv];exact c_ hM1.rd.blk rfl,fun e=>(a7Q hM1.rd st.hd.2.1 3 (by decide)).mono ?_,fun e=>⟨T,{ X with wv:=wv },?_,hM1.chg,i1⟩⟩
  · rintro r w' ⟨e9,hM2⟩
    have e8:st.tkN.full (decide (st.nonts.length=16)) st.hd.2.1=st.tkN.give st.hd.2.1 3:=by unfold RS.full;rw [decide_eq_true e];rfl
    rw [e8];exact ⟨e9,T,_,hM2.rd,(hM1.trans hM2).chg,i1.keep hM2.chg⟩
  · have e8:st.tkN.full (decide (st.nonts.length=16)) st.hd.2.1=st.tkN:=by unfold RS.full;rw [decide_eq_false e];rfl
    rw [e8];exact hM1.rd)
 have sm1:SameL st (st.tkN.full (decide (st.nonts.length=16)) st.hd.2.1):=(SameL.tkN _).trans (SameL.full _ _ _);have G3:=hid (fun V q (hV:NtP B T w rb st.hd (st.tkN.full (decide (st.nonts.length=16)) st.hd.2.1) q V)=>c3R hV (by rw [sm1.nonts];omega));rw [sm1.nonts] at G3
 have hp3:(((st.tkN.full (decide (st.nonts.length=16)) st.hd.2.1).tkS [58]).addN st.hd.2.2).pot≤90000:=by
  rw [RS.addN_pot];have h1:=sm1.pot;have h2:=(SameL.tkS (st.tkN.full (decide (st.nonts.length=16)) st.hd.2.1) [58]).pot;omega
 have G4:=hid (fun V q (hV:NtP B T w rb st.hd (((st.tkN.full (decide (st.nonts.length=16)) st.hd.2.1).tkS [58]).addN st.hd.2.2) q V)=>c3Q hV hp3);have e1:((((st.tkN.full (decide (st.nonts.length=16)) st.hd.2.1).tkS [58]).addN st.hd.2.2).addO st.hd |>.once st.hd).alt=st.nont1:=rfl
 have hp1:st.nont1.pot≤80010:=by
  have h3:st.nont1.pot≤st.nont0.pot+1:=RS.alt_pot st.nont0;have h4:=RS.nont0_pot st;have h5:=RS.tkN_pot ha;omega
 have hp1:=hid hp1;rw [e1] at G4;have hdf:st.nont=(RS.alts st.nont1.ws.length st.nont1).tkS [59]:=rfl;rw [hdf];obtain ⟨R,hR⟩:∃ R,Hid (RS.alts st.nont1.ws.length st.nont1=R):=⟨_,hid rfl⟩;rw [hR.out];clear hdf e1 hp3 sm1 h hnv hpot ha;generalize st.nont1=s6 at *;generalize ((st.tkN.full (decide (st.nonts.length=16)) st.hd.2.1).tkS [58]).addN st.hd.2.2=s3 at *;generalize st.tkN.full (decide (st.nonts.length=16)) st.hd.2.1=s1 at *;generalize st.tkN=s0 at *;generalize st.nonts.length=nn at *;generalize st.hd=H at *;obtain ⟨hk,hp,ht⟩:=H
 try dsimp only at *
 by_cases h16:nn=16
 all_goals
  first
   | (have hz16:((nn:Int) == 16)=true:=by rw [beq_iff_eq];omega)
   | (have hz16:((nn:Int) == 16)=false:=by rw [beq_eq_false_iff_ne];omega)
  have h16:=hid h16;go_enter Tryz.func90,Tryz.ntmps90
  rename_i h9
  clear h9
  go_wp2_with (first
   | (go_at_call 125;refine G1.out.mono ?_;clear G1;rintro e u1 ⟨rfl,hu⟩;obtain ⟨z1,g16,gno⟩:=G2.out u1 hu;clear G2 hu;have gno:=hid gno;have g16:=hid g16;obtain ⟨v0,v1,v2,-,-⟩:=rd3 (b_ u1 (s_ (hk,hp,ht)));obtain ⟨W1,hW1⟩:∃ y,u1.alloc (s_ (hk,hp,ht))=y:=⟨_,rfl⟩;rw [hW1] at z1 g16 gno v0 v1 v2)
   | (go_at_call 66;refine (g16.out h16.out).mono ?_;clear g16;rintro e u2 ⟨rfl,hN⟩;have G5:=hid (G3.out _ _ hN);clear G3 hN)
   | (go_at_call 127;refine G5.out.mono ?_;clear G5;rintro e u3 ⟨rfl,rv,A,C,w6,⟨d0,d1⟩,⟨f0,f1⟩,hrun,g0,g1,hP⟩;have hP:=hid hP)
   | (go_at_call 127;refine (G3.out _ _ (gno.out h16.out)).mono ?_;clear G3;rintro e u3 ⟨rfl,rv,A,C,w6,⟨d0,d1⟩,⟨f0,f1⟩,hrun,g0,g1,hP⟩;have hP:=hid hP))
  apply S_
  case h =>
   intro rest
   go_region_law ((first
    | (refine M_ (by rfl) (.tmp 23) (.tmp 26) 23 (by rfl) _ _ (by rfl) (by rfl) hrun ?_)
    | fail))
   all_goals exact rest.out
  case pf =>
   obtain ⟨⟨z4,z5,z6⟩,G7⟩:=G4.out _ _ hP.out;have G7:=hid G7;clear G4 hP d0 d1 f0 f1 g0 g1 hrun;generalize w6.setCell ⟨rb,2,none⟩ (.slice A (nn+1) C)=V6 at *;go_wp2_with fail
   apply b4x (F:=fun V=>(V.cell? ⟨u1.heap.size,0,none⟩=some (.int .i64 (hk:Int))∧V.cell? ⟨u1.heap.size,1,none⟩=some (.int .i64 (hp:Int))∧V.cell? ⟨u1.heap.size,2,none⟩=some (.string (e_ ht)))∧Calls Tryz.prog 129 #[r_ rb,wdA (hk,hp,ht)] V fun r u2=>r=.returned (.tuple #[])∧Calls Tryz.prog 138 #[r_ rb] u2 fun r w'=>r=.returned (.tuple #[])∧RdP B T w rb s6 w')
   case h =>
    intro rest;go_region_with (go_at_call 137;refine G7.out.mono ?_;rintro e u7 ⟨rfl,h7⟩;have h7:=hid h7)
    all_goals exact rest u7 h7.out
   case pf =>
    rintro V ⟨⟨o0,o1,o2⟩,G8⟩;have G8:=hid G8;clear G7 z4 z5 z6
    go_wp2_with (first
     | (go_at_call 129;refine G8.out.mono ?_;clear G8;rintro e u8 ⟨rfl,G9⟩;have G9:=hid G9)
     | (go_at_call 138;refine G9.out.mono ?_;clear G9;rintro e u9 ⟨rfl,T9,X9,hr9,hc9⟩;have hr9:=hid hr9;have hc9:=hid hc9))
    clear o0 o1 o2;go_loopw [] (fun wr=>∃ (T1:Nat→Nat) (X1:RX) (st1:RS),Hid (RdV B T1 wr rb X1 st1)∧Hid (Chg T T1 w wr)∧Hid (RS.alts st1.ws.length st1=R)∧Hid (st1.pot≤80010)) (fun wr=>wsN wr rb)
    case atStart=>exact ⟨T9,X9,_,hr9,hc9,hR,hp1⟩
    case round =>
     obtain ⟨T1,X1,st1,hr,hc,hL,hb⟩:=hrel;clear hr9 hc9 hR hp1;have GA:Hid (Calls Tryz.prog 139 #[r_ rb,.string ⟨#[124]⟩] wr fun r w'=>r=.returned (.bool (st1.atS [124]))∧Below wr.heap.size wr w'):=hid (c0R hr.out [124]);have hm0:=hr.out.wsN;cases ha:st1.atS [124] with
     | false =>
      rw [ha] at GA;have e9:=hL.out;rw [a9h _ ha] at e9;subst e9;clear hL ha hm0 hb;have GG:Hid (∀ u,Below wr.heap.size wr u→Calls Tryz.prog 127 #[r_ rb,.string ⟨#[59]⟩] u fun r w'=>r=.returned (.tuple #[])∧RdP B T w rb (st1.tkS [59]) w'):=hid (fun u hu=>(b8D (hr.out.keep hu) [59]).mono (fun r w' ⟨e,wv,hM⟩=>⟨e,T1,_,hM.rd,(hc.out.trans (Chg.of_below hu)).trans hM.chg⟩));clear hr hc
      go_wp2_with (first
       | (go_at_call 139;refine GA.out.mono ?_;clear GA;rintro e u ⟨rfl,hu⟩;have hu:=hid hu)
       | (go_at_call 127;refine (GG.out u hu.out).mono ?_;clear GG;rintro e u4 ⟨rfl,hQ⟩;have hQ:=hid hQ))
      go_end0
      exact ⟨rfl,hQ.out⟩
     | true =>
      rw [ha] at GA;obtain ⟨e9,hlt,hpt⟩:=c0G ha;have e8:=hid (e9.symm.trans hL.out);have hlt:=hid hlt;have hpt:=hid hpt;have GG:=hid (c0H hr.out hc.out hb.out ha);clear hL ha hr hc e9
      go_wp2_with (first
       | (go_at_call 139;refine GA.out.mono ?_;clear GA;rintro e u ⟨rfl,hu⟩;have G1:=hid (GG.out u hu);clear GG hu)
       | (go_at_call 127;refine G1.out.mono ?_;clear G1;rintro e u2 ⟨rfl,G2⟩;have G2:=hid G2)
       | (go_at_call 138;refine G2.out.mono ?_;clear G2;rintro e u4 ⟨rfl,T4,X4,hr4,hc4⟩;have hm4:=hr4.wsN;have hr4:=hid hr4;have hc4:=hid hc4))
      go_roundw
      case rel=>exact ⟨T4,X4,_,hr4,hc4,e8,hid (by have:=hpt.out;have:=hb.out;omega)⟩
      case measure=>rw [hm4,hm0];exact hlt.out
set_option maxRecDepth 20000 in
theorem c3C {B rb:Nat} {T:Nat→Nat} {w:World} {X:RX} {st:RS} (h:RdV B T w rb X st) (hm:st.hd.1≠0) (hp:st.pot≤80000) :
 Calls Tryz.prog 86 #[r_ rb] w fun r w'=>r=.returned (.tuple #[])∧RdP B T w rb st.rule w':=by
 obtain ⟨p1,-,-,p4,p5,-,p7,-,-⟩:=RS.pot_le hp;by_cases h16:st.rules.length=16
 · exact c1r h hm h16 (by omega) (by omega) (by omega) (by omega)
 · exact c1q h hm h16 (by omega) (by omega) (by omega) (by omega)
theorem RdP.pre {B rb:Nat} {T:Nat→Nat} {w W w':World} {st:RS} (h:RdP B T W rb st w') (hb:Below w.heap.size w W):RdP B T w rb st w':=by
 obtain ⟨T',X',hr,hc⟩:=h;exact ⟨T',X',hr,(Chg.of_below hb).trans hc⟩
set_option maxRecDepth 20000 in
set_option maxHeartbeats 16000000 in
theorem b9a {B rb:Nat} {T:Nat→Nat} {w:World} {X:RX} {st:RS} (h:RdV B T w rb X st) (hp:st.pot≤80000) :
 Calls Tryz.prog 65 #[r_ rb] w fun r w'=>r=.returned (.tuple #[])∧RdP B T w rb st.item w':=by
 obtain ⟨b,o,n,cap,⟨c0,k,p,t,le,l1,l2⟩,-,-⟩:=h.ahd;have hal:=al' w (s_ st.hd);obtain ⟨v0,v1,v2,-,-⟩:=rd3 (b_ w (s_ st.hd));obtain ⟨W,hW⟩:∃ y,w.alloc (s_ st.hd)=y:=⟨_,rfl⟩;rw [hW] at hal v0 v1 v2;have hr:=h.keep hal;obtain ⟨q1,q2,q3,q4,q5,q6,q7,q8,q9⟩:=RS.pot_le hp;by_cases h1:st.hd.1≠1
 · have e9:st.item=st.give st.hd.2.1 1:=if_pos h1
   rw [e9];have G:=hid ((a7Q hr st.hd.2.1 1 (by decide)).mono (R':=fun r w'=>r=.returned (.tuple #[])∧RdP B T w rb (st.give st.hd.2.1 1) w') (fun r w' ⟨e,hM⟩=>⟨e,RdP.pre ⟨T,_,hM.rd,hM.chg⟩ hal⟩));have hz:((st.hd.1:Int) != 1)=true:=by rw [bne_iff_ne];omega
   clear e9 hr h h1 hp q1 q2 q3 q4 q5 q6 q7 q8 q9;generalize st.give st.hd.2.1 1=sF at *;generalize st.hd=H at *;obtain ⟨hk,hp,ht⟩:=H
   try dsimp only at *
   go_enter Tryz.func65,Tryz.ntmps65
   go_wp2_with (go_at_call 66;refine G.out.mono ?_;clear G;rintro e u ⟨rfl,hQ⟩;have hQ:=hid hQ)
   go_end0
   exact ⟨rfl,hQ.out⟩
 · have h1':st.hd.1=1:=by omega
   have h0:st.hd.1≠0:=by omega
   have hz:((st.hd.1:Int) != 1)=false:=by rw [bne_eq_false_iff_eq];omega
   have hb1:((e_ st.hd.2.2).toList == ([116,111,107,101,110]:Txt))=decide (st.hd.2.2=a8R):=by
    by_cases e:st.hd.2.2=a8R
    · rw [decide_eq_true e];exact a1o e
    · rw [decide_eq_false e];exact a0r e
   have hb2:((e_ st.hd.2.2).toList == ([115,107,105,112]:Txt))=decide (st.hd.2.2=L_):=by
    by_cases e:st.hd.2.2=L_
    · rw [decide_eq_true e];exact a1o e
    · rw [decide_eq_false e];exact a0r e
   have hb3:((e_ st.hd.2.2).toList == ([115,116,97,114,116]:Txt))=decide (st.hd.2.2=a1w):=by
    by_cases e:st.hd.2.2=a1w
    · rw [decide_eq_true e];exact a1o e
    · rw [decide_eq_false e];exact a0r e
   by_cases h2:st.hd.2.2=a8R∨st.hd.2.2=L_
   · have e9:st.item=st.rule:=by unfold RS.item;rw [if_neg h1,if_pos h2]
     rw [e9];have G:=hid ((c3C hr h0 hp).mono (R':=fun r w'=>r=.returned (.tuple #[])∧RdP B T w rb st.rule w') (fun r w' ⟨e,hP⟩=>⟨e,hP.pre hal⟩))
     have hd:(decide (st.hd.2.2=a8R)=true)∨(decide (st.hd.2.2=a8R)=false∧decide (st.hd.2.2=L_)=true):=by
      by_cases e:st.hd.2.2=a8R
      · exact .inl (decide_eq_true e)
      · exact .inr ⟨decide_eq_false e,decide_eq_true (h2.resolve_left e)⟩
     clear e9 hr h h1 h1' h0 h2 hp q1 q2 q3 q4 q5 q6 q7 q8 q9 hb3;generalize decide (st.hd.2.2=a8R)=d1 at *;generalize decide (st.hd.2.2=L_)=d2 at *;generalize st.rule=sF at *;generalize st.hd=H at *;obtain ⟨hk,hp,ht⟩:=H
     try dsimp only at *
     rcases hd with rfl | ⟨rfl,rfl⟩
     all_goals
      go_enter Tryz.func65,Tryz.ntmps65
      go_wp2_with (go_at_call 86;refine G.out.mono ?_;clear G;rintro e u ⟨rfl,hQ⟩;have hQ:=hid hQ)
      go_end0
      exact ⟨rfl,hQ.out⟩
   · rw [decide_eq_false (fun e=>h2 (.inl e))] at hb1
     rw [decide_eq_false (fun e=>h2 (.inr e))] at hb2;by_cases h3:st.hd.2.2=a1w
     · have e9:st.item=st.start:=by unfold RS.item;rw [if_neg h1,if_neg h2,if_pos h3]
       rw [e9];have G:=hid ((c1f hr h0 (by omega) (by omega)).mono (R':=fun r w'=>r=.returned (.tuple #[])∧RdP B T w rb st.start w') (fun r w' ⟨e,hP⟩=>⟨e,hP.pre hal⟩));rw [decide_eq_true h3] at hb3;clear e9 hr h h1 h1' h0 h2 h3 hp q1 q2 q3 q4 q5 q6 q7 q8 q9;generalize st.start=sF at *;generalize st.hd=H at *;obtain ⟨hk,hp,ht⟩:=H
       try dsimp only at *
       go_enter Tryz.func65,Tryz.ntmps65
       go_wp2_with (go_at_call 87;refine G.out.mono ?_;clear G;rintro e u ⟨rfl,hQ⟩;have hQ:=hid hQ)
       go_end0
       exact ⟨rfl,hQ.out⟩
     · rw [decide_eq_false h3] at hb3
       have GS:=hid (b8L st.hd.2.2 W);have hs3:=b7M st.hd.2.2;by_cases h4:0<sdN st.hd.2.2
       · have e9:st.item=st.level:=by unfold RS.item;rw [if_neg h1,if_neg h2,if_neg h3,if_pos h4]
         rw [e9];have G:Hid (∀ v,Below W.heap.size W v→Calls Tryz.prog 89 #[r_ rb] v fun r w'=>r=.returned (.tuple #[])∧RdP B T w rb st.level w'):=hid (fun v hv=>(c1R (hr.keep hv) h0 (by omega) (by omega)).mono (fun r w' ⟨e,hP⟩=>⟨e,hP.pre (a_ hal hv)⟩));have h4z:(0:Int)<(sdN st.hd.2.2:Int):=by omega
         clear e9 hr h h1 h1' h0 h2 h3 h4 hp q1 q2 q3 q4 q5 q6 q7 q8 q9;generalize st.level=sF at *;generalize st.hd=H at *;obtain ⟨hk,hp,ht⟩:=H
         try dsimp only at *
         generalize sdN ht=sd at *;go_enter Tryz.func65,Tryz.ntmps65
         go_wp2_with (first
          | (go_at_call 88;refine GS.out.mono ?_;clear GS;rintro e v ⟨rfl,hv⟩;have G1:=hid (G.out v hv);clear G hv)
          | (go_at_call 89;refine G1.out.mono ?_;clear G1;rintro e u ⟨rfl,hQ⟩;have hQ:=hid hQ))
         go_end0
         exact ⟨rfl,hQ.out⟩
       · have e9:st.item=st.nont:=by unfold RS.item;rw [if_neg h1,if_neg h2,if_neg h3,if_neg h4]
         rw [e9];have hat:st.atN=true:=by unfold RS.atN;rw [h1',b2w h2 h3 h4];rfl
         have G:Hid (∀ v,Below W.heap.size W v→Calls Tryz.prog 90 #[r_ rb] v fun r w'=>r=.returned (.tuple #[])∧RdP B T w rb st.nont w'):=hid (fun v hv=>(c3P (hr.keep hv) hat hp).mono (fun r w' ⟨e,hP⟩=>⟨e,hP.pre (a_ hal hv)⟩));have h4z:sdN st.hd.2.2=0:=by omega
         rw [h4z] at GS;clear e9 hr h h1 h1' h0 h2 h3 h4 hp q1 q2 q3 q4 q5 q6 q7 q8 q9 hat h4z hs3;generalize st.nont=sF at *;generalize st.hd=H at *;obtain ⟨hk,hp,ht⟩:=H
         try dsimp only at *
         go_enter Tryz.func65,Tryz.ntmps65
         go_wp2_with (first
          | (go_at_call 88;refine GS.out.mono ?_;clear GS;rintro e v ⟨rfl,hv⟩;have G1:=hid (G.out v hv);clear G hv)
          | (go_at_call 90;refine G1.out.mono ?_;clear G1;rintro e u ⟨rfl,hQ⟩;have hQ:=hid hQ))
         go_end0
         exact ⟨rfl,hQ.out⟩
end Go.Proofs.YtjgedijclkoemaaGreatDoor
