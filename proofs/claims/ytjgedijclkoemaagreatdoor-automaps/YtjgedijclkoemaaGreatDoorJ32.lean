/- What the five laws of layer 17 share, part 32: no statement of its own. -/
import Derived.Test.YtjgedijclkoemaaGreatDoorJ31
namespace Go.Proofs.YtjgedijclkoemaaGreatDoor
open Go.RowKit Go.Maps Go.Sort
theorem Mov.trans {B rb:Nat} {T:Nat→Nat} {w u v:World} {X:RX} {st st':RS} {wv wv':Value} (h:Mov B T w rb X st u wv) (h2:Mov B T u rb { X with wv:=wv } st' v wv'):Mov B T w rb X st' v wv':=⟨h2.rd,h.kept.trans h2.kept⟩
theorem Mov.keep {B rb:Nat} {T:Nat→Nat} {w u v:World} {X:RX} {st:RS} {wv:Value} (h:Mov B T w rb X st u wv) (hu:Below u.heap.size u v):Mov B T w rb X st v wv:=⟨h.rd.keep hu,h.kept.step (Kept.of_below hu (F:=f_ rb)) (fun _ _ h=>h)⟩
theorem b8O (t:Txt):(rxA t).2=0∨(rxA t).2=1∨(rxA t).2=3:=by
 unfold rxA;split
 · exact .inr (.inr rfl)
 · split
   · split
     · exact .inr (.inr rfl)
     · exact .inl rfl
   · exact .inr (.inl rfl)
theorem RS.give_err (st:RS) (p:Nat) (e:Int) (he:e≠0):(st.give p e).err≠0:=by
 unfold RS.give;split
 · exact he
 · rename_i h;exact h
set_option maxRecDepth 20000 in
set_option maxHeartbeats 8000000 in
theorem a3G {B rb:Nat} {T:Nat→Nat} {w:World} {X:RX} {st:RS} (h:RdV B T w rb X st) :
 Calls Tryz.prog 126 #[r_ rb] w fun r w'=>∃ a m c wv,r=.returned (.slice a m c)∧Mov B T w rb X st.cells w' wv∧(st.cells.err=0→ImC T w' (.slice a m c) (rxA st.hd.2.2).1):=by
 obtain ⟨b,o,n,cap,⟨c0,k,p,t,le,l1,l2⟩,-,-⟩:=h.ahd;have GT:=hid (a7d h (decide (st.hd.1=2)) (fun e=>by have:=of_decide_eq_true e;omega))
 have HP:Hid (∀ u,(∃ wv,Mov B T w rb X (st.take (decide (st.hd.1=2))) u wv)→Calls Tryz.prog 168 #[.string (e_ st.hd.2.2)] (u.alloc (s_ st.hd)) fun e w'=>∃ a m c n,e=.returned (.tuple #[.slice a m c,.int .i64 n,.int .i64 (rxA st.hd.2.2).2])∧w'.heap[u.heap.size]?=some (s_ st.hd)∧((rxA st.hd.2.2).2=0→∃ wv,Mov B T w rb X st.cells w' wv∧(st.cells.err=0→ImC T w' (.slice a m c) (rxA st.hd.2.2).1))∧((rxA st.hd.2.2).2≠0→Calls Tryz.prog 66 #[r_ rb,.int .i64 (st.hd.2.1:Int),.int .i64 (rxA st.hd.2.2).2] w' fun r w''=>r=.returned (.tuple #[])∧∃ wv,Mov B T w rb X st.cells w'' wv∧(st.cells.err=0→ImC T w'' (.slice a m c) (rxA st.hd.2.2).1))):=hid (fun u hu=>by
  obtain ⟨wv,hM⟩:=hu;have hal:=al' u (s_ st.hd);have hM1:=hM.keep hal;refine (rxC st.hd.2.2 (u.alloc (s_ st.hd))).mono ?_;rintro e w' ⟨a,m,c,n,rfl,hg,hb⟩;have hM2:=hM1.keep hb;refine ⟨a,m,c,n,rfl,g_ (b_ u _) hb,fun h0=>⟨wv,?_,fun _=>?_⟩,fun h0=>(a7Q hM2.rd st.hd.2.1 _ h0).mono ?_⟩
  · have e9:st.cells=st.take (decide (st.hd.1=2)):=by unfold RS.cells RS.fail;rw [if_pos h0]
    rw [e9];exact hM2
  · obtain ⟨hC,hO⟩:=hg h0
    exact ⟨hC,hO.mono (fun b hb9=>(hM1.rd.own b hb9).2)⟩
  · rintro r w'' ⟨e9,hM3⟩
    have e8:st.cells=(st.take (decide (st.hd.1=2))).give st.hd.2.1 (rxA st.hd.2.2).2:=by unfold RS.cells RS.fail;rw [if_neg h0]
    refine ⟨e9,wv,?_,fun h9=>?_⟩
    · rw [e8];exact hM2.trans hM3
    · rw [e8] at h9;exact absurd h9 (RS.give_err _ _ _ h0))
 have her:=b8O st.hd.2.2;clear h;generalize st.take (decide (st.hd.1=2))=sA at *;generalize st.cells=sC at *;generalize hH:st.hd=H at *;obtain ⟨hk,hp,ht⟩:=H;dsimp only at *;clear hH;generalize (rxA ht).1=cl at *;generalize (rxA ht).2=er at *;obtain ⟨bb,hbb⟩:∃ b:Bool,decide (hk=2)=b:=⟨_,rfl⟩;rw [hbb] at GT;have hz:((hk:Int) == 2)=bb:=by rw [← hbb,Bool.eq_iff_iff,beq_iff_eq,decide_eq_true_iff];omega
 clear hbb;by_cases h0:er=0
 · subst h0
   go_enter Tryz.func126,Tryz.ntmps126
   go_wp2_with (first
    | (go_at_call 124;refine GT.out.mono ?_;clear GT;rintro e u ⟨rfl,hu⟩;have G2:=hid (HP.out u hu);clear HP hu;obtain ⟨v0,v1,v2,-,-⟩:=rd3 (b_ u (s_ (hk,hp,ht)));obtain ⟨W,hW⟩:∃ y,u.alloc (s_ (hk,hp,ht))=y:=⟨_,rfl⟩;rw [hW] at G2 v0 v1 v2)
    | (go_at_call 168;go_loud (refine G2.out.mono ?_;clear G2;rintro e u2 ⟨a,m,c,n9,rfl,h8,hg,h9⟩;clear h8 h9;have hg:=hid (hg (by first | rfl | trivial)))))
   go_ret;obtain ⟨wv,hM,hI⟩:=hg.out;exact ⟨a,m,c,wv,rfl,hM,hI⟩
 · have h0b:(er != 0)=true:=bne_iff_ne.2 h0
   go_enter Tryz.func126,Tryz.ntmps126
   go_wp2_with (first
    | (go_at_call 124;refine GT.out.mono ?_;clear GT;rintro e u ⟨rfl,hu⟩;have G2:=hid (HP.out u hu);clear HP hu;obtain ⟨v0,v1,v2,-,-⟩:=rd3 (b_ u (s_ (hk,hp,ht)));obtain ⟨W,hW⟩:∃ y,u.alloc (s_ (hk,hp,ht))=y:=⟨_,rfl⟩;rw [hW] at G2 v0 v1 v2)
    | (go_at_call 168;refine G2.out.mono ?_;clear G2;rintro e u2 ⟨a,m,c,n9,rfl,hbx,-,hg⟩;have hg:=hid (hg h0);obtain ⟨t0,t1,t2,-,-⟩:=rd3 hbx;clear hbx)
    | (go_at_call 66;refine hg.out.mono ?_;clear hg;rintro e u3 ⟨rfl,hP⟩;have hP:=hid hP))
   go_ret;obtain ⟨wv,hM,hI⟩:=hP.out;exact ⟨a,m,c,wv,rfl,hM,hI⟩
theorem a7Z {R F:World→Nat→Option Addr→Nat→Nat→Prop} {G:Prop} (h:(∀ V q a m c,F V q a m c→R V q a m c)→G) (pf:∀ V q a m c,F V q a m c→R V q a m c):G:=h pf
theorem RdV.boxG {B rb:Nat} {T:Nat→Nat} {W u V:World} {X:RX} {st st':RS} {wv:Value} {Z O:Obj} (h:RdV B T W rb X st) (hM:Mov B (a0x T W.heap.size 77) (W.alloc Z) rb X st' u wv) (hF:Kept (f_ W.heap.size) u V) (hV:V.heap[W.heap.size]?=some O) :
 RdV B T V rb { X with wv:=wv } st'∧Chg T T W V∧Im T V W.heap.size O∧(∀ b o,Im T W b o→Im T V b o)∧(∀ v l,ImC (a0x T W.heap.size 77) u v l→ImC T V v l):=by
 have hal:=al' W Z;have h0:=h.fresh (Nat.le_refl _);have hq:a0x T W.heap.size 77 W.heap.size=77:=if_pos rfl;have hk7:Kept (fun b=>a0x T W.heap.size 77 b=77) u V:=hF.mono (fun b _ e=>by rw [show b=W.heap.size from e,hq]);have htg:∀ b,b<u.heap.size→a0x T W.heap.size 77 b≠77→T b=a0x T W.heap.size 77 b:=fun b _ h7=>(if_neg (fun e=>h7 (by rw [e,hq]))).symm
 have k1:Kept (f_ rb) W u:=(Kept.of_below hal).step hM.kept (fun _ _ h=>h);have hc:Chg T T W V:=⟨(k1.mono (fun k _ e=>by rw [show k=rb from e,h.rt];decide)).step hF (fun k hk e=>absurd hk (by rw [show k=W.heap.size from e];exact Nat.lt_irrefl _)),fun _ _=>rfl⟩;exact ⟨hM.rd.wrote hF h0,hc,⟨h0,hV⟩,fun b o hi=>hi.keep hc,fun v l hi=>hi.mv hk7 htg⟩
abbrev a8e (t:Txt) (v:Value) (s:Bool):Obj:=.cells #[.string (e_ t),v,.bool s] 62
abbrev a0D:Obj:=.cells #[.string ⟨#[]⟩,.slice none 0 0,.bool false] 62
structure SameL (a b:RS):Prop where
 rules:b.rules=a.rules
 nonts:b.nonts=a.nonts
 prods:b.prods=a.prods
 levels:b.levels=a.levels
 starts:b.starts=a.starts
 skips:b.skips=a.skips
 terms:b.terms=a.terms
 nons:b.nons=a.nons
 later:b.later=a.later
 err:b.err=0→a.err=0
 ws:b.ws.length≤a.ws.length
theorem SameL.refl (a:RS):SameL a a:=⟨rfl,rfl,rfl,rfl,rfl,rfl,rfl,rfl,rfl,id,Nat.le_refl _⟩
theorem SameL.trans {a b c:RS} (h:SameL a b) (g:SameL b c):SameL a c:=⟨g.rules.trans h.rules,g.nonts.trans h.nonts,g.prods.trans h.prods,g.levels.trans h.levels,g.starts.trans h.starts,g.skips.trans h.skips,g.terms.trans h.terms,g.nons.trans h.nons,g.later.trans h.later,fun e=>h.err (g.err e),Nat.le_trans g.ws h.ws⟩
theorem SameL.give (st:RS) (p:Nat) {e:Int} (he:e≠0):SameL st (st.give p e):=by
 unfold RS.give;split
 · exact ⟨rfl,rfl,rfl,rfl,rfl,rfl,rfl,rfl,rfl,fun h=>absurd h he,Nat.le_refl _⟩
 · exact SameL.refl st
theorem SameL.take (st:RS) (b:Bool):SameL st (st.take b):=by
 unfold RS.take;split
 · exact ⟨rfl,rfl,rfl,rfl,rfl,rfl,rfl,rfl,rfl,id,by show st.ws.tail.length≤_;rw [List.length_tail];omega⟩
 · exact SameL.give st _ (by decide)
theorem SameL.full (st:RS) (b:Bool) (p:Nat):SameL st (st.full b p):=by
 unfold RS.full;split
 · exact SameL.give st _ (by decide)
 · exact SameL.refl st
theorem SameL.fail (st:RS) (p:Nat) (e:Int):SameL st (st.fail p e):=by
 unfold RS.fail;split
 · exact SameL.refl st
 · rename_i h;exact SameL.give st _ h
theorem SameL.tkN (st:RS):SameL st st.tkN:=SameL.take _ _
theorem SameL.tkS (st:RS) (t:Txt):SameL st (st.tkS t):=SameL.take _ _
theorem SameL.cells (st:RS):SameL st st.cells:=(SameL.take _ _).trans (SameL.fail _ _ _)
theorem SameL.rule1 (st:RS):SameL st st.rule1:=(SameL.take _ _).trans (SameL.full _ _ _)
def RuF (B:Nat) (T:Nat→Nat) (w:World) (rb:Nat) (x1 x2:Wd) (sk:Bool) (cl:List Cel) (s3:RS) (q1 q3:Nat) (V:World) (q:Nat) (a:Option Addr) (m c:Nat):Prop:=
 ∃ T1 X1,RdV B T1 V rb X1 s3∧Chg T T1 w V∧Im T1 V q1 (s_ x1)∧Im T1 V q3 (s_ x2)∧Im T1 V q (a8e x2.2.2 (.slice a m c) sk)∧(s3.err=0→ImC T1 V (.slice a m c) cl)
theorem c1y {u:World} {q:Nat} {x0 x1 x2:Value} (h:u.heap[q]?=some (.cells #[x0,x1,x2] 62 (0,0))) (v0 v1 v2:Value):Kept (f_ q) u (((u.setCell ⟨q,0,none⟩ v0).setCell ⟨q,1,none⟩ v1).setCell ⟨q,2,none⟩ v2)∧(((u.setCell ⟨q,0,none⟩ v0).setCell ⟨q,1,none⟩ v1).setCell ⟨q,2,none⟩ v2).heap[q]?=some (.cells #[v0,v1,v2] 62 (0,0)):=
 ⟨(((Kept.refl (f_ q) u).setCell (a:=⟨q,0,none⟩) (fun _=>rfl)).setCell (a:=⟨q,1,none⟩) (fun _=>rfl)).setCell (a:=⟨q,2,none⟩) (fun _=>rfl),heap_setCell (heap_setCell (heap_setCell h))⟩
def RuP (B:Nat) (T:Nat→Nat) (w:World) (rb:Nat) (x2:Wd) (U:Obj) (s:RS) (q3 q:Nat) (V:World):Prop:=∃ T1 X1,RdV B T1 V rb X1 s∧Chg T T1 w V∧Im T1 V q3 (s_ x2)∧Im T1 V q U
set_option maxRecDepth 20000 in
theorem b2z {B rb q1 q3 q m c:Nat} {T:Nat→Nat} {w V:World} {x1 x2:Wd} {sk:Bool} {cl:List Cel} {s3:RS} {a:Option Addr} (h:RuF B T w rb x1 x2 sk cl s3 q1 q3 V q a m c) (hn:s3.rules.length≤99000) :
 Calls Tryz.prog 127 #[r_ rb,.string ⟨#[59]⟩] V fun r u=>r=.returned (.tuple #[])∧∃ rv A C w6,(u.drew.cell? ⟨rb,1,none⟩=some rv∧u.drew.cell? ⟨q,0,none⟩=some (.string (e_ x2.2.2))∧u.drew.cell? ⟨q,1,none⟩=some (.slice a m c)∧u.drew.cell? ⟨q,2,none⟩=some (.bool sk)) ∧
  ((u.alloc (a8e x2.2.2 (.slice a m c) sk)).drew.cell? ⟨rb,1,none⟩=some rv∧(u.alloc (a8e x2.2.2 (.slice a m c) sk)).drew.cell? ⟨q,0,none⟩=some (.string (e_ x2.2.2))∧(u.alloc (a8e x2.2.2 (.slice a m c) sk)).drew.cell? ⟨q,1,none⟩=some (.slice a m c)∧(u.alloc (a8e x2.2.2 (.slice a m c) sk)).drew.cell? ⟨q,2,none⟩=some (.bool sk)) ∧
  (Builtin.append_ #[22,22] 22 #[rv,.slice (some ⟨u.heap.size,0,none⟩) 1 1]).run Tryz.prog (u.alloc (a8e x2.2.2 (.slice a m c) sk)).drew=.ok (.slice A (s3.rules.length+1) C) w6∧w6.cell? ⟨rb,1,none⟩=some rv∧w6.frozen? ⟨rb,1,none⟩=false ∧
  RuP B T w rb x2 (a8e x2.2.2 (.slice a m c) sk) ((s3.tkS [59]).addR ⟨x2.2.2,cl,sk⟩) q3 q (w6.setCell ⟨rb,1,none⟩ (.slice A (s3.rules.length+1) C)):=by
 obtain ⟨T1,X1,hr,hc,i1,i3,iq,hI⟩:=h;refine (b8D hr [59]).mono ?_;rintro r u ⟨e,wv,hM⟩;have hbd:Below u.heap.size u u.drew:=(Below.refl _ u).drew;have hrd:=hM.rd.keep hbd;have c1:=hM.chg.trans (Chg.of_below (T:=T1) hbd);have sm:=SameL.tkS s3 [59];have hnn:(s3.tkS [59]).rules.length=s3.rules.length:=by rw [sm.rules]
 obtain ⟨A,C,w6,hrun,hbk,T',X',hR,hC⟩:=hrd.app_rules ⟨x2.2.2,cl,sk⟩ (.slice a m c) ⟨⟨a,m,c,rfl⟩,fun e9=>(hI (sm.err e9)).keep c1⟩ rfl (by rw [hnn];omega);rw [hnn] at hrun hR hC;have jq:=iq.keep c1;have j3:=i3.keep c1;have hbl:=hrd.blk;have hb6:=hbk.trans hbl;have hba:Below u.drew.heap.size u.drew (u.alloc (a8e x2.2.2 (.slice a m c) sk)).drew:=al' u.drew _;have d1:u.drew.cell? ⟨rb,1,none⟩=some X1.rv:=c_ hbl rfl;exact ⟨e,X1.rv,A,C,w6,⟨d1,jq.cell rfl,jq.cell rfl,jq.cell rfl⟩,⟨d_ hba d1,d_ hba (jq.cell rfl),d_ hba (jq.cell rfl),d_ hba (jq.cell rfl)⟩,hrun,c_ hb6 rfl,i_ hb6 1,T',X',hR,(hc.trans c1).trans hC,j3.keep hC,jq.keep hC⟩
set_option maxRecDepth 20000 in
theorem b2A {B rb q3 q:Nat} {T:Nat→Nat} {w V:World} {x2:Wd} {v:Value} {sk:Bool} {s5:RS} (h:RuP B T w rb x2 (a8e x2.2.2 v sk) s5 q3 q V) (hn:s5.skips.length≤99000) (hn2:s5.terms.length≤99000) (hn3:s5.later.length≤99000) :
 (V.drew.cell? ⟨q3,0,none⟩=some (.int .i64 (x2.1:Int))∧V.drew.cell? ⟨q3,1,none⟩=some (.int .i64 (x2.2.1:Int))∧V.drew.cell? ⟨q3,2,none⟩=some (.string (e_ x2.2.2))∧V.drew.cell? ⟨q,2,none⟩=some (.bool sk)) ∧
 Calls Tryz.prog 128 #[.pointer (some ⟨rb,8,none⟩),wdA x2,.bool sk] V.drew fun r u=>r=.returned (.tuple #[])∧(u.cell? ⟨q3,0,none⟩=some (.int .i64 (x2.1:Int))∧u.cell? ⟨q3,1,none⟩=some (.int .i64 (x2.2.1:Int))∧u.cell? ⟨q3,2,none⟩=some (.string (e_ x2.2.2))) ∧
  Calls Tryz.prog 129 #[r_ rb,wdA x2] u fun r w'=>r=.returned (.tuple #[])∧RdP B T w rb ((s5.addW x2 sk).once x2) w':=by
 obtain ⟨T1,X1,hr,hc,i3,iq⟩:=h;have hbd:Below V.heap.size V V.drew:=(Below.refl _ V).drew;have cd:=Chg.of_below (T:=T1) hbd;have j3:=i3.keep cd;have jq:=iq.keep cd;refine ⟨⟨j3.cell rfl,j3.cell rfl,j3.cell rfl,jq.cell rfl⟩,(c4n (hr.keep hbd) x2 sk (by omega) (by omega)).mono ?_⟩;rintro r u ⟨e,T',X',hr',hc'⟩;have l3:=j3.keep hc';refine ⟨e,⟨l3.cell rfl,l3.cell rfl,l3.cell rfl⟩,(c1H hr' x2 ?_).mono ?_⟩
 · have:(s5.addW x2 sk).later=s5.later:=by unfold RS.addW;split <;> rfl
   rw [this];omega
 · rintro r w' ⟨e',T'',X'',hr'',hc''⟩
   exact ⟨e',T'',X'',hr'',((hc.trans cd).trans hc').trans hc''⟩
theorem RS.full_ws (st:RS) (b:Bool) (p:Nat):(st.full b p).ws=st.ws:=by
 unfold RS.full;split
 · exact RS.give_ws _ _ _
 · rfl
theorem RS.hd_of {a b:RS} (h:a.ws=b.ws):a.hd=b.hd:=by unfold RS.hd;rw [h]
theorem RS.atN_of {a b:RS} (h:a.ws=b.ws):a.atN=b.atN:=by unfold RS.atN;rw [RS.hd_of h]
theorem a3U {st:RS} {b:Bool} {p pr:Nat} (h:st.atN=true):((st.full b p).symb pr).ws=st.ws.tail:=by
 have e:=RS.full_ws st b p
 show (st.full b p).tkN.ws=_
 rw [RS.tkN_ws (by rw [RS.atN_of e];exact h),e]
theorem a5N {pr n:Nat} {st:RS} (h:st.atN=true) (hn:st.ws≠[]):RS.syms pr st.ws.length n st=RS.syms pr ((st.full (decide (n=8)) st.hd.2.1).symb pr).ws.length (n+1) ((st.full (decide (n=8)) st.hd.2.1).symb pr):=by
 rw [a3U h];cases hw:st.ws with
 | nil=>exact absurd hw hn
 | cons x l=>rw [List.length_cons,RS.syms,h,if_pos rfl];rfl
theorem a8x {pr n:Nat} {st:RS} (h:st.atN=false):RS.syms pr st.ws.length n st=st:=by
 cases st.ws.length with
 | zero=>rfl
 | succ m=>rw [RS.syms,h];rfl
theorem a2K (st:RS) (pr:Nat):(st.symb pr).later.length=st.later.length+1:=by show (st.tkN.later++[_]).length=_;rw [RS.tkN_later,List.length_append];rfl
set_option maxRecDepth 20000 in
theorem c3K {B rb:Nat} {T T1:Nat→Nat} {w u:World} {X1:RX} {st:RS} (h:RdV B T1 u rb X1 st) (hc:Chg T T1 w u) (hb:st.later.length≤99000) (pr:Nat) :
 (Calls Tryz.prog 139 #[r_ rb,.string ⟨#[37]⟩] u fun r v=>r=.returned (.bool (st.atS [37]))∧Below u.heap.size u v) ∧
 (st.atS [37]=true→∀ v,Below u.heap.size u v→Calls Tryz.prog 127 #[r_ rb,.string ⟨#[37]⟩] v fun r v2=>r=.returned (.tuple #[])∧Calls Tryz.prog 176 #[r_ rb,.int .i64 (pr:Int)] v2 fun r w'=>r=.returned (.tuple #[])∧RdP B T w rb (st.pct pr) w') ∧
 (st.atS [37]=false→∀ v,Below u.heap.size u v→RdP B T w rb (st.pct pr) v):=by
 refine ⟨c0R h [37],fun ha v hv=>(b8D (h.keep hv) [37]).mono ?_,fun ha v hv=>?_⟩
 · rintro r v2 ⟨e,wv,hM⟩
   refine ⟨e,(c3I hM.rd pr (by rw [(SameL.tkS st [37]).later];omega)).mono ?_⟩;rintro r w' ⟨e',T',X',hr',hc'⟩;have e9:st.pct pr=(st.tkS [37]).prec pr:=by unfold RS.pct;rw [ha];rfl
   rw [e9];exact ⟨e',T',X',hr',((hc.trans (Chg.of_below hv)).trans hM.chg).trans hc'⟩
 · have e9:st.pct pr=st:=by unfold RS.pct;rw [ha];rfl
   rw [e9];exact ⟨T1,X1,h.keep hv,hc.trans (Chg.of_below hv)⟩
set_option maxRecDepth 20000 in
theorem c3t {B rb n:Nat} {T T1:Nat→Nat} {w u:World} {X1:RX} {st:RS} (h:RdV B T1 u rb X1 st) (hc:Chg T T1 w u) (hb:st.later.length≤99000) (pr:Nat) :
 (n=8→∀ v,Below u.heap.size u v→Calls Tryz.prog 66 #[r_ rb,.int .i64 (st.hd.2.1:Int),.int .i64 3] v fun r v2=>r=.returned (.tuple #[])∧Calls Tryz.prog 175 #[r_ rb,.int .i64 (pr:Int)] v2 fun r w'=>r=.returned (.tuple #[])∧RdP B T w rb ((st.full (decide (n=8)) st.hd.2.1).symb pr) w') ∧
 (¬ n=8→∀ v,Below u.heap.size u v→Calls Tryz.prog 175 #[r_ rb,.int .i64 (pr:Int)] v fun r w'=>r=.returned (.tuple #[])∧RdP B T w rb ((st.full (decide (n=8)) st.hd.2.1).symb pr) w'):=by
 refine ⟨fun ha v hv=>(a7Q (h.keep hv) st.hd.2.1 3 (by decide)).mono ?_,fun ha v hv=>(c1c (h.keep hv) pr (by omega)).mono ?_⟩
 · rintro r v2 ⟨e,hM⟩
   have e9:st.full (decide (n=8)) st.hd.2.1=st.give st.hd.2.1 3:=by unfold RS.full;rw [decide_eq_true ha];rfl
   rw [e9];refine ⟨e,(c1c hM.rd pr (by rw [(SameL.give st st.hd.2.1 (e:=3) (by decide)).later];omega)).mono ?_⟩;rintro r w' ⟨e',T',X',hr',hc'⟩;exact ⟨e',T',X',hr',((hc.trans (Chg.of_below hv)).trans hM.chg).trans hc'⟩
 · rintro r w' ⟨e',T',X',hr',hc'⟩
   have e9:st.full (decide (n=8)) st.hd.2.1=st:=by unfold RS.full;rw [decide_eq_false ha];rfl
   rw [e9];exact ⟨e',T',X',hr',(hc.trans (Chg.of_below hv)).trans hc'⟩
set_option maxRecDepth 20000 in
theorem c2Z {B rb:Nat} {T T1:Nat→Nat} {w u:World} {X1:RX} {st:RS} (h:RdV B T1 u rb X1 st) (hc:Chg T T1 w u) (hn:st.prods.length≤99000) :
 ∃ na nc A C w6,(u.drew.cell? ⟨rb,4,none⟩=some X1.pv∧u.drew.cell? ⟨rb,2,none⟩=some (.slice na st.nonts.length nc))∧((u.alloc (.cells #[.int .i64 (st.nonts.length:Int),.slice none 0 0,.int .i64 0] 64)).drew.cell? ⟨rb,4,none⟩=some X1.pv∧(u.alloc (.cells #[.int .i64 (st.nonts.length:Int),.slice none 0 0,.int .i64 0] 64)).drew.cell? ⟨rb,2,none⟩=some (.slice na st.nonts.length nc)) ∧
  (Builtin.append_ #[25,25] 25 #[X1.pv,.slice (some ⟨u.heap.size,0,none⟩) 1 1]).run Tryz.prog (u.alloc (.cells #[.int .i64 (st.nonts.length:Int),.slice none 0 0,.int .i64 0] 64)).drew=.ok (.slice A (st.prods.length+1) C) w6∧w6.cell? ⟨rb,4,none⟩=some X1.pv∧w6.frozen? ⟨rb,4,none⟩=false ∧
  ∃ T' X',RdV B T' (w6.setCell ⟨rb,4,none⟩ (.slice A (st.prods.length+1) C)) rb X' st.addP∧Chg T T' w (w6.setCell ⟨rb,4,none⟩ (.slice A (st.prods.length+1) C)):=by
 have hbd:Below u.heap.size u u.drew:=(Below.refl _ u).drew;have hrd:=h.keep hbd;have c1:=hc.trans (Chg.of_below (T:=T1) hbd);obtain ⟨A,C,w6,hrun,hbk,T',X',hR,hC⟩:=hrd.app_prods trivial (by omega);obtain ⟨na,nc,hnv⟩:=p_ h.nonts.1;have hbl:=hrd.blk;have hb6:=hbk.trans hbl;have hba:Below u.drew.heap.size u.drew (u.alloc (.cells #[.int .i64 (st.nonts.length:Int),.slice none 0 0,.int .i64 0] 64)).drew:=al' u.drew _;have d1:u.drew.cell? ⟨rb,4,none⟩=some X1.pv:=c_ hbl rfl;have d2:u.drew.cell? ⟨rb,2,none⟩=some (.slice na st.nonts.length nc):=by rw [← hnv];exact c_ hbl rfl
 exact ⟨na,nc,A,C,w6,⟨d1,d2⟩,⟨d_ hba d1,d_ hba d2⟩,hrun,c_ hb6 rfl,i_ hb6 4,T',X',hR,c1.trans hC⟩
set_option maxRecDepth 20000 in
set_option maxHeartbeats 16000000 in
theorem c4E {B rb:Nat} {T:Nat→Nat} {w:World} {X:RX} {st:RS} (h:RdV B T w rb X st) (b1:st.prods.length≤99000) (b2:st.later.length+st.ws.length≤98000) :
 Calls Tryz.prog 138 #[r_ rb] w fun r w'=>r=.returned (.tuple #[])∧RdP B T w rb st.alt w':=by
 obtain ⟨pa,pc,hpv⟩:=p_ h.prods.1;have GI:=hid (c4S h);have c4:w.cell? ⟨rb,4,none⟩=some (.slice pa st.prods.length pc):=by rw [← hpv];exact c_ h.blk rfl
 obtain ⟨b,o,n,cap,⟨c0,k,p,t,le,l1,l2⟩,-,-⟩:=h.ahd;have HU:Hid (∀ u,Below w.heap.size w u→u.cell? ⟨rb,4,none⟩=some (.slice pa st.prods.length pc)∧u.cell? ⟨rb,0,none⟩=some (.slice (some ⟨b,o,none⟩) (n+1) cap)∧u.cell? ⟨b,o+1,none⟩=some (.int .i64 (st.hd.2.1:Int))):=hid (fun u hu=>⟨d_ hu c4,d_ hu c0,d_ hu p⟩)
 have HA:Hid (∀ u wv,Mov B T w rb X (st.full (decide (st.prods.length=40) && st.inA) st.hd.2.1) u wv→u.cell? ⟨rb,4,none⟩=some (.slice pa st.prods.length pc)∧∃ na nc A C w6,(u.drew.cell? ⟨rb,4,none⟩=some (.slice pa st.prods.length pc)∧u.drew.cell? ⟨rb,2,none⟩=some (.slice na st.nonts.length nc))∧((u.alloc (.cells #[.int .i64 (st.nonts.length:Int),.slice none 0 0,.int .i64 0] 64)).drew.cell? ⟨rb,4,none⟩=some (.slice pa st.prods.length pc)∧(u.alloc (.cells #[.int .i64 (st.nonts.length:Int),.slice none 0 0,.int .i64 0] 64)).drew.cell? ⟨rb,2,none⟩=some (.slice na st.nonts.length nc)) ∧
  (Builtin.append_ #[25,25] 25 #[.slice pa st.prods.length pc,.slice (some ⟨u.heap.size,0,none⟩) 1 1]).run Tryz.prog (u.alloc (.cells #[.int .i64 (st.nonts.length:Int),.slice none 0 0,.int .i64 0] 64)).drew=.ok (.slice A (st.prods.length+1) C) w6∧w6.cell? ⟨rb,4,none⟩=some (.slice pa st.prods.length pc)∧w6.frozen? ⟨rb,4,none⟩=false ∧
  ∃ T' X',RdV B T' (w6.setCell ⟨rb,4,none⟩ (.slice A (st.prods.length+1) C)) rb X' st.alt1∧Chg T T' w (w6.setCell ⟨rb,4,none⟩ (.slice A (st.prods.length+1) C))):=hid (fun u wv hM=>by
  have sm:=SameL.full st (decide (st.prods.length=40) && st.inA) st.hd.2.1;have h9:=c2Z hM.rd hM.chg (by rw [sm.prods];exact b1);rw [sm.prods,sm.nonts] at h9;have e9:({ X with wv:=wv }:RX).pv=.slice pa st.prods.length pc:=hpv;rw [e9] at h9;refine ⟨?_,h9⟩;rw [← hpv];exact c_ hM.rd.blk rfl)
 have HG:Hid (st.prods.length=40→st.inA=true→∀ u,Below w.heap.size w u→Calls Tryz.prog 66 #[r_ rb,.int .i64 (st.hd.2.1:Int),.int .i64 3] u fun r w'=>r=.returned (.tuple #[])∧Mov B T w rb X (st.full (decide (st.prods.length=40) && st.inA) st.hd.2.1) w' X.wv):=hid (fun e1 e2 u hu=>by
  have e9:st.full (decide (st.prods.length=40) && st.inA) st.hd.2.1=st.give st.hd.2.1 3:=by unfold RS.full;rw [decide_eq_true e1,e2];rfl
  rw [e9];exact (a7Q (h.keep hu) st.hd.2.1 3 (by decide)).mono (fun r w' ⟨e,hM⟩=>⟨e,hM.below hu⟩))
 have HN:Hid ((decide (st.prods.length=40) && st.inA)=false→∀ u,Below w.heap.size w u→Mov B T w rb X (st.full (decide (st.prods.length=40) && st.inA) st.hd.2.1) u X.wv):=hid (fun e u hu=>by
  have e9:st.full (decide (st.prods.length=40) && st.inA) st.hd.2.1=st:=by unfold RS.full;rw [e];rfl
  rw [e9];exact ⟨h.keep hu,Kept.of_below hu⟩)
 have hpot:Hid (st.alt1.later.length+st.alt1.ws.length≤98000):=hid (by
  have e1:st.alt1.later=st.later:=(SameL.full st (decide (st.prods.length=40) && st.inA) st.hd.2.1).later;have e2:st.alt1.ws=st.ws:=RS.full_ws _ _ _;rw [e1,e2];exact b2)
 have hdf:st.alt=(RS.syms st.prods.length st.alt1.ws.length 0 st.alt1).pct st.prods.length:=rfl;rw [hdf];obtain ⟨R,hR⟩:∃ R,Hid (RS.syms st.prods.length st.alt1.ws.length 0 st.alt1=R):=⟨_,hid rfl⟩;rw [hR.out];clear hdf h b2 hpv k t le l1 l2 c0 p;generalize st.full (decide (st.prods.length=40) && st.inA) st.hd.2.1=s1 at *;generalize st.alt1=s2 at *;generalize st.inA=ia at *;generalize st.nonts.length=nn at *;generalize st.prods.length=np at *;generalize st.hd=H at *;obtain ⟨hk,hp,ht⟩:=H
 try dsimp only at *
 have hcase:(¬ np=40)∨(np=40∧ia=false)∨(np=40∧ia=true):=by
  by_cases h9:np=40
  · cases ia
    · exact .inr (.inl ⟨h9,rfl⟩)
    · exact .inr (.inr ⟨h9,rfl⟩)
  · exact .inl h9
 have hnz:(np:Int)≤99000:=by omega
 rcases hcase with h40 | ⟨h41,hia⟩ | ⟨h41,hia⟩
 · have hz:((np:Int) == 40)=false:=by rw [beq_eq_false_iff_ne];omega
   obtain ⟨c9,na,nc,A,C,w6,⟨d0,d1⟩,⟨f0,f1⟩,hrun,g0,g1,hP⟩:=HA.out w _ (HN.out (by rw [decide_eq_false h40];rfl) w (Below.refl _ _));have hP:=hid hP;clear HA HN HG HU GI c9;go_enter Tryz.func138,Tryz.ntmps138
   go_wp2_with fail
   apply S_
   case h =>
    intro rest
    go_region_law ((first
     | (refine M_ (by rfl) (.tmp 35) (.tmp 43) 25 (by rfl) _ _ (by rfl) (by rfl) hrun ?_)
     | fail))
    all_goals exact rest.out
   case pf =>
    obtain ⟨T3,X3,hr3,hc3⟩:=hP.out;have hr3:=hid hr3;have hc3:=hid hc3;clear hP d0 d1 f0 f1 g0 g1 hrun c4;generalize w6.setCell ⟨rb,4,none⟩ (.slice A (np+1) C)=V6 at *;go_wp2_with fail
    go_loopw [3] (fun x wr=>∃ (n:Nat) (T1:Nat→Nat) (X1:RX) (st1:RS),x=.int .i64 (n:Int)∧Hid (RdV B T1 wr rb X1 st1)∧Hid (Chg T T1 w wr)∧Hid (RS.syms np st1.ws.length n st1=R)∧Hid (st1.later.length+st1.ws.length≤98000)∧n+st1.ws.length≤98000) (fun _ wr=>wsN wr rb)
    case atStart=>exact ⟨0,T3,X3,_,rfl,hr3,hc3,hR,hpot,by have:=hpot.out;omega⟩
    case round =>
     obtain ⟨n,T1,X1,st1,rfl,hr,hc,hL,hb,hnb⟩:=hrel;clear hr3 hc3 hR hpot;have GA:=hid (c0S hr.out);have hm0:=hr.out.wsN;cases ha:st1.atN with
     | false =>
      rw [ha] at GA;have e9:=hL.out;rw [a8x ha] at e9;subst e9;clear hL ha hm0 hnb;obtain ⟨-,l9⟩:True∧st1.later.length≤99000:=⟨trivial,by have:=hb.out;omega⟩;have GP:Hid (∀ u,Below wr.heap.size wr u→_):=hid (fun u hu=>c3K (hr.out.keep hu) (hc.out.trans (Chg.of_below hu)) l9 np);clear hr hc hb l9;cases hs:st1.atS [37] with
      | false =>
       go_wp2_with (first
        | (go_at_call 136;refine GA.out.mono ?_;clear GA;rintro e u ⟨rfl,hu⟩;obtain ⟨G1,-,G3⟩:=GP.out u hu;clear GP hu;rw [hs] at G1;have G1:=hid G1;have G3:=hid (G3 hs))
        | (go_at_call 139;refine G1.out.mono ?_;clear G1;rintro e u2 ⟨rfl,hu2⟩;have hQ:=hid (G3.out u2 hu2)))
       go_end0
       exact ⟨rfl,hQ.out⟩
      | true =>
       go_wp2_with (first
        | (go_at_call 136;refine GA.out.mono ?_;clear GA;rintro e u ⟨rfl,hu⟩;obtain ⟨G1,G2,-⟩:=GP.out u hu;clear GP hu;rw [hs] at G1;have G1:=hid G1;have G2:=hid (G2 hs))
        | (go_at_call 139;refine G1.out.mono ?_;clear G1;rintro e u2 ⟨rfl,hu2⟩;have G4:=hid (G2.out u2 hu2);clear G2)
        | (go_at_call 127;refine G4.out.mono ?_;clear G4;rintro e u3 ⟨rfl,G5⟩;have G5:=hid G5)
        | (go_at_call 176;refine G5.out.mono ?_;clear G5;rintro e u4 ⟨rfl,hQ⟩;have hQ:=hid hQ))
       go_end0
       exact ⟨rfl,hQ.out⟩
     | true =>
      rw [ha] at GA;have hw2:=hr.out.wf.two (RS.atN_hd ha);have e9:=hL.out;rw [a5N ha hr.out.wf.ne] at e9;have e9:=hid e9;have hws:Hid (((st1.full (decide (n=8)) st1.hd.2.1).symb np).ws.length+1=st1.ws.length∧((st1.full (decide (n=8)) st1.hd.2.1).symb np).later.length=st1.later.length+1):=hid ⟨by rw [a3U ha,List.length_tail];omega,by rw [a2K,(SameL.full _ _ _).later]⟩;obtain ⟨b',o',n',cap',⟨c0',k',p',t',le',l1',l2'⟩,-,-⟩:=hr.out.ahd;have HU:Hid (∀ u,Below wr.heap.size wr u→u.cell? ⟨rb,0,none⟩=some (.slice (some ⟨b',o',none⟩) (n'+1) cap')∧u.cell? ⟨b',o'+1,none⟩=some (.int .i64 (st1.hd.2.1:Int))):=hid (fun u hu=>⟨d_ hu c0',d_ hu p'⟩);obtain ⟨GX,GY⟩:=c3t (n:=n) hr.out hc.out (by have:=hb.out;omega) np;have GX:=hid GX;have GY:=hid GY;clear hL ha hr hc c0' k' p' t' le' l1' l2';have hnz':(n:Int)≤98000:=by omega
      generalize st1.hd=H1 at *;obtain ⟨jk,jp,jt⟩:=H1;dsimp only at *;by_cases h8:n=8
      · have h8z:((n:Int) == 8)=true:=by rw [beq_iff_eq];omega
        go_wp2_with (first
         | (go_at_call 136;refine GA.out.mono ?_;clear GA;rintro e u ⟨rfl,hu⟩;obtain ⟨t0,t1⟩:=HU.out u hu;have G1:=hid (GX.out h8 u hu);clear GX GY hu HU)
         | (go_at_call 66;refine G1.out.mono ?_;clear G1;rintro e u2 ⟨rfl,G2⟩;have G2:=hid G2)
         | (go_at_call 175;refine G2.out.mono ?_;clear G2;rintro e u4 ⟨rfl,T4,X4,hr4,hc4⟩;have hm4:=hr4.wsN;have hr4:=hid hr4;have hc4:=hid hc4))
        go_roundw
        case rel=>exact ⟨n+1,T4,X4,_,by go_num,hr4,hc4,e9,hid (by have:=hws.out;have:=hb.out;omega),by have:=hws.out;omega⟩
        case measure=>rw [hm4,hm0];have:=hws.out;omega
      · have h8z:((n:Int) == 8)=false:=by rw [beq_eq_false_iff_ne];omega
        go_wp2_with (first
         | (go_at_call 136;refine GA.out.mono ?_;clear GA;rintro e u ⟨rfl,hu⟩;have G2:=hid (GY.out h8 u hu);clear GX GY hu HU)
         | (go_at_call 175;refine G2.out.mono ?_;clear G2;rintro e u4 ⟨rfl,T4,X4,hr4,hc4⟩;have hm4:=hr4.wsN;have hr4:=hid hr4;have hc4:=hid hc4))
        go_roundw
        case rel=>exact ⟨n+1,T4,X4,_,by go_num,hr4,hc4,e9,hid (by have:=hws.out;have:=hb.out;omega),by have:=hws.out;omega⟩
        case measure=>rw [hm4,hm0];have:=hws.out;omega
 · have hz:((np:Int) == 40)=true:=by rw [beq_iff_eq];omega
   subst hia;have h40:=hid h41;clear h41;go_enter Tryz.func138,Tryz.ntmps138
   go_wp2_with (go_at_call 174;refine GI.out.mono ?_;clear GI;rintro e u1 ⟨rfl,hu⟩;obtain ⟨c9,na,nc,A,C,w6,⟨d0,d1⟩,⟨f0,f1⟩,hrun,g0,g1,hP⟩:=HA.out u1 _ (HN.out (by rw [Bool.and_false]) u1 hu);have hP:=hid hP;clear HA HN HG HU hu)
   apply S_
   case h =>
    intro rest
    go_region_law ((first
     | (refine M_ (by rfl) (.tmp 35) (.tmp 43) 25 (by rfl) _ _ (by rfl) (by rfl) hrun ?_)
     | fail))
    all_goals exact rest.out
   case pf =>
    obtain ⟨T3,X3,hr3,hc3⟩:=hP.out;have hr3:=hid hr3;have hc3:=hid hc3;clear hP d0 d1 f0 f1 g0 g1 hrun c4;generalize w6.setCell ⟨rb,4,none⟩ (.slice A (np+1) C)=V6 at *;go_wp2_with fail
    go_loopw [3] (fun x wr=>∃ (n:Nat) (T1:Nat→Nat) (X1:RX) (st1:RS),x=.int .i64 (n:Int)∧Hid (RdV B T1 wr rb X1 st1)∧Hid (Chg T T1 w wr)∧Hid (RS.syms np st1.ws.length n st1=R)∧Hid (st1.later.length+st1.ws.length≤98000)∧n+st1.ws.length≤98000) (fun _ wr=>wsN wr rb)
    case atStart=>exact ⟨0,T3,X3,_,rfl,hr3,hc3,hR,hpot,by have:=hpot.out;omega⟩
    case round =>
     obtain ⟨n,T1,X1,st1,rfl,hr,hc,hL,hb,hnb⟩:=hrel;clear hr3 hc3 hR hpot;have GA:=hid (c0S hr.out);have hm0:=hr.out.wsN;cases ha:st1.atN with
     | false =>
      rw [ha] at GA;have e9:=hL.out;rw [a8x ha] at e9;subst e9;clear hL ha hm0 hnb;obtain ⟨-,l9⟩:True∧st1.later.length≤99000:=⟨trivial,by have:=hb.out;omega⟩;have GP:Hid (∀ u,Below wr.heap.size wr u→_):=hid (fun u hu=>c3K (hr.out.keep hu) (hc.out.trans (Chg.of_below hu)) l9 np);clear hr hc hb l9;cases hs:st1.atS [37] with
      | false =>
       go_wp2_with (first
        | (go_at_call 136;refine GA.out.mono ?_;clear GA;rintro e u ⟨rfl,hu⟩;obtain ⟨G1,-,G3⟩:=GP.out u hu;clear GP hu;rw [hs] at G1;have G1:=hid G1;have G3:=hid (G3 hs))
        | (go_at_call 139;refine G1.out.mono ?_;clear G1;rintro e u2 ⟨rfl,hu2⟩;have hQ:=hid (G3.out u2 hu2)))
       go_end0
       exact ⟨rfl,hQ.out⟩
      | true =>
       go_wp2_with (first
        | (go_at_call 136;refine GA.out.mono ?_;clear GA;rintro e u ⟨rfl,hu⟩;obtain ⟨G1,G2,-⟩:=GP.out u hu;clear GP hu;rw [hs] at G1;have G1:=hid G1;have G2:=hid (G2 hs))
        | (go_at_call 139;refine G1.out.mono ?_;clear G1;rintro e u2 ⟨rfl,hu2⟩;have G4:=hid (G2.out u2 hu2);clear G2)
        | (go_at_call 127;refine G4.out.mono ?_;clear G4;rintro e u3 ⟨rfl,G5⟩;have G5:=hid G5)
        | (go_at_call 176;refine G5.out.mono ?_;clear G5;rintro e u4 ⟨rfl,hQ⟩;have hQ:=hid hQ))
       go_end0
       exact ⟨rfl,hQ.out⟩
     | true =>
      rw [ha] at GA;have hw2:=hr.out.wf.two (RS.atN_hd ha);have e9:=hL.out;rw [a5N ha hr.out.wf.ne] at e9;have e9:=hid e9;have hws:Hid (((st1.full (decide (n=8)) st1.hd.2.1).symb np).ws.length+1=st1.ws.length∧((st1.full (decide (n=8)) st1.hd.2.1).symb np).later.length=st1.later.length+1):=hid ⟨by rw [a3U ha,List.length_tail];omega,by rw [a2K,(SameL.full _ _ _).later]⟩;obtain ⟨b',o',n',cap',⟨c0',k',p',t',le',l1',l2'⟩,-,-⟩:=hr.out.ahd;have HU:Hid (∀ u,Below wr.heap.size wr u→u.cell? ⟨rb,0,none⟩=some (.slice (some ⟨b',o',none⟩) (n'+1) cap')∧u.cell? ⟨b',o'+1,none⟩=some (.int .i64 (st1.hd.2.1:Int))):=hid (fun u hu=>⟨d_ hu c0',d_ hu p'⟩);obtain ⟨GX,GY⟩:=c3t (n:=n) hr.out hc.out (by have:=hb.out;omega) np;have GX:=hid GX;have GY:=hid GY;clear hL ha hr hc c0' k' p' t' le' l1' l2';have hnz':(n:Int)≤98000:=by omega
      generalize st1.hd=H1 at *;obtain ⟨jk,jp,jt⟩:=H1;dsimp only at *;by_cases h8:n=8
      · have h8z:((n:Int) == 8)=true:=by rw [beq_iff_eq];omega
        go_wp2_with (first
         | (go_at_call 136;refine GA.out.mono ?_;clear GA;rintro e u ⟨rfl,hu⟩;obtain ⟨t0,t1⟩:=HU.out u hu;have G1:=hid (GX.out h8 u hu);clear GX GY hu HU)
         | (go_at_call 66;refine G1.out.mono ?_;clear G1;rintro e u2 ⟨rfl,G2⟩;have G2:=hid G2)
         | (go_at_call 175;refine G2.out.mono ?_;clear G2;rintro e u4 ⟨rfl,T4,X4,hr4,hc4⟩;have hm4:=hr4.wsN;have hr4:=hid hr4;have hc4:=hid hc4))
        go_roundw
        case rel=>exact ⟨n+1,T4,X4,_,by go_num,hr4,hc4,e9,hid (by have:=hws.out;have:=hb.out;omega),by have:=hws.out;omega⟩
        case measure=>rw [hm4,hm0];have:=hws.out;omega
      · have h8z:((n:Int) == 8)=false:=by rw [beq_eq_false_iff_ne];omega
        go_wp2_with (first
         | (go_at_call 136;refine GA.out.mono ?_;clear GA;rintro e u ⟨rfl,hu⟩;have G2:=hid (GY.out h8 u hu);clear GX GY hu HU)
         | (go_at_call 175;refine G2.out.mono ?_;clear G2;rintro e u4 ⟨rfl,T4,X4,hr4,hc4⟩;have hm4:=hr4.wsN;have hr4:=hid hr4;have hc4:=hid hc4))
        go_roundw
        case rel=>exact ⟨n+1,T4,X4,_,by go_num,hr4,hc4,e9,hid (by have:=hws.out;have:=hb.out;omega),by have:=hws.out;omega⟩
        case measure=>rw [hm4,hm0];have:=hws.out;omega
 · have hz:((np:Int) == 40)=true:=by rw [beq_iff_eq];omega
   subst hia;have h40:=hid h41;clear h41;go_enter Tryz.func138,Tryz.ntmps138
   go_wp2_with (first
    | (go_at_call 174;refine GI.out.mono ?_;clear GI;rintro e u0 ⟨rfl,hu⟩;obtain ⟨t4,t0,t1⟩:=HU.out u0 hu;have G1:=hid (HG.out h40.out (by rfl) u0 hu);clear HG HU hu)
    | (go_at_call 66;refine G1.out.mono ?_;clear G1;rintro e u1 ⟨rfl,hM⟩;obtain ⟨c9,na,nc,A,C,w6,⟨d0,d1⟩,⟨f0,f1⟩,hrun,g0,g1,hP⟩:=HA.out u1 _ hM;have hP:=hid hP;clear HA HN hM))
   apply S_
   case h =>
    intro rest
    go_region_law ((first
     | (refine M_ (by rfl) (.tmp 35) (.tmp 43) 25 (by rfl) _ _ (by rfl) (by rfl) hrun ?_)
     | fail))
    all_goals exact rest.out
   case pf =>
    obtain ⟨T3,X3,hr3,hc3⟩:=hP.out;have hr3:=hid hr3;have hc3:=hid hc3;clear hP d0 d1 f0 f1 g0 g1 hrun c4;generalize w6.setCell ⟨rb,4,none⟩ (.slice A (np+1) C)=V6 at *;go_wp2_with fail
    go_loopw [3] (fun x wr=>∃ (n:Nat) (T1:Nat→Nat) (X1:RX) (st1:RS),x=.int .i64 (n:Int)∧Hid (RdV B T1 wr rb X1 st1)∧Hid (Chg T T1 w wr)∧Hid (RS.syms np st1.ws.length n st1=R)∧Hid (st1.later.length+st1.ws.length≤98000)∧n+st1.ws.length≤98000) (fun _ wr=>wsN wr rb)
    case atStart=>exact ⟨0,T3,X3,_,rfl,hr3,hc3,hR,hpot,by have:=hpot.out;omega⟩
    case round =>
     obtain ⟨n,T1,X1,st1,rfl,hr,hc,hL,hb,hnb⟩:=hrel;clear hr3 hc3 hR hpot;have GA:=hid (c0S hr.out);have hm0:=hr.out.wsN;cases ha:st1.atN with
     | false =>
      rw [ha] at GA;have e9:=hL.out;rw [a8x ha] at e9;subst e9;clear hL ha hm0 hnb;obtain ⟨-,l9⟩:True∧st1.later.length≤99000:=⟨trivial,by have:=hb.out;omega⟩;have GP:Hid (∀ u,Below wr.heap.size wr u→_):=hid (fun u hu=>c3K (hr.out.keep hu) (hc.out.trans (Chg.of_below hu)) l9 np);clear hr hc hb l9;cases hs:st1.atS [37] with
      | false =>
       go_wp2_with (first
        | (go_at_call 136;refine GA.out.mono ?_;clear GA;rintro e u ⟨rfl,hu⟩;obtain ⟨G1,-,G3⟩:=GP.out u hu;clear GP hu;rw [hs] at G1;have G1:=hid G1;have G3:=hid (G3 hs))
        | (go_at_call 139;refine G1.out.mono ?_;clear G1;rintro e u2 ⟨rfl,hu2⟩;have hQ:=hid (G3.out u2 hu2)))
       go_end0
       exact ⟨rfl,hQ.out⟩
      | true =>
       go_wp2_with (first
        | (go_at_call 136;refine GA.out.mono ?_;clear GA;rintro e u ⟨rfl,hu⟩;obtain ⟨G1,G2,-⟩:=GP.out u hu;clear GP hu;rw [hs] at G1;have G1:=hid G1;have G2:=hid (G2 hs))
        | (go_at_call 139;refine G1.out.mono ?_;clear G1;rintro e u2 ⟨rfl,hu2⟩;have G4:=hid (G2.out u2 hu2);clear G2)
        | (go_at_call 127;refine G4.out.mono ?_;clear G4;rintro e u3 ⟨rfl,G5⟩;have G5:=hid G5)
        | (go_at_call 176;refine G5.out.mono ?_;clear G5;rintro e u4 ⟨rfl,hQ⟩;have hQ:=hid hQ))
       go_end0
       exact ⟨rfl,hQ.out⟩
     | true =>
      rw [ha] at GA;have hw2:=hr.out.wf.two (RS.atN_hd ha);have e9:=hL.out;rw [a5N ha hr.out.wf.ne] at e9;have e9:=hid e9;have hws:Hid (((st1.full (decide (n=8)) st1.hd.2.1).symb np).ws.length+1=st1.ws.length∧((st1.full (decide (n=8)) st1.hd.2.1).symb np).later.length=st1.later.length+1):=hid ⟨by rw [a3U ha,List.length_tail];omega,by rw [a2K,(SameL.full _ _ _).later]⟩;obtain ⟨b',o',n',cap',⟨c0',k',p',t',le',l1',l2'⟩,-,-⟩:=hr.out.ahd;have HU:Hid (∀ u,Below wr.heap.size wr u→u.cell? ⟨rb,0,none⟩=some (.slice (some ⟨b',o',none⟩) (n'+1) cap')∧u.cell? ⟨b',o'+1,none⟩=some (.int .i64 (st1.hd.2.1:Int))):=hid (fun u hu=>⟨d_ hu c0',d_ hu p'⟩);obtain ⟨GX,GY⟩:=c3t (n:=n) hr.out hc.out (by have:=hb.out;omega) np;have GX:=hid GX;have GY:=hid GY;clear hL ha hr hc c0' k' p' t' le' l1' l2';have hnz':(n:Int)≤98000:=by omega
      generalize st1.hd=H1 at *;obtain ⟨jk,jp,jt⟩:=H1;dsimp only at *;by_cases h8:n=8
      · have h8z:((n:Int) == 8)=true:=by rw [beq_iff_eq];omega
        go_wp2_with (first
         | (go_at_call 136;refine GA.out.mono ?_;clear GA;rintro e u ⟨rfl,hu⟩;obtain ⟨t0,t1⟩:=HU.out u hu;have G1:=hid (GX.out h8 u hu);clear GX GY hu HU)
         | (go_at_call 66;refine G1.out.mono ?_;clear G1;rintro e u2 ⟨rfl,G2⟩;have G2:=hid G2)
         | (go_at_call 175;refine G2.out.mono ?_;clear G2;rintro e u4 ⟨rfl,T4,X4,hr4,hc4⟩;have hm4:=hr4.wsN;have hr4:=hid hr4;have hc4:=hid hc4))
        go_roundw
        case rel=>exact ⟨n+1,T4,X4,_,by go_num,hr4,hc4,e9,hid (by have:=hws.out;have:=hb.out;omega),by have:=hws.out;omega⟩
        case measure=>rw [hm4,hm0];have:=hws.out;omega
      · have h8z:((n:Int) == 8)=false:=by rw [beq_eq_false_iff_ne];omega
        go_wp2_with (first
         | (go_at_call 136;refine GA.out.mono ?_;clear GA;rintro e u ⟨rfl,hu⟩;have G2:=hid (GY.out h8 u hu);clear GX GY hu HU)
         | (go_at_call 175;refine G2.out.mono ?_;clear G2;rintro e u4 ⟨rfl,T4,X4,hr4,hc4⟩;have hm4:=hr4.wsN;have hr4:=hid hr4;have hc4:=hid hc4))
        go_roundw
        case rel=>exact ⟨n+1,T4,X4,_,by go_num,hr4,hc4,e9,hid (by have:=hws.out;have:=hb.out;omega),by have:=hws.out;omega⟩
        case measure=>rw [hm4,hm0];have:=hws.out;omega
end Go.Proofs.YtjgedijclkoemaaGreatDoor
namespace Go.Proofs.YtjgedijclkoemaaGreatDoor
def RS.lens (st:RS):Nat:=st.rules.length+st.nonts.length+st.prods.length+st.skips.length+st.terms.length+st.nons.length+st.later.length+st.levels+st.starts
def RS.pot (st:RS):Nat:=st.lens+4 * st.ws.length
theorem SameL.lens {a b:RS} (h:SameL a b):b.lens=a.lens:=by unfold RS.lens;rw [h.rules,h.nonts,h.prods,h.skips,h.terms,h.nons,h.later,h.levels,h.starts]
theorem SameL.pot {a b:RS} (h:SameL a b):b.pot≤a.pot:=by unfold RS.pot;rw [h.lens];have:=h.ws;omega
theorem RS.hd_ne {st:RS} (h:st.hd.1≠0):0<st.ws.length:=by
 unfold RS.hd at h;cases hw:st.ws with
 | nil=>rw [hw] at h;exact absurd rfl h
 | cons x l=>rw [List.length_cons];omega
theorem RS.take_pot {st:RS} (h:st.hd.1≠0):(st.take true).pot+4=st.pot∧(st.take true).ws.length+1=st.ws.length:=by
 have h0:=RS.hd_ne h;have e:(st.take true).ws.length+1=st.ws.length:=by show st.ws.tail.length+1=_;rw [List.length_tail];omega
 refine ⟨?_,e⟩;unfold RS.pot;rw [(SameL.take st true).lens];omega
theorem RS.tkS_pot {st:RS} {t:Txt} (h:st.atS t=true):(st.tkS t).pot+4=st.pot:=by
 unfold RS.tkS;rw [h];exact (RS.take_pot (RS.atS_hd h)).1
theorem RS.tkN_pot {st:RS} (h:st.atN=true):st.tkN.pot+4=st.pot:=by
 unfold RS.tkN;rw [h];exact (RS.take_pot (RS.atN_hd h)).1
theorem RS.thn_pot (st:RS) (s:Stp):(st.thn s).pot=st.pot+1:=by
 unfold RS.thn RS.pot RS.lens;simp only [List.length_append,List.length_singleton];omega
theorem RS.symb_pot (st:RS) (pr:Nat):(st.symb pr).pot≤st.pot+1:=by
 unfold RS.symb;rw [RS.thn_pot]
 have:=(SameL.tkN st).pot
 omega
theorem RS.prec_pot (st:RS) (pr:Nat):(st.prec pr).pot≤st.pot+1:=by
 unfold RS.prec;rw [RS.thn_pot]
 have:=(SameL.tkN st).pot
 omega
theorem RS.lvd_pot (st:RS) (p s:Nat):(st.lvd p s).pot≤st.pot+1:=by
 unfold RS.lvd;rw [RS.thn_pot]
 have:=(SameL.tkN st).pot
 omega
theorem RS.lvds_pot (p s:Nat):∀ (n:Nat) (st:RS),(RS.lvds p s n st).pot≤st.pot
 | 0,st=>Nat.le_refl _
 | n+1,st=>by
  rw [RS.lvds];split
  · rename_i h
    refine Nat.le_trans (RS.lvds_pot p s n _) ?_;unfold RS.lvd;rw [RS.thn_pot]
    have:=RS.tkN_pot h
    omega
  · exact Nat.le_refl _
theorem RS.syms_pot (pr:Nat):∀ (f n:Nat) (st:RS),(RS.syms pr f n st).pot≤st.pot
 | 0,_,st=>Nat.le_refl _
 | f+1,n,st=>by
  rw [RS.syms];split
  · rename_i h
    refine Nat.le_trans (RS.syms_pot pr f (n+1) _) ?_;unfold RS.symb;rw [RS.thn_pot];have h1:=RS.tkN_pot (st:=st.full (decide (n=8)) st.hd.2.1) (by rw [RS.atN_of (RS.full_ws _ _ _)];exact h);have h2:=(SameL.full st (decide (n=8)) st.hd.2.1).pot;omega
  · exact Nat.le_refl _
theorem RS.pct_pot (st:RS) (pr:Nat):(st.pct pr).pot≤st.pot:=by
 unfold RS.pct;split
 · rename_i h
   have h1:=RS.tkS_pot h;have h2:=RS.prec_pot (st.tkS [37]) pr;omega
 · exact Nat.le_refl _
theorem RS.addP_pot (st:RS):st.addP.pot=st.pot+1:=by
 unfold RS.addP RS.pot RS.lens;simp only [List.length_append,List.length_singleton];omega
theorem RS.alt_pot (st:RS):st.alt.pot≤st.pot+1:=by
 unfold RS.alt;refine Nat.le_trans (RS.pct_pot _ _) (Nat.le_trans (RS.syms_pot _ _ _ _) ?_);unfold RS.alt1;rw [RS.addP_pot]
 have:=(SameL.full st (decide (st.prods.length=40) && st.inA) st.hd.2.1).pot
 omega
theorem RS.alts_pot:∀ (f:Nat) (st:RS),(RS.alts f st).pot≤st.pot
 | 0,st=>Nat.le_refl _
 | f+1,st=>by
  rw [RS.alts];split
  · rename_i h
    refine Nat.le_trans (RS.alts_pot f _) ?_;have h1:=RS.tkS_pot h;have h2:=RS.alt_pot (st.tkS [124]);omega
  · exact Nat.le_refl _
theorem RS.addN_pot (st:RS) (t:Txt):(st.addN t).pot=st.pot+1:=by
 unfold RS.addN RS.pot RS.lens;simp only [List.length_append,List.length_singleton];omega
theorem RS.addO_pot (st:RS) (x:Wd):(st.addO x).pot=st.pot+1:=by
 unfold RS.addO RS.pot RS.lens;simp only [List.length_append,List.length_singleton];omega
theorem RS.addR_pot (st:RS) (r:Rl):(st.addR r).pot=st.pot+1:=by
 unfold RS.addR RS.pot RS.lens;simp only [List.length_append,List.length_singleton];omega
theorem RS.addW_pot (st:RS) (x:Wd) (sk:Bool):(st.addW x sk).pot=st.pot+1:=by
 unfold RS.addW;split
 all_goals
  unfold RS.pot RS.lens;simp only [List.length_append,List.length_singleton];omega
def RS.nont0 (st:RS):RS:=((((st.tkN.full (decide (st.nonts.length=16)) st.hd.2.1).tkS [58]).addN st.hd.2.2).addO st.hd).once st.hd
theorem RS.nont0_pot (st:RS):st.nont0.pot≤st.tkN.pot+3:=by
 unfold RS.nont0 RS.once;rw [RS.thn_pot,RS.addO_pot,RS.addN_pot];have h1:=(SameL.full st.tkN (decide (st.nonts.length=16)) st.hd.2.1).pot;have h2:=(SameL.tkS (st.tkN.full (decide (st.nonts.length=16)) st.hd.2.1) [58]).pot;omega
theorem RS.nont_pot {st:RS} (h:st.atN=true):st.nont.pot≤st.pot:=by
 unfold RS.nont;have h1:=(SameL.tkS (RS.alts st.nont1.ws.length st.nont1) [59]).pot;have h2:=RS.alts_pot st.nont1.ws.length st.nont1;have h3:st.nont1.pot≤st.nont0.pot+1:=RS.alt_pot st.nont0;have h4:=RS.nont0_pot st;have h5:=RS.tkN_pot h;omega
theorem RS.rule_pot {st:RS} (h:st.hd.1≠0):st.rule.pot≤st.pot:=by
 unfold RS.rule RS.rule2 RS.once;rw [RS.thn_pot,RS.addW_pot,RS.addR_pot];have h1:=(RS.take_pot h).1;have h2:st.rule1.pot≤(st.take true).pot:=(SameL.full _ _ _).pot;have h3:=(SameL.tkN st.rule1).pot;have h4:=(SameL.cells st.rule1.tkN).pot;have h5:=(SameL.tkS st.rule1.tkN.cells [59]).pot;omega
theorem RS.level_pot {st:RS} (h:st.hd.1≠0):st.level.pot≤st.pot:=by
 unfold RS.level;have h0:st.lv1.pot=st.pot+1:=by unfold RS.lv1 RS.pot RS.lens;dsimp only;omega
 have h1:=(RS.take_pot (st:=st.lv1) h).1;have h2:=RS.lvd_pot (st.lv1.take true) (st.levels+1) (sdN st.hd.2.2);have h3:=RS.lvds_pot (st.levels+1) (sdN st.hd.2.2) ((st.lv1.take true).lvd (st.levels+1) (sdN st.hd.2.2)).ws.length ((st.lv1.take true).lvd (st.levels+1) (sdN st.hd.2.2));have h4:=(SameL.tkS (RS.lvds (st.levels+1) (sdN st.hd.2.2) ((st.lv1.take true).lvd (st.levels+1) (sdN st.hd.2.2)).ws.length ((st.lv1.take true).lvd (st.levels+1) (sdN st.hd.2.2))) [59]).pot;dsimp only;omega
theorem RS.start_pot {st:RS} (h:st.hd.1≠0):st.start.pot≤st.pot:=by
 unfold RS.start;dsimp only;rw [RS.thn_pot];have h0:st.st1.pot=st.pot+1:=by unfold RS.st1 RS.pot RS.lens;dsimp only;omega
 have h1:=(RS.take_pot (st:=st.st1) h).1;have h2:=RS.thn_pot (st.st1.take true) ⟨3,st.hd,if 1<st.starts+1 then 1 else 0,0⟩;have h3:=(SameL.tkN ((st.st1.take true).thn ⟨3,st.hd,if 1<st.starts+1 then 1 else 0,0⟩)).pot;have h4:=(SameL.tkS ((st.st1.take true).thn ⟨3,st.hd,if 1<st.starts+1 then 1 else 0,0⟩).tkN [59]).pot;omega
theorem b2w {t:Txt} (h1:¬ (t=a8R∨t=L_)) (h2:¬ t=a1w) (h3:¬ 0<sdN t):kwB t=false:=by
 unfold kwB;rw [decide_eq_false (fun e=>h1 (.inl e)),decide_eq_false (fun e=>h1 (.inr e)),decide_eq_false h2,decide_eq_false h3];rfl
theorem RS.item_pot (st:RS):st.item.pot≤st.pot:=by
 unfold RS.item;split
 · exact (SameL.give st _ (by decide)).pot
 · rename_i h1
   have h1:st.hd.1=1:=by omega
   have h0:st.hd.1≠0:=by omega
   split
   · exact RS.rule_pot h0
   · rename_i h2
     split
     · exact RS.start_pot h0
     · rename_i h3
       split
       · exact RS.level_pot h0
       · rename_i h4
         refine RS.nont_pot ?_;unfold RS.atN;rw [h1,b2w h2 h3 h4];rfl
end Go.Proofs.YtjgedijclkoemaaGreatDoor
