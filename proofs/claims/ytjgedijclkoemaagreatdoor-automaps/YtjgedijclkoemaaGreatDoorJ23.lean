/- What the five laws of layer 17 share, part 23: no statement of its own. -/
import Derived.Test.YtjgedijclkoemaaGreatDoorJ14
namespace Go.Proofs.YtjgedijclkoemaaGreatDoor
open Go.RowKit Go.Maps Go.Sort
abbrev wdA (x:Wd):Value:=.agg #[.int .i64 (x.1:Int),.int .i64 (x.2.1:Int),.string (e_ x.2.2)]
theorem RdV.word {B rb:Nat} {T:Nat→Nat} {w:World} {X:RX} {st:RS} (h:RdV B T w rb X st) :
 ∃ b o n cap,X.wv=.slice (some ⟨b,o,none⟩) (n+1) cap∧st.ws.length=n+1∧n+1≤cap∧T b=0∧b<w.heap.size∧Wd3 w b o st.hd:=by
 have hn:=h.wf.ne;obtain ⟨b,o,cap,e,h1,h2,h3,h4⟩:=h.words;cases hw:st.ws with
 | nil=>exact absurd hw hn
 | cons x l =>
  have hl:st.ws.length=l.length+1:=by rw [hw];rfl
  refine ⟨b,o,l.length,cap,by rw [e,hl],rfl,by omega,h2,h3,?_⟩;have h5:=h4 0 (by omega);have e0:st.ws[0]'(by omega)=st.hd:=by unfold RS.hd;simp [hw]
  rw [e0,Nat.zero_mul,Nat.add_zero] at h5;exact h5
theorem RS.give_ws (st:RS) (p:Nat) (e:Int):(st.give p e).ws=st.ws:=by unfold RS.give;split <;> rfl
structure Mov (B:Nat) (T:Nat→Nat) (w:World) (rb:Nat) (X:RX) (st:RS) (w':World) (wv:Value):Prop where
 rd:RdV B T w' rb { X with wv:=wv } st
 kept:Kept (f_ rb) w w'
theorem Mov.below {B rb:Nat} {T:Nat→Nat} {w w0 w':World} {X:RX} {st:RS} {wv:Value} (h:Mov B T w0 rb X st w' wv) (hw:Below w.heap.size w w0):Mov B T w rb X st w' wv:=⟨h.rd,(Kept.of_below hw).step h.kept (fun _ _ h=>h)⟩
theorem Mov.chg {B rb:Nat} {T:Nat→Nat} {w w':World} {X:RX} {st:RS} {wv:Value} (h:Mov B T w rb X st w' wv):Chg T T w w':=⟨h.kept.mono (fun k _ e=>by rw [show k=rb from e,h.rd.rt];decide),fun _ _=>rfl⟩
theorem RdV.same {B rb:Nat} {T:Nat→Nat} {w:World} {X:RX} {st:RS} (h:RdV B T w rb X st):Mov B T w rb X st w X.wv:=⟨h,Kept.refl _ _⟩
set_option maxRecDepth 20000 in
set_option maxHeartbeats 2000000 in
theorem a7Q {B rb:Nat} {T:Nat→Nat} {w:World} {X:RX} {st:RS} (h:RdV B T w rb X st) (p:Nat) (e:Int) (he:e≠0) :
 Calls Tryz.prog 66 #[r_ rb,.int .i64 (p:Int),.int .i64 e] w fun r w'=>r=.returned (.tuple #[])∧Mov B T w rb X (st.give p e) w' X.wv:=by
 have hb0:=h.blk;by_cases h0:st.err=0
 · have hg:st.give p e={ st with pl:=p,err:=e }:=if_pos h0
   rw [hg];have hb1:=heap_setCell (o:=16) (v:=.int .i64 (p:Int)) hb0;have hb2:=heap_setCell (o:=17) (v:=.int .i64 e) hb1;have hk:Kept (f_ rb) w ((w.setCell ⟨rb,16,none⟩ (.int .i64 (p:Int))).setCell ⟨rb,17,none⟩ (.int .i64 e)):=((Kept.refl (f_ rb) w).setCell (a:=⟨rb,16,none⟩) (fun _=>rfl)).setCell (a:=⟨rb,17,none⟩) (fun _=>rfl);have hP:Hid (Mov B T w rb X { st with pl:=p,err:=e } ((w.setCell ⟨rb,16,none⟩ (.int .i64 (p:Int))).setCell ⟨rb,17,none⟩ (.int .i64 e)) X.wv):=hid ⟨h.put (hk.mono (fun _ _ e=>.inl e)) hb2 (h.ws1 hk) h.wf rfl rfl rfl rfl rfl rfl rfl (fun e9=>absurd e9 he) rfl rfl rfl rfl rfl rfl rfl rfl rfl,hk⟩;rw [h0] at hb0;obtain ⟨x0,x1,x2,x3,x4,x5,x6,x7,x8,x9,x10,x15,x16,x17⟩:=c0N hb0
   have y17:(w.setCell ⟨rb,16,none⟩ (.int .i64 (p:Int))).cell? ⟨rb,17,none⟩=some (.int .i64 0):=by
    have:=c_ (o:=17) hb1 rfl
    rw [this];show some (Value.int .i64 st.err)=_;rw [h0]
   have f16:=i_ hb0 16;have f17:=i_ hb1 17;clear x0 x1 x2 x3 x4 x5 x6 x7 x8 x9 x10 x15 hb0 hb1 hb2 hk hg h0 h;go_enter Tryz.func66,Tryz.ntmps66
   go_wp2;go_end0
   exact ⟨rfl,hP.out⟩
 · have hg:st.give p e=st:=if_neg h0
   rw [hg];obtain ⟨x0,x1,x2,x3,x4,x5,x6,x7,x8,x9,x10,x15,x16,x17⟩:=c0N hb0;have hP:Hid (Mov B T w rb X st w X.wv):=hid h.same;clear x0 x1 x2 x3 x4 x5 x6 x7 x8 x9 x10 x15 x16 hb0 hg h;have h0b:(st.err == 0)=false:=beq_eq_false_iff_ne.2 h0;generalize st.err=er at *;go_enter Tryz.func66,Tryz.ntmps66
   go_wp2;go_end0
   exact ⟨rfl,hP.out⟩
structure Ahd (w:World) (rb:Nat) (st:RS) (b o n cap:Nat):Prop where
 c0:w.cell? ⟨rb,0,none⟩=some (.slice (some ⟨b,o,none⟩) (n+1) cap)
 k:w.cell? ⟨b,o,none⟩=some (.int .i64 (st.hd.1:Int))
 p:w.cell? ⟨b,o+1,none⟩=some (.int .i64 (st.hd.2.1:Int))
 t:w.cell? ⟨b,o+2,none⟩=some (.string (e_ st.hd.2.2))
 le:n+1≤cap
 l1:rb<w.heap.size
 l2:b<w.heap.size
theorem RdV.ahd {B rb:Nat} {T:Nat→Nat} {w:World} {X:RX} {st:RS} (h:RdV B T w rb X st):∃ b o n cap,Ahd w rb st b o n cap∧X.wv=.slice (some ⟨b,o,none⟩) (n+1) cap∧st.ws.length=n+1:=by
 obtain ⟨b,o,n,cap,e,hl,h1,h2,h3,x0,x1,x2⟩:=h.word;exact ⟨b,o,n,cap,⟨by rw [← e];exact (c0N h.blk).1,x0,x1,x2,h1,u_ h.blk,h3⟩,e,hl⟩
set_option maxRecDepth 20000 in
set_option maxHeartbeats 2000000 in
theorem c0S {B rb:Nat} {T:Nat→Nat} {w:World} {X:RX} {st:RS} (h:RdV B T w rb X st) :
 Calls Tryz.prog 136 #[r_ rb] w fun r w'=>r=.returned (.bool st.atN)∧Below w.heap.size w w':=by
 obtain ⟨b,o,n,cap,⟨c0,k,p,t,le,l1,l2⟩,-,-⟩:=h.ahd;have GK:=hid (fun u=>b6J st.hd.2.2 u);obtain ⟨R,hR⟩:∃ R,Hid (st.atN=R):=⟨_,hid rfl⟩;rw [hR.out];unfold RS.atN at hR;clear h;generalize st.hd=H at *;obtain ⟨hk,hp,ht⟩:=H;dsimp only at k p t GK hR;generalize kwB ht=kb at *;generalize e_ ht=S at *;have n1:rb≠w.heap.size:=by omega
 have n2:b≠w.heap.size:=by omega
 have hal:=hid (al' w (.cells #[.int .i64 (hk:Int),.int .i64 (hp:Int),.string S] 90));by_cases h1:hk=1
 · subst h1
   cases kb
   · obtain rfl:true=R:=hR.out
     clear hR;go_enter Tryz.func136,Tryz.ntmps136
     go_wp2_with (go_at_call 173;refine (GK.out _).mono ?_;clear GK;rintro e w2 ⟨rfl,hc2⟩;have hc2:=hid (a_ hal.out hc2))
     go_ret;exact ⟨rfl,hc2.out⟩
   · obtain rfl:false=R:=hR.out
     clear hR;go_enter Tryz.func136,Tryz.ntmps136
     go_wp2_with (go_at_call 173;refine (GK.out _).mono ?_;clear GK;rintro e w2 ⟨rfl,hc2⟩;have hc2:=hid (a_ hal.out hc2))
     go_ret;exact ⟨rfl,hc2.out⟩
 · have h1b:((hk:Int) == 1)=false:=by rw [beq_eq_false_iff_ne];omega
   obtain rfl:false=R:=by have:=hR.out;rw [decide_eq_false h1,Bool.false_and] at this;exact this
   clear hR h1;go_enter Tryz.func136,Tryz.ntmps136
   go_wp2_with fail
   go_ret;exact ⟨rfl,hal.out⟩
set_option maxRecDepth 20000 in
set_option maxHeartbeats 2000000 in
theorem c0R {B rb:Nat} {T:Nat→Nat} {w:World} {X:RX} {st:RS} (h:RdV B T w rb X st) (u:Txt) :
 Calls Tryz.prog 139 #[r_ rb,.string (e_ u)] w fun r w'=>r=.returned (.bool (st.atS u))∧Below w.heap.size w w':=by
 obtain ⟨b,o,n,cap,⟨c0,k,p,t,le,l1,l2⟩,-,-⟩:=h.ahd;obtain ⟨R,hR⟩:∃ R,Hid (st.atS u=R):=⟨_,hid rfl⟩;rw [hR.out];unfold RS.atS at hR;clear h;generalize st.hd=H at *;obtain ⟨hk,hp,ht⟩:=H;dsimp only at k p t hR;have n1:rb≠w.heap.size:=by omega
 have n2:b≠w.heap.size:=by omega
 have hal:=hid (al' w (.cells #[.int .i64 (hk:Int),.int .i64 (hp:Int),.string (e_ ht)] 90));by_cases h1:hk=3
 · subst h1
   have hb:Hid (((e_ ht).toList == (e_ u).toList)=R):=hid (by
    rw [Z_,Z_,← hR.out];rw [Bool.eq_iff_iff,beq_iff_eq,Bool.and_eq_true,decide_eq_true_iff,decide_eq_true_iff];exact ⟨fun h=>⟨rfl,h⟩,fun h=>h.2⟩)
   clear hR;generalize e_ ht=S at *;generalize e_ u=U at *;go_enter Tryz.func139,Tryz.ntmps139
   go_wp2_with fail
   go_ret;exact ⟨by rw [hb.out];rfl,hal.out⟩
 · have h1b:((hk:Int) == 3)=false:=by rw [beq_eq_false_iff_ne];omega
   obtain rfl:false=R:=by have:=hR.out;rw [decide_eq_false h1,Bool.false_and] at this;exact this
   clear hR h1;generalize e_ ht=S at *;go_enter Tryz.func139,Tryz.ntmps139
   go_wp2_with fail
   go_ret;exact ⟨rfl,hal.out⟩
set_option maxRecDepth 20000 in
set_option maxHeartbeats 2000000 in
theorem c4S {B rb:Nat} {T:Nat→Nat} {w:World} {X:RX} {st:RS} (h:RdV B T w rb X st) :
 Calls Tryz.prog 174 #[r_ rb] w fun r w'=>r=.returned (.bool st.inA)∧Below w.heap.size w w':=by
 have G1:=hid (c0S h);have G2:=hid (fun u (hu:Below w.heap.size w u)=>c0R (h.keep hu) [37]);have G3:=hid (fun u (hu:Below w.heap.size w u)=>c0R (h.keep hu) [124]);have G4:=hid (fun u (hu:Below w.heap.size w u)=>c0R (h.keep hu) [59]);obtain ⟨R,hR⟩:∃ R,Hid (st.inA=R):=⟨_,hid rfl⟩;rw [hR.out];unfold RS.inA at hR;rw [show e_ [37]=⟨#[37]⟩ from rfl] at G2;rw [show e_ [124]=⟨#[124]⟩ from rfl] at G3;rw [show e_ [59]=⟨#[59]⟩ from rfl] at G4;generalize st.atN=b1 at *;generalize st.atS [37]=b2 at *;generalize st.atS [124]=b3 at *;generalize st.atS [59]=b4 at *;clear h;cases b1 <;> cases b2 <;> cases b3 <;> cases b4
 all_goals
  obtain rfl:=hR.out;clear hR;go_enter Tryz.func174,Tryz.ntmps174
  go_wp2_with (first
   | (go_at_call 136;refine G1.out.mono ?_;clear G1;rintro e w1 ⟨rfl,hc⟩;have hc:=hid hc)
   | (go_at_call 139;refine (G2.out _ hc.out).mono ?_;clear G2;rintro e w2 ⟨rfl,hd⟩;have hc:=hid (a_ hc.out hd))
   | (go_at_call 139;refine (G3.out _ hc.out).mono ?_;clear G3;rintro e w3 ⟨rfl,hd⟩;have hc:=hid (a_ hc.out hd))
   | (go_at_call 139;refine (G4.out _ hc.out).mono ?_;clear G4;rintro e w4 ⟨rfl,hd⟩;have hc:=hid (a_ hc.out hd)))
  go_ret;exact ⟨rfl,hc.out⟩
theorem WsV.tail {T:Nat→Nat} {w:World} {b o n cap:Nat} {ws:List Wd} (h:WsV T w (.slice (some ⟨b,o,none⟩) (n+1) cap) ws):WsV T w (.slice (some ⟨b,o+3,none⟩) n (cap - 1)) ws.tail:=by
 obtain ⟨b',o',cap',e,h1,h2,h3,h4⟩:=h;injection e with e1 e2 e3;injection e1 with e1;injection e1 with e1 e4 _;subst e1 e3 e4;have hl:ws.tail.length=n:=by rw [List.length_tail];omega
 refine ⟨b,o+3,cap - 1,by rw [hl],by omega,h2,h3,fun j hj=>?_⟩;have h5:=h4 (j+1) (by omega);have e5:ws.tail[j]=ws[j+1]'(by omega):=by rw [List.getElem_tail]
 rw [e5,show o+3+j * 3=o+(j+1) * 3 by omega];exact h5
set_option maxRecDepth 20000 in
set_option maxHeartbeats 4000000 in
theorem a7d {B rb:Nat} {T:Nat→Nat} {w:World} {X:RX} {st:RS} (h:RdV B T w rb X st) (may:Bool) (hm:may=true→st.hd.1≠0) :
 Calls Tryz.prog 124 #[r_ rb,.bool may] w fun r w'=>r=.returned (wdA st.hd)∧∃ wv,Mov B T w rb X (st.take may) w' wv:=by
 obtain ⟨b,o,n,cap,⟨c0,k,p,t,le,l1,l2⟩,hwv,hwl⟩:=h.ahd;obtain ⟨W1,hW1⟩:∃ x,w.alloc (.cells #[.int .i64 0,.int .i64 0,.string ⟨#[]⟩] 90)=x:=⟨_,rfl⟩;have hz1:W1.heap.size=w.heap.size+1:=by rw [← hW1];exact World.size_alloc ..
 have hB1:Below w.heap.size w W1:=by rw [← hW1];exact al' w _
 have hr1:W1.heap[w.heap.size]?=some (.cells #[.int .i64 0,.int .i64 0,.string ⟨#[]⟩] 90 (0,0)):=by rw [← hW1];exact b_ w _
 obtain ⟨W2,hW2⟩:∃ x,W1.alloc (.cells #[.int .i64 (st.hd.1:Int),.int .i64 (st.hd.2.1:Int),.string (e_ st.hd.2.2)] 90)=x:=⟨_,rfl⟩;have hB2:Below W1.heap.size W1 W2:=by rw [← hW2];exact al' W1 _
 have hv2:W2.heap[w.heap.size+1]?=some (s_ st.hd):=by rw [← hW2,← hz1];exact b_ W1 _
 have hB:Below w.heap.size w W2:=a_ hB1 hB2;have hr2:=g_ hr1 hB2;have h2:=h.keep hB;have c0a:=d_ hB1 c0;have ka:=d_ hB1 k;have pa:=d_ hB1 p;have ta:=d_ hB1 t;have c0':=d_ hB c0;have n1:rb≠w.heap.size+1:=by omega
 have n2:rb≠w.heap.size:=by omega
 cases may with
 | true =>
  have hn2:2≤st.ws.length:=h.wf.two (hm rfl);have hn1:1≤n:=by omega
  have hc1:¬ cap=1:=by omega
  obtain ⟨U,hU⟩:∃ x,W2.setCell ⟨rb,0,none⟩ (.slice (some ⟨b,o+3,none⟩) n (cap - 1))=x:=⟨_,rfl⟩;have hUk:Kept (f_ rb) W2 U:=by rw [← hU];exact (Kept.refl (f_ rb) W2).setCell (a:=⟨rb,0,none⟩) (fun _=>rfl)
  have hUb:U.heap[rb]?=some (rdO { X with wv:=.slice (some ⟨b,o+3,none⟩) n (cap - 1) } st.levels st.starts st.pl st.err):=by rw [← hU];exact heap_setCell h2.blk
  have hUr:=hUk.blk hr2 (fun e=>n2 (show w.heap.size=rb from e).symm);have hUv:=hUk.blk hv2 (fun e=>n1 (show w.heap.size+1=rb from e).symm);have f0:W2.frozen? ⟨rb,0,none⟩=false:=i_ h2.blk 0;obtain ⟨⟨q0,q1⟩,⟨q2,q3⟩,⟨q4,q5⟩,q6,q7,q8⟩:=a6a hUr (.int .i64 (st.hd.1:Int)) (.int .i64 (st.hd.2.1:Int)) (.string (e_ st.hd.2.2));obtain ⟨F,hF⟩:∃ x,((U.setCell ⟨w.heap.size,0,none⟩ (.int .i64 (st.hd.1:Int))).setCell ⟨w.heap.size,1,none⟩ (.int .i64 (st.hd.2.1:Int))).setCell ⟨w.heap.size,2,none⟩ (.string (e_ st.hd.2.2))=x:=⟨_,rfl⟩
  have hFk:Kept (f_ rb) w F:=by
   rw [← hF];exact ((((Kept.of_below hB).step hUk (fun _ _ h=>h)).setCell (a:=⟨w.heap.size,0,none⟩) (fun h9=>absurd h9 (Nat.lt_irrefl _))).setCell (a:=⟨w.heap.size,1,none⟩) (fun h9=>absurd h9 (Nat.lt_irrefl _))).setCell (a:=⟨w.heap.size,2,none⟩) (fun h9=>absurd h9 (Nat.lt_irrefl _))
  have hFb:F.heap[rb]?=some (rdO { X with wv:=.slice (some ⟨b,o+3,none⟩) n (cap - 1) } st.levels st.starts st.pl st.err):=by
   rw [← hF,Below.heap_setCell _ _ _ _ n2,Below.heap_setCell _ _ _ _ n2,Below.heap_setCell _ _ _ _ n2];exact hUb
  have hws:WsV T F (.slice (some ⟨b,o+3,none⟩) n (cap - 1)) st.ws.tail:=by
   have:=h.words
   rw [hwv] at this;exact this.tail.keep (h.chg1 hFk)
  have hP:Hid (∃ wv,Mov B T w rb X (st.take true) F wv):=hid ⟨.slice (some ⟨b,o+3,none⟩) n (cap - 1),h.put (hFk.mono (fun _ _ e=>.inl e)) hFb hws (h.wf.tail hn2) rfl rfl rfl rfl rfl rfl rfl id rfl rfl rfl rfl rfl rfl rfl rfl rfl,hFk⟩;obtain ⟨v0,v1,v2,-,-⟩:=rd3 hUv;rw [hF] at q6 q7 q8;clear h h2 hUk hUb hUr hUv hFk hFb hws hwv hr1 hr2 hv2 hB hB1 hB2 hm;generalize st.hd=H at *;obtain ⟨hk,hp,ht⟩:=H;dsimp only at *;go_enter Tryz.func124,Tryz.ntmps124
  go_wp2;refine bodyPost_ret (v:=wdA (hk,hp,ht)) (by simp [results,Tryz.results124,go_sem,q6,q7,q8]) rfl ⟨rfl,?_⟩;exact hP.out
 | false =>
  have GG:=hid (a7Q h2 st.hd.2.1 1 (by decide))
  have hfin:Hid (∀ U,Mov B T W2 rb X (st.give st.hd.2.1 1) U X.wv→U.heap[w.heap.size]?=some (.cells #[.int .i64 0,.int .i64 0,.string ⟨#[]⟩] 90 (0,0))∧U.heap[w.heap.size+1]?=some (s_ st.hd)∧∃ wv,Mov B T w rb X (st.take false) (((U.setCell ⟨w.heap.size,0,none⟩ (.int .i64 (st.hd.1:Int))).setCell ⟨w.heap.size,1,none⟩ (.int .i64 (st.hd.2.1:Int))).setCell ⟨w.heap.size,2,none⟩ (.string (e_ st.hd.2.2))) wv):=hid (fun U hU=>by
   refine ⟨hU.kept.blk hr2 (fun e=>n2 (show w.heap.size=rb from e).symm),hU.kept.blk hv2 (fun e=>n1 (show w.heap.size+1=rb from e).symm),X.wv,?_⟩;have hFk:=((((Kept.of_below hB).step hU.kept (fun _ _ h=>h)).setCell (a:=⟨w.heap.size,0,none⟩) (v:=.int .i64 (st.hd.1:Int)) (fun h9=>absurd h9 (Nat.lt_irrefl _))).setCell (a:=⟨w.heap.size,1,none⟩) (v:=.int .i64 (st.hd.2.1:Int)) (fun h9=>absurd h9 (Nat.lt_irrefl _))).setCell (a:=⟨w.heap.size,2,none⟩) (v:=.string (e_ st.hd.2.2)) (fun h9=>absurd h9 (Nat.lt_irrefl _));refine ⟨h.put (hFk.mono (fun _ _ e=>.inl e)) ?_ ?_ ?_ ?_ ?_ ?_ ?_ ?_ ?_ ?_ ?_ rfl rfl rfl rfl rfl rfl rfl rfl rfl,hFk⟩
   · rw [Below.heap_setCell _ _ _ _ n2,Below.heap_setCell _ _ _ _ n2,Below.heap_setCell _ _ _ _ n2]
     exact hU.rd.blk
   · have e9:(st.take false).ws=st.ws:=RS.give_ws st _ _
     rw [e9];exact h.ws1 hFk
   · have e9:(st.take false).ws=st.ws:=RS.give_ws st _ _
     rw [e9];exact h.wf
   all_goals (unfold RS.take RS.give;rw [if_neg (by decide)];split <;> (try rfl))
   · intro e9;exact absurd (show (1:Int)=0 from e9) (by decide)
   · exact id)
  obtain ⟨u0,u1,u2,-,-⟩:=rd3 hv2;clear h h2 hwv hr1 hr2 hv2 hB hB1 hB2 hm c0';generalize hX9:X.wv=wv9 at *;generalize hS9:st.give st.hd.2.1 1=st9 at *;generalize hT9:st.take false=st8 at *;clear hS9 hT9 hX9;generalize st.hd=H at *;obtain ⟨hk,hp,ht⟩:=H;dsimp only at *;go_enter Tryz.func124,Tryz.ntmps124
  go_wp2_with (go_at_call 66;refine GG.out.mono ?_;clear GG;rintro e U ⟨rfl,hM⟩;obtain ⟨hUr,hUv,hP⟩:=hfin.out U hM;clear hfin hM;have hP:=hid hP;obtain ⟨⟨q0,q1⟩,⟨q2,q3⟩,⟨q4,q5⟩,q6,q7,q8⟩:=a6a hUr (.int .i64 (hk:Int)) (.int .i64 (hp:Int)) (.string (e_ ht));obtain ⟨v0,v1,v2,-,-⟩:=rd3 hUv;clear hUr hUv)
  refine bodyPost_ret (v:=wdA (hk,hp,ht)) (by simp [results,Tryz.results124,go_sem,q6,q7,q8]) rfl ⟨rfl,?_⟩;exact hP.out
theorem RS.atN_hd {st:RS} (h:st.atN=true):st.hd.1≠0:=fun e=>by
 unfold RS.atN at h;rw [e] at h;cases h
theorem RS.atS_hd {st:RS} {t:Txt} (h:st.atS t=true):st.hd.1≠0:=fun e=>by
 unfold RS.atS at h;rw [e] at h;cases h
set_option maxRecDepth 20000 in
set_option maxHeartbeats 4000000 in
theorem b8D {B rb:Nat} {T:Nat→Nat} {w:World} {X:RX} {st:RS} (h:RdV B T w rb X st) (u:Txt) :
 Calls Tryz.prog 127 #[r_ rb,.string (e_ u)] w fun r w'=>r=.returned (.tuple #[])∧∃ wv,Mov B T w rb X (st.tkS u) w' wv:=by
 have G1:=hid (c0R h u);have G2:=hid (fun x (hx:Below w.heap.size w x)=>a7d (h.keep hx) (st.atS u) (fun e=>RS.atS_hd e))
 have G3:Hid (∀ x,Below w.heap.size w x→∀ w',(∃ wv,Mov B T x rb X (st.take (st.atS u)) w' wv)→∃ wv,Mov B T w rb X (st.tkS u) w' wv):=hid (fun x hx w' h9=>by
  obtain ⟨wv,h9⟩:=h9;exact ⟨wv,h9.below hx⟩)
 clear h;generalize st.take (st.atS u)=st1 at *;generalize st.tkS u=st2 at *;generalize st.atS u=bb at *;generalize e_ u=U at *;generalize st.hd=H at *;obtain ⟨hk,hp,ht⟩:=H;go_enter Tryz.func127,Tryz.ntmps127
 go_wp2_with (first
  | (go_at_call 139;refine G1.out.mono ?_;clear G1;rintro e w1 ⟨rfl,hc⟩;have hc:=hid hc)
  | (go_at_call 124;refine (G2.out _ hc.out).mono ?_;clear G2;rintro e w2 ⟨rfl,hd⟩;have hd:=hid (G3.out _ hc.out _ hd)))
 go_end0
 exact ⟨rfl,hd.out⟩
theorem Mov.res {B rb q:Nat} {T:Nat→Nat} {w W1 x U:World} {X:RX} {st0 st:RS} {wv v0 v1 v2:Value} (h:RdV B T w rb X st0) (hB:Below w.heap.size w W1) (hq:w.heap.size=q) (hx:Below W1.heap.size W1 x) (h9:Mov B (a0x T q 77) x rb X st U wv) :
 Mov B T w rb X st (((U.setCell ⟨q,0,none⟩ v0).setCell ⟨q,1,none⟩ v1).setCell ⟨q,2,none⟩ v2) wv:=by
 subst hq;have hF:∀ u,Kept (f_ w.heap.size) u (((u.setCell ⟨w.heap.size,0,none⟩ v0).setCell ⟨w.heap.size,1,none⟩ v1).setCell ⟨w.heap.size,2,none⟩ v2):=fun u=>(((Kept.refl (f_ w.heap.size) u).setCell (a:=⟨w.heap.size,0,none⟩) (fun _=>rfl)).setCell (a:=⟨w.heap.size,1,none⟩) (fun _=>rfl)).setCell (a:=⟨w.heap.size,2,none⟩) (fun _=>rfl)
 refine ⟨h9.rd.wrote (hF U) (h.fresh (Nat.le_refl _)),?_⟩;exact ((Kept.of_below (a_ hB hx)).step h9.kept (fun _ _ h=>h)).step (hF U) (fun k hk e=>absurd hk (by rw [show k=w.heap.size from e];exact Nat.lt_irrefl _))
set_option maxRecDepth 20000 in
set_option maxHeartbeats 4000000 in
theorem b8E {B rb:Nat} {T:Nat→Nat} {w:World} {X:RX} {st:RS} (h:RdV B T w rb X st) :
 Calls Tryz.prog 125 #[r_ rb] w fun r w'=>r=.returned (wdA st.hd)∧∃ wv,Mov B T w rb X st.tkN w' wv:=by
 obtain ⟨W1,hW1⟩:∃ x,w.alloc (.cells #[.int .i64 0,.int .i64 0,.string ⟨#[]⟩] 90)=x:=⟨_,rfl⟩;have hz1:W1.heap.size=w.heap.size+1:=by rw [← hW1];exact World.size_alloc ..
 have hB1:Below w.heap.size w W1:=by rw [← hW1];exact al' w _
 have hr1:W1.heap[w.heap.size]?=some (.cells #[.int .i64 0,.int .i64 0,.string ⟨#[]⟩] 90 (0,0)):=by rw [← hW1];exact b_ w _
 have hrb:=u_ h.blk;have n2:rb≠w.heap.size:=by omega
 obtain ⟨h1,-⟩:=h.aside (q:=w.heap.size) hB1 (Nat.le_refl _) (by omega);have G1:=hid (c0S h1);have G2:=hid (fun x (hx:Below W1.heap.size W1 x)=>a7d (h1.keep hx) st.atN (fun e=>RS.atN_hd e))
 have G3:Hid (∀ x,Below W1.heap.size W1 x→∀ U,(∃ wv,Mov B (a0x T w.heap.size 77) x rb X (st.take st.atN) U wv)→U.heap[w.heap.size]?=some (.cells #[.int .i64 0,.int .i64 0,.string ⟨#[]⟩] 90 (0,0))∧∃ wv,Mov B T w rb X st.tkN (((U.setCell ⟨w.heap.size,0,none⟩ (.int .i64 (st.hd.1:Int))).setCell ⟨w.heap.size,1,none⟩ (.int .i64 (st.hd.2.1:Int))).setCell ⟨w.heap.size,2,none⟩ (.string (e_ st.hd.2.2))) wv):=hid (fun x hx U h9=>by
  obtain ⟨wv,h9⟩:=h9;exact ⟨h9.kept.blk (g_ hr1 hx) (fun e=>n2 (show w.heap.size=rb from e).symm),wv,Mov.res h hB1 rfl hx h9⟩)
 clear h h1 hB1 hr1 hz1 hrb n2;generalize st.take st.atN=st1 at *;generalize st.tkN=st2 at *;generalize st.atN=bb at *;generalize a0x T w.heap.size 77=T2 at *;generalize st.hd=H at *;obtain ⟨hk,hp,ht⟩:=H;dsimp only at *;go_enter Tryz.func125,Tryz.ntmps125
 go_wp2_with (first
  | (go_at_call 136;refine G1.out.mono ?_;clear G1;rintro e w1 ⟨rfl,hc⟩;have hc:=hid hc)
  | (go_at_call 124;refine (G2.out _ hc.out).mono ?_;clear G2;rintro e U ⟨rfl,hd⟩;obtain ⟨hUr,hP⟩:=G3.out _ hc.out _ hd;clear hd;have hP:=hid hP;obtain ⟨⟨q0,q1⟩,⟨q2,q3⟩,⟨q4,q5⟩,q6,q7,q8⟩:=a6a hUr (.int .i64 (hk:Int)) (.int .i64 (hp:Int)) (.string (e_ ht));clear hUr G3))
 refine bodyPost_ret (v:=wdA (hk,hp,ht)) (by simp [results,Tryz.results125,go_sem,q6,q7,q8]) rfl ⟨rfl,?_⟩;exact hP.out
set_option maxRecDepth 20000 in
theorem Tryz.infSt:(Tryz.prog.info? 131).map (fun i=>(i.zero,i.size,i.bytes))=some (some (.agg #[.int .i64 0,.nilFunc]),2,16):=by kernel_rfl
def a4H (T:Nat→Nat) (v:Value) (i:Nat):Nat→Nat:=fun b=>if v.ownBlock=some b then i else T b
set_option maxRecDepth 20000 in
theorem a0p {tS ty tE:TypeId} {i0:TypeInfo} {z:Value} {sz bytes:Nat} (ht:Tryz.prog.underlying tS=some (.slice tE)) (hi:Tryz.prog.info? tE=some i0) (hz:i0.zero=some z) (hs:i0.size=sz) (hb:i0.bytes=bytes) (hzs:z.cells.size=sz) (hsz:0<sz)
 {w:World} {B i n:Nat} {T:Nat→Nat} {v:Value} {xs:List Value} (h:OwnI w B T i tE sz v n xs) (ys:Array Value) (hys:ys.size=sz) (h1:∀ u∈ys.toList,u.oneCell'=true) (hn:n≤100000) (hbn:bytes≤1000) (hB:B≤w.heap.size) (hfr:∀ b,w.heap.size≤b→T b=0) :
 ∃ a c w',(Builtin.append_ #[tS,tS] ty #[v,.slice (some ⟨w.heap.size,0,none⟩) 1 1]).run Tryz.prog (w.alloc (.cells ys tE))=.ok (.slice a (n+1) c) w'∧OwnI w' B (a4H T (.slice a (n+1) c) i) i tE sz (.slice a (n+1) c) (n+1) (xs++ys.toList)∧Kept (fun b=>v.ownBlock=some b) w w' ∧
  (∀ b,b<w.heap.size→a4H T (.slice a (n+1) c) i b=T b)∧(∀ b,a4H T (.slice a (n+1) c) i b≠0→T b≠0∨B≤b∧b<w'.heap.size):=by
 have hal:=al' w (.cells ys tE);have hO:=j_ h.1 hal
 obtain ⟨v',w',hr,hO',hg,-,hat⟩:=run_append_own_at (P:=Tryz.prog) (w:=w.alloc (.cells ys tE)) B tS ty tE i0 z sz bytes ht hi hz hs hb hzs hsz v n xs hO ⟨w.heap.size,0,none⟩ 1 1 ys.toList (by rw [Array.length_toList,hys,Nat.one_mul]) (fun j u hj=>by
  have ea:(⟨w.heap.size,0,none⟩:Addr).add j=⟨w.heap.size,j,none⟩:=by rw [Go.WideShapes.add_plain,Nat.zero_add]
  rw [ea];exact c_ (b_ w _) (by rw [← hj];simp)) h1 (by unfold maxLen;omega) (by have:=Nat.mul_le_mul (show n+1≤100001 by omega) hbn;omega) (Nat.le_trans hB hal.size)
 obtain ⟨a,c,rfl⟩:=p_ hO';have hsz1:w.heap.size<(w.alloc (.cells ys tE)).heap.size:=by rw [World.size_alloc];omega
 have hk:Kept (fun b=>v.ownBlock=some b) w w':=(Kept.of_below hal).step (Kept.of_grown hg) (fun _ _ h=>h)
 have hold:∀ b,b<w.heap.size→a4H T (.slice a (n+1) c) i b=T b:=fun b hb9=>by
  unfold a4H;split
  · rename_i e
    rcases hat with h9 | h9
    · rw [e] at h9
      exact (h.2 b h9.symm).symm
    · rw [e] at h9
      injection h9 with h9;omega
  · rfl
 refine ⟨a,c,w',hr,⟨hO',fun b e=>if_pos e⟩,hk,hold,fun b hn9=>?_⟩;rcases Nat.lt_or_ge b w.heap.size with h9 | h9
 · rw [hold b h9] at hn9
   exact .inl hn9
 · refine .inr ⟨Nat.le_trans hB h9,?_⟩
   unfold a4H at hn9;split at hn9
   · rename_i e
     exact (hO'.lt b e).2
   · exact absurd (hfr b h9) hn9
theorem a3y {α β:Type} (l:List α) (m:List β) (a:α) (b:β) (h:m.length=l.length):(l++[a]).zip (m++[b])=l.zip m++[(a,b)]:=by rw [List.zip_append h.symm];rfl
theorem c3M (t:Txt) (b:Bool) {v:Value} (h:v.oneCell'=true):∀ u∈(#[.string (e_ t),v,.bool b]:Array Value).toList,u.oneCell'=true:=fun u hu=>by
 simp at hu
 rcases hu with rfl | rfl | rfl
 · rfl
 · exact h
 · rfl
theorem c3L (n:Int) {v:Value} (h:v.oneCell'=true):∀ u∈(#[.int .i64 n,v]:Array Value).toList,u.oneCell'=true:=fun u hu=>by
 simp at hu
 rcases hu with rfl | rfl
 · rfl
 · exact h
theorem b9o (x:Wd):∀ u∈(#[.int .i64 (x.1:Int),.int .i64 (x.2.1:Int),.string (e_ x.2.2)]:Array Value).toList,u.oneCell'=true:=fun u hu=>by
 simp at hu
 rcases hu with rfl | rfl | rfl <;> rfl
set_option maxRecDepth 20000 in
theorem RdV.app_rules {B rb:Nat} {T:Nat→Nat} {w:World} {X:RX} {st:RS} (h:RdV B T w rb X st) (r:Rl) (v:Value) (hv:RuC T w st.err v r.re) (h1v:v.oneCell'=true) (hn:st.rules.length≤100000) :
 ∃ a c w',(Builtin.append_ #[22,22] 22 #[X.rv,.slice (some ⟨w.heap.size,0,none⟩) 1 1]).run Tryz.prog (w.alloc (.cells #[.string (e_ r.name),v,.bool r.skip] 62))=.ok (.slice a (st.rules.length+1) c) w'∧w'.heap[rb]?=w.heap[rb]? ∧
  ∃ T' X',RdV B T' (w'.setCell ⟨rb,1,none⟩ (.slice a (st.rules.length+1) c)) rb X' (st.addR r)∧Chg T T' w (w'.setCell ⟨rb,1,none⟩ (.slice a (st.rules.length+1) c)):=by
 obtain ⟨i0,hi0,za,zb,zc⟩:=info_parts Tryz.infRl;obtain ⟨a,c,w',hrun,hO,hk,hold,hown⟩:=a0p (tS:=22) (ty:=22) Tryz.underlying22 hi0 za zb zc rfl (by decide) h.rules #[.string (e_ r.name),v,.bool r.skip] rfl (c3M r.name r.skip h1v) hn (by decide) h.base (fun b hb=>h.fresh hb);have hrb:=u_ h.blk;have hnr:∀ b,X.rv.ownBlock=some b→T b=1:=h.rules.2;have hbk:w'.heap[rb]?=w.heap[rb]?:=hk.block rb hrb (fun e=>by have:=hnr rb e;rw [h.rt] at this;cases this);refine ⟨a,c,w',hrun,hbk,a4H T (.slice a (st.rules.length+1) c) 1,{ X with rv:=.slice a (st.rules.length+1) c,rl:=X.rl++[v] },?_⟩;generalize hTT:a4H T (.slice a (st.rules.length+1) c) 1=T' at *;have hrt:T' rb=99:=(hold rb hrb).trans h.rt;have hkF:Kept (fun b=>X.rv.ownBlock=some b∨b=rb) w (w'.setCell ⟨rb,1,none⟩ (.slice a (st.rules.length+1) c)):=(hk.mono (fun _ _ e=>.inl e)).setCell (fun _=>.inr rfl)
 have hF:∀ j,j≠99→j≠1→∀ b,X.rv.ownBlock=some b∨b=rb→T b≠j:=fun j h9 h8 b e=>by
  rcases e with e | e
  · rw [hnr b e];exact h8.symm
  · rw [e,h.rt];exact h9.symm
 have hc:Chg T T' w (w'.setCell ⟨rb,1,none⟩ (.slice a (st.rules.length+1) c)):=⟨hkF.mono (fun b _ e=>by
  rcases e with e | e
  · rw [hnr b e];decide
  · rw [show b=rb from e,h.rt];decide),hold⟩
 have hsz:(w'.setCell ⟨rb,1,none⟩ (.slice a (st.rules.length+1) c)).heap.size=w'.heap.size:=by simp
 have hown2:(w'.setCell ⟨rb,1,none⟩ (.slice a (st.rules.length+1) c)).ownsRow B 62 3 (.slice a (st.rules.length+1) c) (st.rules.length+1) _:=a0z hO.1 (fun e=>by have:=hO.2 rb e;rw [hrt] at this;cases this);have hblk:(w'.setCell ⟨rb,1,none⟩ (.slice a (st.rules.length+1) c)).heap[rb]?=_:=heap_setCell (hbk.trans h.blk)
 refine ⟨⟨hblk,hrt,fun b hn9=>?_,by rw [hsz];exact Nat.le_trans h.base hk.size,h.words.keep hc,h.wf,?_,(by show (X.rl++[v]).length=(st.rules++[r]).length;rw [List.length_append,List.length_append,h.rlen];rfl),(fun x hx=>by
  have hx:x∈(st.rules++[r]).zip (X.rl++[v]):=hx;rw [a3y _ _ _ _ h.rlen,List.mem_append,List.mem_singleton] at hx;rcases hx with hx | rfl
  · exact (h.rre x hx).keep hc
  · exact hv.keep hc),h.nonts.kept hkF (hF 2 (by decide) (by decide)) hold,h.prods.kept hkF (hF 4 (by decide) (by decide)) hold,h.skips.kept hkF (hF 8 (by decide) (by decide)) hold,h.terms.kept hkF (hF 9 (by decide) (by decide)) hold,h.nons.kept hkF (hF 10 (by decide) (by decide)) hold,h.later.kept hkF (hF 15 (by decide) (by decide)) hold,h.flen,(fun x hx=>(h.fst x hx).keep hc)⟩,hc⟩
 · rw [hsz]
   rcases hown b hn9 with h9 | h9
   · exact ⟨(h.own b h9).1,Nat.lt_of_lt_of_le (h.own b h9).2 hk.size⟩
   · exact h9
 · have e1:((st.rules++[r]).zip (X.rl++[v])).flatMap (fun x=>rlV x.1 x.2)=(st.rules.zip X.rl).flatMap (fun x=>rlV x.1 x.2)++[.string (e_ r.name),v,.bool r.skip]:=by rw [a3y _ _ _ _ h.rlen,List.flatMap_append,List.flatMap_singleton];rfl
   have e2:(st.rules++[r]).length=st.rules.length+1:=by rw [List.length_append];rfl
   refine ⟨?_,hO.2⟩
   show World.ownsRow _ _ _ _ _ (st.rules++[r]).length (((st.rules++[r]).zip (X.rl++[v])).flatMap (fun x=>rlV x.1 x.2))
   rw [e1,e2];exact hown2
set_option maxRecDepth 20000 in
theorem RdV.app_nonts {B rb:Nat} {T:Nat→Nat} {w:World} {X:RX} {st:RS} (h:RdV B T w rb X st) (t:Txt) (hn:st.nonts.length≤100000) :
 ∃ a c w',(Builtin.append_ #[23,23] 23 #[X.nv,.slice (some ⟨w.heap.size,0,none⟩) 1 1]).run Tryz.prog (w.alloc (.cells #[.string (e_ t)] 9))=.ok (.slice a (st.nonts.length+1) c) w'∧w'.heap[rb]?=w.heap[rb]? ∧
  ∃ T' X',RdV B T' (w'.setCell ⟨rb,2,none⟩ (.slice a (st.nonts.length+1) c)) rb X' (st.addN t)∧Chg T T' w (w'.setCell ⟨rb,2,none⟩ (.slice a (st.nonts.length+1) c)):=by
 obtain ⟨i0,hi0,za,zb,zc⟩:=info_parts Tryz.infoTx;obtain ⟨a,c,w',hrun,hO,hk,hold,hown⟩:=a0p (tS:=23) (ty:=23) Tryz.underlying23 hi0 za zb zc rfl (by decide) h.nonts #[.string (e_ t)] rfl (fun u hu=>by simp at hu;rw [hu];rfl) hn (by decide) h.base (fun b hb=>h.fresh hb);have hrb:=u_ h.blk;have hnr:∀ b,X.nv.ownBlock=some b→T b=2:=h.nonts.2;have hbk:w'.heap[rb]?=w.heap[rb]?:=hk.block rb hrb (fun e=>by have:=hnr rb e;rw [h.rt] at this;cases this);refine ⟨a,c,w',hrun,hbk,a4H T (.slice a (st.nonts.length+1) c) 2,{ X with nv:=.slice a (st.nonts.length+1) c },?_⟩;generalize hTT:a4H T (.slice a (st.nonts.length+1) c) 2=T' at *;have hrt:T' rb=99:=(hold rb hrb).trans h.rt;have hkF:Kept (fun b=>X.nv.ownBlock=some b∨b=rb) w (w'.setCell ⟨rb,2,none⟩ (.slice a (st.nonts.length+1) c)):=(hk.mono (fun _ _ e=>.inl e)).setCell (fun _=>.inr rfl)
 have hF:∀ j,j≠99→j≠2→∀ b,X.nv.ownBlock=some b∨b=rb→T b≠j:=fun j h9 h8 b e=>by
  rcases e with e | e
  · rw [hnr b e];exact h8.symm
  · rw [e,h.rt];exact h9.symm
 have hc:Chg T T' w (w'.setCell ⟨rb,2,none⟩ (.slice a (st.nonts.length+1) c)):=⟨hkF.mono (fun b _ e=>by
  rcases e with e | e
  · rw [hnr b e];decide
  · rw [show b=rb from e,h.rt];decide),hold⟩
 have hsz:(w'.setCell ⟨rb,2,none⟩ (.slice a (st.nonts.length+1) c)).heap.size=w'.heap.size:=by simp
 have hown2:(w'.setCell ⟨rb,2,none⟩ (.slice a (st.nonts.length+1) c)).ownsRow B 9 1 (.slice a (st.nonts.length+1) c) (st.nonts.length+1) _:=a0z hO.1 (fun e=>by have:=hO.2 rb e;rw [hrt] at this;cases this);have hblk:(w'.setCell ⟨rb,2,none⟩ (.slice a (st.nonts.length+1) c)).heap[rb]?=_:=heap_setCell (hbk.trans h.blk);refine ⟨⟨hblk,hrt,fun b hn9=>?_,by rw [hsz];exact Nat.le_trans h.base hk.size,h.words.keep hc,h.wf,h.rules.kept hkF (hF 1 (by decide) (by decide)) hold,h.rlen,(fun x hx=>(h.rre x hx).keep hc),?_,h.prods.kept hkF (hF 4 (by decide) (by decide)) hold,h.skips.kept hkF (hF 8 (by decide) (by decide)) hold,h.terms.kept hkF (hF 9 (by decide) (by decide)) hold,h.nons.kept hkF (hF 10 (by decide) (by decide)) hold,h.later.kept hkF (hF 15 (by decide) (by decide)) hold,h.flen,(fun x hx=>(h.fst x hx).keep hc)⟩,hc⟩
 · rw [hsz]
   rcases hown b hn9 with h9 | h9
   · exact ⟨(h.own b h9).1,Nat.lt_of_lt_of_le (h.own b h9).2 hk.size⟩
   · exact h9
 · have e1:(st.nonts++[t]).flatMap csT=st.nonts.flatMap csT++[.string (e_ t)]:=by rw [List.flatMap_append,List.flatMap_singleton];rfl
   have e2:(st.nonts++[t]).length=st.nonts.length+1:=by rw [List.length_append];rfl
   refine ⟨?_,hO.2⟩
   show World.ownsRow _ _ _ _ _ (st.nonts++[t]).length ((st.nonts++[t]).flatMap csT)
   rw [e1,e2];exact hown2
set_option maxRecDepth 20000 in
theorem RdV.app_prods {B rb:Nat} {T:Nat→Nat} {w:World} {X:RX} {st:RS} (h:RdV B T w rb X st) (_:True) (hn:st.prods.length≤100000) :
 ∃ a c w',(Builtin.append_ #[25,25] 25 #[X.pv,.slice (some ⟨w.heap.size,0,none⟩) 1 1]).run Tryz.prog (w.alloc (.cells #[.int .i64 (st.nonts.length:Int),.slice none 0 0,.int .i64 0] 64))=.ok (.slice a (st.prods.length+1) c) w'∧w'.heap[rb]?=w.heap[rb]? ∧
  ∃ T' X',RdV B T' (w'.setCell ⟨rb,4,none⟩ (.slice a (st.prods.length+1) c)) rb X' (st.addP)∧Chg T T' w (w'.setCell ⟨rb,4,none⟩ (.slice a (st.prods.length+1) c)):=by
 obtain ⟨i0,hi0,za,zb,zc⟩:=info_parts Tryz.infPd;obtain ⟨a,c,w',hrun,hO,hk,hold,hown⟩:=a0p (tS:=25) (ty:=25) Tryz.underlying25 hi0 za zb zc rfl (by decide) h.prods #[.int .i64 (st.nonts.length:Int),.slice none 0 0,.int .i64 0] rfl (fun u hu=>by simp at hu;rcases hu with rfl | rfl | rfl <;> rfl) hn (by decide) h.base (fun b hb=>h.fresh hb);have hrb:=u_ h.blk;have hnr:∀ b,X.pv.ownBlock=some b→T b=4:=h.prods.2;have hbk:w'.heap[rb]?=w.heap[rb]?:=hk.block rb hrb (fun e=>by have:=hnr rb e;rw [h.rt] at this;cases this);refine ⟨a,c,w',hrun,hbk,a4H T (.slice a (st.prods.length+1) c) 4,{ X with pv:=.slice a (st.prods.length+1) c },?_⟩;generalize hTT:a4H T (.slice a (st.prods.length+1) c) 4=T' at *;have hrt:T' rb=99:=(hold rb hrb).trans h.rt;have hkF:Kept (fun b=>X.pv.ownBlock=some b∨b=rb) w (w'.setCell ⟨rb,4,none⟩ (.slice a (st.prods.length+1) c)):=(hk.mono (fun _ _ e=>.inl e)).setCell (fun _=>.inr rfl)
 have hF:∀ j,j≠99→j≠4→∀ b,X.pv.ownBlock=some b∨b=rb→T b≠j:=fun j h9 h8 b e=>by
  rcases e with e | e
  · rw [hnr b e];exact h8.symm
  · rw [e,h.rt];exact h9.symm
 have hc:Chg T T' w (w'.setCell ⟨rb,4,none⟩ (.slice a (st.prods.length+1) c)):=⟨hkF.mono (fun b _ e=>by
  rcases e with e | e
  · rw [hnr b e];decide
  · rw [show b=rb from e,h.rt];decide),hold⟩
 have hsz:(w'.setCell ⟨rb,4,none⟩ (.slice a (st.prods.length+1) c)).heap.size=w'.heap.size:=by simp
 have hown2:(w'.setCell ⟨rb,4,none⟩ (.slice a (st.prods.length+1) c)).ownsRow B 64 3 (.slice a (st.prods.length+1) c) (st.prods.length+1) _:=a0z hO.1 (fun e=>by have:=hO.2 rb e;rw [hrt] at this;cases this);have hblk:(w'.setCell ⟨rb,4,none⟩ (.slice a (st.prods.length+1) c)).heap[rb]?=_:=heap_setCell (hbk.trans h.blk);refine ⟨⟨hblk,hrt,fun b hn9=>?_,by rw [hsz];exact Nat.le_trans h.base hk.size,h.words.keep hc,h.wf,h.rules.kept hkF (hF 1 (by decide) (by decide)) hold,h.rlen,(fun x hx=>(h.rre x hx).keep hc),h.nonts.kept hkF (hF 2 (by decide) (by decide)) hold,?_,h.skips.kept hkF (hF 8 (by decide) (by decide)) hold,h.terms.kept hkF (hF 9 (by decide) (by decide)) hold,h.nons.kept hkF (hF 10 (by decide) (by decide)) hold,h.later.kept hkF (hF 15 (by decide) (by decide)) hold,h.flen,(fun x hx=>(h.fst x hx).keep hc)⟩,hc⟩
 · rw [hsz]
   rcases hown b hn9 with h9 | h9
   · exact ⟨(h.own b h9).1,Nat.lt_of_lt_of_le (h.own b h9).2 hk.size⟩
   · exact h9
 · have e1:(st.prods++[st.nonts.length]).flatMap pdV=st.prods.flatMap pdV++[.int .i64 (st.nonts.length:Int),.slice none 0 0,.int .i64 0]:=by rw [List.flatMap_append,List.flatMap_singleton];rfl
   have e2:(st.prods++[st.nonts.length]).length=st.prods.length+1:=by rw [List.length_append];rfl
   refine ⟨?_,hO.2⟩
   show World.ownsRow _ _ _ _ _ (st.prods++[st.nonts.length]).length ((st.prods++[st.nonts.length]).flatMap pdV)
   rw [e1,e2];exact hown2
set_option maxRecDepth 20000 in
theorem RdV.app_skips {B rb:Nat} {T:Nat→Nat} {w:World} {X:RX} {st:RS} (h:RdV B T w rb X st) (x:Wd) (hn:st.skips.length≤100000) :
 ∃ a c w',(Builtin.append_ #[86,86] 86 #[X.sk,.slice (some ⟨w.heap.size,0,none⟩) 1 1]).run Tryz.prog (w.alloc (.cells #[.int .i64 (x.1:Int),.int .i64 (x.2.1:Int),.string (e_ x.2.2)] 90))=.ok (.slice a (st.skips.length+1) c) w'∧w'.heap[rb]?=w.heap[rb]? ∧
  ∃ T' X',RdV B T' (w'.setCell ⟨rb,8,none⟩ (.slice a (st.skips.length+1) c)) rb X' (st.addW x true)∧Chg T T' w (w'.setCell ⟨rb,8,none⟩ (.slice a (st.skips.length+1) c)):=by
 obtain ⟨i0,hi0,za,zb,zc⟩:=info_parts Tryz.infoWd;obtain ⟨a,c,w',hrun,hO,hk,hold,hown⟩:=a0p (tS:=86) (ty:=86) Tryz.underlying86 hi0 za zb zc rfl (by decide) h.skips #[.int .i64 (x.1:Int),.int .i64 (x.2.1:Int),.string (e_ x.2.2)] rfl (b9o x) hn (by decide) h.base (fun b hb=>h.fresh hb);have hrb:=u_ h.blk;have hnr:∀ b,X.sk.ownBlock=some b→T b=8:=h.skips.2;have hbk:w'.heap[rb]?=w.heap[rb]?:=hk.block rb hrb (fun e=>by have:=hnr rb e;rw [h.rt] at this;cases this);refine ⟨a,c,w',hrun,hbk,a4H T (.slice a (st.skips.length+1) c) 8,{ X with sk:=.slice a (st.skips.length+1) c },?_⟩;generalize hTT:a4H T (.slice a (st.skips.length+1) c) 8=T' at *;have hrt:T' rb=99:=(hold rb hrb).trans h.rt;have hkF:Kept (fun b=>X.sk.ownBlock=some b∨b=rb) w (w'.setCell ⟨rb,8,none⟩ (.slice a (st.skips.length+1) c)):=(hk.mono (fun _ _ e=>.inl e)).setCell (fun _=>.inr rfl)
 have hF:∀ j,j≠99→j≠8→∀ b,X.sk.ownBlock=some b∨b=rb→T b≠j:=fun j h9 h8 b e=>by
  rcases e with e | e
  · rw [hnr b e];exact h8.symm
  · rw [e,h.rt];exact h9.symm
 have hc:Chg T T' w (w'.setCell ⟨rb,8,none⟩ (.slice a (st.skips.length+1) c)):=⟨hkF.mono (fun b _ e=>by
  rcases e with e | e
  · rw [hnr b e];decide
  · rw [show b=rb from e,h.rt];decide),hold⟩
 have hsz:(w'.setCell ⟨rb,8,none⟩ (.slice a (st.skips.length+1) c)).heap.size=w'.heap.size:=by simp
 have hown2:(w'.setCell ⟨rb,8,none⟩ (.slice a (st.skips.length+1) c)).ownsRow B 90 3 (.slice a (st.skips.length+1) c) (st.skips.length+1) _:=a0z hO.1 (fun e=>by have:=hO.2 rb e;rw [hrt] at this;cases this);have hblk:(w'.setCell ⟨rb,8,none⟩ (.slice a (st.skips.length+1) c)).heap[rb]?=_:=heap_setCell (hbk.trans h.blk);refine ⟨⟨hblk,hrt,fun b hn9=>?_,by rw [hsz];exact Nat.le_trans h.base hk.size,h.words.keep hc,h.wf,h.rules.kept hkF (hF 1 (by decide) (by decide)) hold,h.rlen,(fun x hx=>(h.rre x hx).keep hc),h.nonts.kept hkF (hF 2 (by decide) (by decide)) hold,h.prods.kept hkF (hF 4 (by decide) (by decide)) hold,?_,h.terms.kept hkF (hF 9 (by decide) (by decide)) hold,h.nons.kept hkF (hF 10 (by decide) (by decide)) hold,h.later.kept hkF (hF 15 (by decide) (by decide)) hold,h.flen,(fun x hx=>(h.fst x hx).keep hc)⟩,hc⟩
 · rw [hsz]
   rcases hown b hn9 with h9 | h9
   · exact ⟨(h.own b h9).1,Nat.lt_of_lt_of_le (h.own b h9).2 hk.size⟩
   · exact h9
 · have e1:(st.skips++[x]).flatMap wdV=st.skips.flatMap wdV++[.int .i64 (x.1:Int),.int .i64 (x.2.1:Int),.string (e_ x.2.2)]:=by rw [List.flatMap_append,List.flatMap_singleton];rfl
   have e2:(st.skips++[x]).length=st.skips.length+1:=by rw [List.length_append];rfl
   refine ⟨?_,hO.2⟩
   show World.ownsRow _ _ _ _ _ (st.skips++[x]).length ((st.skips++[x]).flatMap wdV)
   rw [e1,e2];exact hown2
set_option maxRecDepth 20000 in
theorem RdV.app_terms {B rb:Nat} {T:Nat→Nat} {w:World} {X:RX} {st:RS} (h:RdV B T w rb X st) (x:Wd) (hn:st.terms.length≤100000) :
 ∃ a c w',(Builtin.append_ #[86,86] 86 #[X.te,.slice (some ⟨w.heap.size,0,none⟩) 1 1]).run Tryz.prog (w.alloc (.cells #[.int .i64 (x.1:Int),.int .i64 (x.2.1:Int),.string (e_ x.2.2)] 90))=.ok (.slice a (st.terms.length+1) c) w'∧w'.heap[rb]?=w.heap[rb]? ∧
  ∃ T' X',RdV B T' (w'.setCell ⟨rb,9,none⟩ (.slice a (st.terms.length+1) c)) rb X' (st.addW x false)∧Chg T T' w (w'.setCell ⟨rb,9,none⟩ (.slice a (st.terms.length+1) c)):=by
 obtain ⟨i0,hi0,za,zb,zc⟩:=info_parts Tryz.infoWd;obtain ⟨a,c,w',hrun,hO,hk,hold,hown⟩:=a0p (tS:=86) (ty:=86) Tryz.underlying86 hi0 za zb zc rfl (by decide) h.terms #[.int .i64 (x.1:Int),.int .i64 (x.2.1:Int),.string (e_ x.2.2)] rfl (b9o x) hn (by decide) h.base (fun b hb=>h.fresh hb);have hrb:=u_ h.blk;have hnr:∀ b,X.te.ownBlock=some b→T b=9:=h.terms.2;have hbk:w'.heap[rb]?=w.heap[rb]?:=hk.block rb hrb (fun e=>by have:=hnr rb e;rw [h.rt] at this;cases this);refine ⟨a,c,w',hrun,hbk,a4H T (.slice a (st.terms.length+1) c) 9,{ X with te:=.slice a (st.terms.length+1) c },?_⟩;generalize hTT:a4H T (.slice a (st.terms.length+1) c) 9=T' at *;have hrt:T' rb=99:=(hold rb hrb).trans h.rt;have hkF:Kept (fun b=>X.te.ownBlock=some b∨b=rb) w (w'.setCell ⟨rb,9,none⟩ (.slice a (st.terms.length+1) c)):=(hk.mono (fun _ _ e=>.inl e)).setCell (fun _=>.inr rfl)
 have hF:∀ j,j≠99→j≠9→∀ b,X.te.ownBlock=some b∨b=rb→T b≠j:=fun j h9 h8 b e=>by
  rcases e with e | e
  · rw [hnr b e];exact h8.symm
  · rw [e,h.rt];exact h9.symm
 have hc:Chg T T' w (w'.setCell ⟨rb,9,none⟩ (.slice a (st.terms.length+1) c)):=⟨hkF.mono (fun b _ e=>by
  rcases e with e | e
  · rw [hnr b e];decide
  · rw [show b=rb from e,h.rt];decide),hold⟩
 have hsz:(w'.setCell ⟨rb,9,none⟩ (.slice a (st.terms.length+1) c)).heap.size=w'.heap.size:=by simp
 have hown2:(w'.setCell ⟨rb,9,none⟩ (.slice a (st.terms.length+1) c)).ownsRow B 90 3 (.slice a (st.terms.length+1) c) (st.terms.length+1) _:=a0z hO.1 (fun e=>by have:=hO.2 rb e;rw [hrt] at this;cases this);have hblk:(w'.setCell ⟨rb,9,none⟩ (.slice a (st.terms.length+1) c)).heap[rb]?=_:=heap_setCell (hbk.trans h.blk);refine ⟨⟨hblk,hrt,fun b hn9=>?_,by rw [hsz];exact Nat.le_trans h.base hk.size,h.words.keep hc,h.wf,h.rules.kept hkF (hF 1 (by decide) (by decide)) hold,h.rlen,(fun x hx=>(h.rre x hx).keep hc),h.nonts.kept hkF (hF 2 (by decide) (by decide)) hold,h.prods.kept hkF (hF 4 (by decide) (by decide)) hold,h.skips.kept hkF (hF 8 (by decide) (by decide)) hold,?_,h.nons.kept hkF (hF 10 (by decide) (by decide)) hold,h.later.kept hkF (hF 15 (by decide) (by decide)) hold,h.flen,(fun x hx=>(h.fst x hx).keep hc)⟩,hc⟩
 · rw [hsz]
   rcases hown b hn9 with h9 | h9
   · exact ⟨(h.own b h9).1,Nat.lt_of_lt_of_le (h.own b h9).2 hk.size⟩
   · exact h9
 · have e1:(st.terms++[x]).flatMap wdV=st.terms.flatMap wdV++[.int .i64 (x.1:Int),.int .i64 (x.2.1:Int),.string (e_ x.2.2)]:=by rw [List.flatMap_append,List.flatMap_singleton];rfl
   have e2:(st.terms++[x]).length=st.terms.length+1:=by rw [List.length_append];rfl
   refine ⟨?_,hO.2⟩
   show World.ownsRow _ _ _ _ _ (st.terms++[x]).length ((st.terms++[x]).flatMap wdV)
   rw [e1,e2];exact hown2
set_option maxRecDepth 20000 in
theorem RdV.app_nons {B rb:Nat} {T:Nat→Nat} {w:World} {X:RX} {st:RS} (h:RdV B T w rb X st) (x:Wd) (hn:st.nons.length≤100000) :
 ∃ a c w',(Builtin.append_ #[86,86] 86 #[X.no,.slice (some ⟨w.heap.size,0,none⟩) 1 1]).run Tryz.prog (w.alloc (.cells #[.int .i64 (x.1:Int),.int .i64 (x.2.1:Int),.string (e_ x.2.2)] 90))=.ok (.slice a (st.nons.length+1) c) w'∧w'.heap[rb]?=w.heap[rb]? ∧
  ∃ T' X',RdV B T' (w'.setCell ⟨rb,10,none⟩ (.slice a (st.nons.length+1) c)) rb X' (st.addO x)∧Chg T T' w (w'.setCell ⟨rb,10,none⟩ (.slice a (st.nons.length+1) c)):=by
 obtain ⟨i0,hi0,za,zb,zc⟩:=info_parts Tryz.infoWd;obtain ⟨a,c,w',hrun,hO,hk,hold,hown⟩:=a0p (tS:=86) (ty:=86) Tryz.underlying86 hi0 za zb zc rfl (by decide) h.nons #[.int .i64 (x.1:Int),.int .i64 (x.2.1:Int),.string (e_ x.2.2)] rfl (b9o x) hn (by decide) h.base (fun b hb=>h.fresh hb);have hrb:=u_ h.blk;have hnr:∀ b,X.no.ownBlock=some b→T b=10:=h.nons.2;have hbk:w'.heap[rb]?=w.heap[rb]?:=hk.block rb hrb (fun e=>by have:=hnr rb e;rw [h.rt] at this;cases this);refine ⟨a,c,w',hrun,hbk,a4H T (.slice a (st.nons.length+1) c) 10,{ X with no:=.slice a (st.nons.length+1) c },?_⟩;generalize hTT:a4H T (.slice a (st.nons.length+1) c) 10=T' at *;have hrt:T' rb=99:=(hold rb hrb).trans h.rt;have hkF:Kept (fun b=>X.no.ownBlock=some b∨b=rb) w (w'.setCell ⟨rb,10,none⟩ (.slice a (st.nons.length+1) c)):=(hk.mono (fun _ _ e=>.inl e)).setCell (fun _=>.inr rfl)
 have hF:∀ j,j≠99→j≠10→∀ b,X.no.ownBlock=some b∨b=rb→T b≠j:=fun j h9 h8 b e=>by
  rcases e with e | e
  · rw [hnr b e];exact h8.symm
  · rw [e,h.rt];exact h9.symm
 have hc:Chg T T' w (w'.setCell ⟨rb,10,none⟩ (.slice a (st.nons.length+1) c)):=⟨hkF.mono (fun b _ e=>by
  rcases e with e | e
  · rw [hnr b e];decide
  · rw [show b=rb from e,h.rt];decide),hold⟩
 have hsz:(w'.setCell ⟨rb,10,none⟩ (.slice a (st.nons.length+1) c)).heap.size=w'.heap.size:=by simp
 have hown2:(w'.setCell ⟨rb,10,none⟩ (.slice a (st.nons.length+1) c)).ownsRow B 90 3 (.slice a (st.nons.length+1) c) (st.nons.length+1) _:=a0z hO.1 (fun e=>by have:=hO.2 rb e;rw [hrt] at this;cases this);have hblk:(w'.setCell ⟨rb,10,none⟩ (.slice a (st.nons.length+1) c)).heap[rb]?=_:=heap_setCell (hbk.trans h.blk);refine ⟨⟨hblk,hrt,fun b hn9=>?_,by rw [hsz];exact Nat.le_trans h.base hk.size,h.words.keep hc,h.wf,h.rules.kept hkF (hF 1 (by decide) (by decide)) hold,h.rlen,(fun x hx=>(h.rre x hx).keep hc),h.nonts.kept hkF (hF 2 (by decide) (by decide)) hold,h.prods.kept hkF (hF 4 (by decide) (by decide)) hold,h.skips.kept hkF (hF 8 (by decide) (by decide)) hold,h.terms.kept hkF (hF 9 (by decide) (by decide)) hold,?_,h.later.kept hkF (hF 15 (by decide) (by decide)) hold,h.flen,(fun x hx=>(h.fst x hx).keep hc)⟩,hc⟩
 · rw [hsz]
   rcases hown b hn9 with h9 | h9
   · exact ⟨(h.own b h9).1,Nat.lt_of_lt_of_le (h.own b h9).2 hk.size⟩
   · exact h9
 · have e1:(st.nons++[x]).flatMap wdV=st.nons.flatMap wdV++[.int .i64 (x.1:Int),.int .i64 (x.2.1:Int),.string (e_ x.2.2)]:=by rw [List.flatMap_append,List.flatMap_singleton];rfl
   have e2:(st.nons++[x]).length=st.nons.length+1:=by rw [List.length_append];rfl
   refine ⟨?_,hO.2⟩
   show World.ownsRow _ _ _ _ _ (st.nons++[x]).length ((st.nons++[x]).flatMap wdV)
   rw [e1,e2];exact hown2
set_option maxRecDepth 20000 in
theorem RdV.app_later {B rb:Nat} {T:Nat→Nat} {w:World} {X:RX} {st:RS} (h:RdV B T w rb X st) (s:Stp) (v:Value) (hv:StpV T w rb v s) (hn:st.later.length≤100000) :
 ∃ a c w',(Builtin.append_ #[106,106] 106 #[X.la,.slice (some ⟨w.heap.size,0,none⟩) 1 1]).run Tryz.prog (w.alloc (.cells #[.int .i64 (s.w.2.1:Int),v] 131))=.ok (.slice a (st.later.length+1) c) w'∧w'.heap[rb]?=w.heap[rb]? ∧
  ∃ T' X',RdV B T' (w'.setCell ⟨rb,15,none⟩ (.slice a (st.later.length+1) c)) rb X' (st.thn s)∧Chg T T' w (w'.setCell ⟨rb,15,none⟩ (.slice a (st.later.length+1) c)):=by
 obtain ⟨i0,hi0,za,zb,zc⟩:=info_parts Tryz.infSt;obtain ⟨a,c,w',hrun,hO,hk,hold,hown⟩:=a0p (tS:=106) (ty:=106) Tryz.underlying106 hi0 za zb zc rfl (by decide) h.later #[.int .i64 (s.w.2.1:Int),v] rfl (c3L _ hv.oneCell) hn (by decide) h.base (fun b hb=>h.fresh hb);have hrb:=u_ h.blk;have hnr:∀ b,X.la.ownBlock=some b→T b=15:=h.later.2;have hbk:w'.heap[rb]?=w.heap[rb]?:=hk.block rb hrb (fun e=>by have:=hnr rb e;rw [h.rt] at this;cases this);refine ⟨a,c,w',hrun,hbk,a4H T (.slice a (st.later.length+1) c) 15,{ X with la:=.slice a (st.later.length+1) c,fl:=X.fl++[v] },?_⟩;generalize hTT:a4H T (.slice a (st.later.length+1) c) 15=T' at *;have hrt:T' rb=99:=(hold rb hrb).trans h.rt;have hkF:Kept (fun b=>X.la.ownBlock=some b∨b=rb) w (w'.setCell ⟨rb,15,none⟩ (.slice a (st.later.length+1) c)):=(hk.mono (fun _ _ e=>.inl e)).setCell (fun _=>.inr rfl)
 have hF:∀ j,j≠99→j≠15→∀ b,X.la.ownBlock=some b∨b=rb→T b≠j:=fun j h9 h8 b e=>by
  rcases e with e | e
  · rw [hnr b e];exact h8.symm
  · rw [e,h.rt];exact h9.symm
 have hc:Chg T T' w (w'.setCell ⟨rb,15,none⟩ (.slice a (st.later.length+1) c)):=⟨hkF.mono (fun b _ e=>by
  rcases e with e | e
  · rw [hnr b e];decide
  · rw [show b=rb from e,h.rt];decide),hold⟩
 have hsz:(w'.setCell ⟨rb,15,none⟩ (.slice a (st.later.length+1) c)).heap.size=w'.heap.size:=by simp
 have hown2:(w'.setCell ⟨rb,15,none⟩ (.slice a (st.later.length+1) c)).ownsRow B 131 2 (.slice a (st.later.length+1) c) (st.later.length+1) _:=a0z hO.1 (fun e=>by have:=hO.2 rb e;rw [hrt] at this;cases this);have hblk:(w'.setCell ⟨rb,15,none⟩ (.slice a (st.later.length+1) c)).heap[rb]?=_:=heap_setCell (hbk.trans h.blk)
 refine ⟨⟨hblk,hrt,fun b hn9=>?_,by rw [hsz];exact Nat.le_trans h.base hk.size,h.words.keep hc,h.wf,h.rules.kept hkF (hF 1 (by decide) (by decide)) hold,h.rlen,(fun x hx=>(h.rre x hx).keep hc),h.nonts.kept hkF (hF 2 (by decide) (by decide)) hold,h.prods.kept hkF (hF 4 (by decide) (by decide)) hold,h.skips.kept hkF (hF 8 (by decide) (by decide)) hold,h.terms.kept hkF (hF 9 (by decide) (by decide)) hold,h.nons.kept hkF (hF 10 (by decide) (by decide)) hold,?_,(by show (X.fl++[v]).length=(st.later++[s]).length;rw [List.length_append,List.length_append,h.flen];rfl),(fun x hx=>by
  have hx:x∈(st.later++[s]).zip (X.fl++[v]):=hx;rw [a3y _ _ _ _ h.flen,List.mem_append,List.mem_singleton] at hx;rcases hx with hx | rfl
  · exact (h.fst x hx).keep hc
  · exact hv.keep hc)⟩,hc⟩
 · rw [hsz]
   rcases hown b hn9 with h9 | h9
   · exact ⟨(h.own b h9).1,Nat.lt_of_lt_of_le (h.own b h9).2 hk.size⟩
   · exact h9
 · have e1:((st.later++[s]).zip (X.fl++[v])).flatMap (fun x=>spV x.1 x.2)=(st.later.zip X.fl).flatMap (fun x=>spV x.1 x.2)++[.int .i64 (s.w.2.1:Int),v]:=by rw [a3y _ _ _ _ h.flen,List.flatMap_append,List.flatMap_singleton];rfl
   have e2:(st.later++[s]).length=st.later.length+1:=by rw [List.length_append];rfl
   refine ⟨?_,hO.2⟩
   show World.ownsRow _ _ _ _ _ (st.later++[s]).length (((st.later++[s]).zip (X.fl++[v])).flatMap (fun x=>spV x.1 x.2))
   rw [e1,e2];exact hown2
end Go.Proofs.YtjgedijclkoemaaGreatDoor
