/- What the five laws of layer 17 share, part 24: no statement of its own. -/
import Derived.Test.YtjgedijclkoemaaGreatDoorJ23
import Derived.ChangeAlike
import Derived.Laws.LoneSync
import Derived.Laws.Pointers
import Derived.RegionCalls
import Derived.RegionTactic
import Derived.Tactics
import Derived.Tactics2
namespace Go.Proofs.YtjgedijclkoemaaGreatDoor
open Go.RowKit Go.Maps Go.Sort
abbrev owV (o:Ow):Value:=.agg #[.int .i64 (o.1:Int),.int .i64 (o.2.1:Int),.int .i64 (o.2.2:Int)]
def owD (o:Ow):DataW Unit:=.agg [.lit (.int .i64 (o.1:Int)),.lit (.int .i64 (o.2.1:Int)),.lit (.int .i64 (o.2.2:Int))]
def owR:Value→Option (DataW Unit×List MemPlace)
 | .agg ⟨[.int .i64 a,.int .i64 b,.int .i64 c]⟩=>some (.agg [.lit (.int .i64 a),.lit (.int .i64 b),.lit (.int .i64 c)],[])
 | _=>none
theorem b3e (o:Ow):owR (owV o)=some (owD o,[]):=rfl
set_option maxRecDepth 20000 in
theorem b3f {v:Value} {o:Ow} {ps:List MemPlace} (h:owR v=some (owD o,ps)):v=owV o:=by
 unfold owR at h;split at h
 · rename_i a b c
   injection h with h;injection h with h _;unfold owD at h;injection h with h;injection h with h1 h;injection h with h2 h;injection h with h3 _;injection h1 with h1;injection h2 with h2;injection h3 with h3;injection h1 with _ h1;injection h2 with _ h2;injection h3 with _ h3;subst h1 h2 h3;rfl
 · cases h
structure MapR (D:DataW Unit) (M:Txt→Option Ow):Prop where
 map:IsMap D
 has:∀ t,Maps.has D (.string t)=(M t).isSome
 at_:∀ t,D.atKey (.string t) (owD (0,0,0))=owD ((M t).getD (0,0,0))
def OwnMp (w:World) (m n:Nat) (M:Txt→Option Ow):Prop:=∃ D,w.ownsMap Tryz.prog 9 owR m n D∧MapR D M
set_option maxRecDepth 20000 in
theorem b9Q:Keyed Tryz.prog 9:=string_keyed Tryz.underlying9
set_option maxRecDepth 20000 in
theorem b9P (t:Txt) (h:t.length≤1000000):keyOf Tryz.prog 9 (.string (e_ t))=some (.string t):=WideMaps.keyOf_string_mk Tryz.underlying9 (by show t.toArray.size≤maxLen;rw [List.size_toArray];unfold maxLen;omega)
set_option maxRecDepth 20000 in
theorem b7I (w:World):(zeroValue 188).run Tryz.prog w=.ok (owV (0,0,0)) w:=by kernel_rfl
set_option maxRecDepth 20000 in
theorem OwnMp.look2 {w:World} {m n:Nat} {M:Txt→Option Ow} (h:OwnMp w m n M) (t:Txt) (ht:t.length≤1000000) :
 (Instr.lookup 103 (.map (some m)) (.string (e_ t)) true).run Tryz.prog w=.ok (.tuple #[owV ((M t).getD (0,0,0)),.bool (M t).isSome]) w:=by
 obtain ⟨D,h1,h2⟩:=h;obtain ⟨v,ps,hrun,hR⟩:=h1.look_ok b9Q Tryz.underlying103 (b7I w) (b3e (0,0,0)) (b9P t ht);rw [h2.at_ t] at hR;rw [hrun,b3f hR,h2.has t]
set_option maxRecDepth 20000 in
theorem OwnMp.look1 {w:World} {m n:Nat} {M:Txt→Option Ow} (h:OwnMp w m n M) (t:Txt) (ht:t.length≤1000000) :
 (Instr.lookup 103 (.map (some m)) (.string (e_ t)) false).run Tryz.prog w=.ok (owV ((M t).getD (0,0,0))) w:=by
 obtain ⟨D,h1,h2⟩:=h;obtain ⟨v,ps,hrun,hR⟩:=h1.lookup b9Q Tryz.underlying103 (b7I w) (b3e (0,0,0)) (b9P t ht);rw [h2.at_ t] at hR;rw [hrun,b3f hR]
set_option maxRecDepth 20000 in
theorem OwnMp.put {w:World} {m n:Nat} {M:Txt→Option Ow} (h:OwnMp w m n M) (t:Txt) (o:Ow) (ht:t.length≤1000000) (hn:n≤1000000) :
 ∃ w',(Instr.mapUpdate 103 (.map (some m)) (.string (e_ t)) (owV o)).run Tryz.prog w=.ok () w'∧OwnMp w' m (n+1) (fun x=>if x=t then some o else M x)∧Kept (f_ m) w w':=by
 obtain ⟨D,h1,h2⟩:=h;obtain ⟨w',hrun,hO,hg⟩:=h1.update b9Q Tryz.underlying103 (by unfold maxLen;omega) (b9P t ht) (b3e o);have hk:WideAt.IsKeyLit (.string t):=trivial;refine ⟨w',hrun,⟨D.put (.string t) (owD o),hO,⟨?_,fun x=>?_,fun x=>?_⟩⟩,(Kept.of_grown hg).mono (fun k _ e=>by injection e with e;exact e.symm)⟩
 · obtain ⟨es,rfl⟩:=h2.map
   exact ⟨_,rfl⟩
 · by_cases e:x=t
   · subst e
     rw [if_pos rfl,has_put_same h2.map hk];rfl
   · rw [if_neg e,has_put_other (fun e9=>e (by injection e9)),h2.has]
 · by_cases e:x=t
   · subst e
     rw [if_pos rfl,atKey_put_same h2.map hk];rfl
   · rw [if_neg e,atKey_put_other (fun e9=>e (by injection e9)),h2.at_]
set_option maxRecDepth 20000 in
theorem OwnMp.made (w:World):OwnMp (w.alloc (.map #[] 0)) w.heap.size 0 (fun _=>none):=⟨.map [],World.ownsMap_made w Tryz.prog 9 owR,⟨⟨[],rfl⟩,fun _=>rfl,fun _=>rfl⟩⟩
theorem OwnMp.keep {w w':World} {m n:Nat} {M:Txt→Option Ow} {F:Nat→Prop} (h:OwnMp w m n M) (hk:Kept F w w') (hF:¬ F m):OwnMp w' m n M:=by
 obtain ⟨D,h1,h2⟩:=h;have hlt:=h1.lt;obtain ⟨es,clock,e1,e2,e3,e4⟩:=h1;exact ⟨D,⟨es,clock,(hk.block m hlt hF).trans e1,e2,e3,e4⟩,h2⟩
abbrev c4i (t k:Nat):Obj:=.cells #[.int .i64 0,.int .i64 (t:Int),.int .i64 (k:Int)] 188
abbrev a1Q:Obj:=.cells #[.int .i64 0,.int .i64 0,.int .i64 0] 188
abbrev a8p (o:Ow):Obj:=.cells #[.int .i64 (o.1:Int),.int .i64 (o.2.1:Int),.int .i64 (o.2.2:Int)] 188
def at1 (had:Bool) (p a:Nat):Nat:=if had then (if p<a then p else a) else p
theorem b9k (o:Option Ow) (p t k:Nat):b9l o p t k=(at1 o.isSome p (o.getD (0,0,0)).1,max (o.getD (0,0,0)).2.1 t,max (o.getD (0,0,0)).2.2 k):=by
 cases o with
 | none =>
  show (p,t,k)=(p,max 0 t,max 0 k)
  rw [Nat.zero_max,Nat.zero_max]
 | some o=>obtain ⟨a,b,c⟩:=o;rfl
theorem c1N (a b:Nat):max (a:Int) (b:Int)=((max a b:Nat):Int):=by omega
set_option maxRecDepth 20000 in
set_option maxHeartbeats 16000000 in
theorem c4P {rb m n:Nat} {w:World} {M:Txt→Option Ow} (x:Wd) (t k:Nat) (hx:x.2.2.length≤1000000) (hn:n≤1000000) (hrb:w.cell? ⟨rb,14,none⟩=some (.map (some m))) (hM:OwnMp w m n M) :
 Calls Tryz.prog 195 #[.pointer (some ⟨rb,8,none⟩),wdA x,owV (0,t,k)] w fun r w'=>r=.returned (.tuple #[])∧OwnMp w' m (n+1) (b1Q M x t k)∧Kept (f_ m) w w':=by
 obtain ⟨W1,hW1⟩:∃ y,w.alloc (s_ x)=y:=⟨_,rfl⟩;have hz1:W1.heap.size=w.heap.size+1:=by rw [← hW1];exact World.size_alloc ..
 have hB1:Below w.heap.size w W1:=by rw [← hW1];exact al' w _
 have hp1:W1.heap[w.heap.size]?=some (s_ x):=by rw [← hW1];exact b_ w _
 obtain ⟨W2,hW2⟩:∃ y,W1.alloc (c4i t k)=y:=⟨_,rfl⟩;have hB2:Below W1.heap.size W1 W2:=by rw [← hW2];exact al' W1 _
 have hq2:W2.heap[w.heap.size+1]?=some (c4i t k):=by rw [← hW2,← hz1];exact b_ W1 _
 have hB:=a_ hB1 hB2;have hp2:=g_ hp1 hB2;have hbd:Below W2.heap.size W2 W2.drew:=(Below.refl _ W2).drew;have hmlt:m<w.heap.size:=by obtain ⟨D,h1,_⟩:=hM;exact h1.lt
 have hM2:OwnMp W2.drew m n M:=(hM.keep (F:=fun _=>False) (Kept.of_below hB) id).keep (F:=fun _=>False) (Kept.of_below hbd) id;have hlk:=hM2.look2 x.2.2 hx;obtain ⟨o0,ho0⟩:∃ o,(M x.2.2).getD (0,0,0)=o:=⟨_,rfl⟩;obtain ⟨had,hhad⟩:∃ b,(M x.2.2).isSome=b:=⟨_,rfl⟩;rw [ho0,hhad] at hlk;have hba:Below W2.drew.heap.size W2.drew (W2.alloc (a8p o0)).drew:=al' W2.drew _;have hba0:Below W2.drew.heap.size W2.drew (W2.alloc (a1Q)).drew:=al' W2.drew _;have hM3:OwnMp (W2.alloc (a8p o0)).drew m n M:=hM2.keep (F:=fun _=>False) (Kept.of_below hba) id;have hlk0:=(hM2.keep (F:=fun _=>False) (Kept.of_below hba0) id).look2 x.2.2 hx;rw [ho0,hhad] at hlk0;have hq3:(W2.alloc (a8p o0)).drew.heap[W2.heap.size]?=some (a8p o0):=b_ W2.drew _;have hkW:Kept (f_ m) w (W2.alloc (a8p o0)).drew:=Kept.of_below (a_ (a_ hB hbd) hba);have hqw:w.heap.size≤W2.heap.size:=hB.size;obtain ⟨a1,ha1⟩:∃ a,at1 had x.2.1 o0.1=a:=⟨_,rfl⟩;have hfin:b9l (M x.2.2) x.2.1 t k=(a1,max o0.2.1 t,max o0.2.2 k):=by rw [b9k,ho0,hhad,ha1]
 have H6:Hid (∀ U,Kept (f_ W2.heap.size) (W2.alloc (a8p o0)).drew U→∃ w',(Instr.mapUpdate 103 (.map (some m)) (.string (e_ x.2.2)) (owV (a1,max o0.2.1 t,max o0.2.2 k))).run Tryz.prog U.drew=.ok () w'∧OwnMp w' m (n+1) (b1Q M x t k)∧Kept (f_ m) w w'):=hid (fun U hU=>by
  have hne:¬ f_ W2.heap.size m:=fun e=>absurd hmlt (by rw [show m=W2.heap.size from e];omega)
  have hU':Kept (f_ W2.heap.size) (W2.alloc (a8p o0)).drew U.drew:=hU.step (Kept.of_below ((Below.refl _ U).drew) (F:=f_ W2.heap.size)) (fun _ _ h=>h);obtain ⟨w',hrun,hO,hk⟩:=(hM3.keep hU' hne).put x.2.2 (a1,max o0.2.1 t,max o0.2.2 k) hx hn;refine ⟨w',hrun,?_,?_⟩
  · obtain ⟨D,d1,d2,d3,d4⟩:=hO
    have e:b1Q M x t k=fun y=>if y=x.2.2 then some (a1,max o0.2.1 t,max o0.2.2 k) else M y:=by
     funext y
     unfold b1Q;by_cases e9:y=x.2.2
     · rw [if_pos e9,if_pos e9,e9,hfin]
     · rw [if_neg e9,if_neg e9]
    rw [e];exact ⟨D,d1,d2,d3,d4⟩
  · exact (hkW.step hU' (fun b hb e=>absurd hb (by rw [show b=W2.heap.size from e];omega))).step hk (fun _ _ h=>h))
 have cx:∀ U,Kept (f_ W2.heap.size) (W2.alloc (a8p o0)).drew U→U.cell? ⟨rb,14,none⟩=some (.map (some m))∧U.heap[w.heap.size]?=some (s_ x)∧U.heap[w.heap.size+1]?=some (c4i t k):=fun U hU=>by
  have hrl:=World.block_lt_of_cell? _ _ hrb;have hz2:W2.heap.size=w.heap.size+2:=by rw [← hW2,World.size_alloc,hz1]
  have b1:=d_ (a_ (a_ hB hbd) hba) hrb;have b2:=g_ (g_ hp2 hbd) hba;have b3:=g_ (g_ hq2 hbd) hba;exact ⟨hU.cell b1 (World.block_lt_of_cell? _ _ b1) (fun e=>by have:rb=W2.heap.size:=e;simp at hrl;omega),hU.blk b2 (fun e=>by have:w.heap.size=W2.heap.size:=e;omega),hU.blk b3 (fun e=>by have:w.heap.size+1=W2.heap.size:=e;omega)⟩
 have cx:=hid cx;have d14:=d_ (a_ hB hbd) hrb;have dx:=(rd3 (g_ hp2 hbd)).2.2.1;have d14a:=d_ hba d14;have dxa:=d_ hba dx;have d14b:=d_ hba0 d14;have dxb:=d_ hba0 dx;clear hp1 hq2 hB1 hB2 hB hbd hM2 hM3 hM hba hba0 hkW hqw hmlt hrb hp2;obtain ⟨hk,hp,ht⟩:=x;obtain ⟨oa,ob,oc⟩:=o0
 try dsimp only at *
 have hmx1:=c1N ob t;have hmx2:=c1N oc k;generalize max ob t=m1 at *;generalize max oc k=m2 at *;go_enter Tryz.func195,Tryz.ntmps195
 go_wp2_with fail
 clear hW1 hW2;apply S_
 case h =>
  intro rest;go_region_law (fail)
  all_goals exact rest.out
 case pf =>
  clear d14 dx d14a dxa d14b dxb hlk hlk0;generalize hV:(W2.alloc (a8p (oa,ob,oc))).drew=V at *;clear hV;generalize W2.heap.size=q at *;obtain ⟨f14,fx,fm⟩:=cx.out V (Kept.refl _ _);obtain ⟨z0,z1,z2,-,-⟩:=rd3 fx;obtain ⟨l0,l1,l2,-,-⟩:=rd3 hq3;have lf0:=i_ hq3 0;clear fx fm f14
  have hcs:(had=false∧a1=hp)∨(had=true∧hp<oa∧a1=hp)∨(had=true∧¬ hp<oa∧a1=oa):=by
   rw [← ha1];unfold at1;cases had
   · exact .inl ⟨rfl,rfl⟩
   · by_cases h9:hp<oa
     · exact .inr (.inl ⟨rfl,h9,by rw [if_pos rfl,if_pos h9]⟩)
     · exact .inr (.inr ⟨rfl,h9,by rw [if_pos rfl,if_neg h9]⟩)
  clear ha1 hhad ho0 hfin;rcases hcs with ⟨rfl,rfl⟩ | ⟨rfl,h9,rfl⟩ | ⟨rfl,h9,rfl⟩
  · have hb1:=heap_setCell (o:=0) (v:=.int .i64 (a1:Int)) hq3
    have hk1:Kept (f_ q) V (V.setCell ⟨q,0,none⟩ (.int .i64 (a1:Int))):=(Kept.refl (f_ q) V).setCell (a:=⟨q,0,none⟩) (fun _=>rfl);obtain ⟨U1,hU1⟩:∃ y,V.setCell ⟨q,0,none⟩ (.int .i64 (a1:Int))=y:=⟨_,rfl⟩;rw [hU1] at hb1 hk1;obtain ⟨e14,ex,em⟩:=cx.out U1 hk1;obtain ⟨x0,x1,x2,-,-⟩:=rd3 ex;obtain ⟨n0,n1,n2,-,-⟩:=rd3 em;obtain ⟨g0,g1,g2,gf1,gf2⟩:=rd3 hb1;have hb2:=heap_setCell (o:=1) (v:=.int .i64 (m1:Int)) hb1;have hk2:Kept (f_ q) V (U1.setCell ⟨q,1,none⟩ (.int .i64 (m1:Int))):=hk1.setCell (a:=⟨q,1,none⟩) (fun _=>rfl);obtain ⟨U2,hU2⟩:∃ y,U1.setCell ⟨q,1,none⟩ (.int .i64 (m1:Int))=y:=⟨_,rfl⟩;rw [hU2] at hb2 hk2;obtain ⟨e14',ex',em'⟩:=cx.out U2 hk2;obtain ⟨n0',n1',n2',-,-⟩:=rd3 em';obtain ⟨i0,i1,i2,if1,if2⟩:=rd3 hb2;have hb3:=heap_setCell (o:=2) (v:=.int .i64 (m2:Int)) hb2;have hk3:Kept (f_ q) V (U2.setCell ⟨q,2,none⟩ (.int .i64 (m2:Int))):=hk2.setCell (a:=⟨q,2,none⟩) (fun _=>rfl);obtain ⟨U3,hU3⟩:∃ y,U2.setCell ⟨q,2,none⟩ (.int .i64 (m2:Int))=y:=⟨_,rfl⟩;rw [hU3] at hb3 hk3;have hk4:Kept (f_ q) V U3.drew:=hk3.step (Kept.of_below ((Below.refl _ U3).drew) (F:=f_ q)) (fun _ _ h=>h);obtain ⟨e14'',ex'',em''⟩:=cx.out U3.drew hk4;obtain ⟨y0,y1,y2,-,-⟩:=rd3 ex'';obtain ⟨j0,j1,j2,-,-⟩:=rd3 (g_ hb3 ((Below.refl _ U3).drew));obtain ⟨w',hrun,hO,hkF⟩:=H6.out U3 hk3;have hO:=hid hO;have hkF:=hid hkF;clear H6 cx ex em ex' em' ex'' em'' hb2 hb3 hk2 hk3 hk4 e14' n0' i0;go_wp2_with fail
    go_region_law (fail)
    all_goals
     go_wp2;go_end0
     exact ⟨rfl,hO.out,hkF.out⟩
  · have h9z:(a1:Int)<(oa:Int):=by omega
    have hb1:=heap_setCell (o:=0) (v:=.int .i64 (a1:Int)) hq3;have hk1:Kept (f_ q) V (V.setCell ⟨q,0,none⟩ (.int .i64 (a1:Int))):=(Kept.refl (f_ q) V).setCell (a:=⟨q,0,none⟩) (fun _=>rfl);obtain ⟨U1,hU1⟩:∃ y,V.setCell ⟨q,0,none⟩ (.int .i64 (a1:Int))=y:=⟨_,rfl⟩;rw [hU1] at hb1 hk1;obtain ⟨e14,ex,em⟩:=cx.out U1 hk1;obtain ⟨x0,x1,x2,-,-⟩:=rd3 ex;obtain ⟨n0,n1,n2,-,-⟩:=rd3 em;obtain ⟨g0,g1,g2,gf1,gf2⟩:=rd3 hb1;have hb2:=heap_setCell (o:=1) (v:=.int .i64 (m1:Int)) hb1;have hk2:Kept (f_ q) V (U1.setCell ⟨q,1,none⟩ (.int .i64 (m1:Int))):=hk1.setCell (a:=⟨q,1,none⟩) (fun _=>rfl);obtain ⟨U2,hU2⟩:∃ y,U1.setCell ⟨q,1,none⟩ (.int .i64 (m1:Int))=y:=⟨_,rfl⟩;rw [hU2] at hb2 hk2;obtain ⟨e14',ex',em'⟩:=cx.out U2 hk2;obtain ⟨n0',n1',n2',-,-⟩:=rd3 em';obtain ⟨i0,i1,i2,if1,if2⟩:=rd3 hb2;have hb3:=heap_setCell (o:=2) (v:=.int .i64 (m2:Int)) hb2;have hk3:Kept (f_ q) V (U2.setCell ⟨q,2,none⟩ (.int .i64 (m2:Int))):=hk2.setCell (a:=⟨q,2,none⟩) (fun _=>rfl);obtain ⟨U3,hU3⟩:∃ y,U2.setCell ⟨q,2,none⟩ (.int .i64 (m2:Int))=y:=⟨_,rfl⟩;rw [hU3] at hb3 hk3;have hk4:Kept (f_ q) V U3.drew:=hk3.step (Kept.of_below ((Below.refl _ U3).drew) (F:=f_ q)) (fun _ _ h=>h);obtain ⟨e14'',ex'',em''⟩:=cx.out U3.drew hk4;obtain ⟨y0,y1,y2,-,-⟩:=rd3 ex'';obtain ⟨j0,j1,j2,-,-⟩:=rd3 (g_ hb3 ((Below.refl _ U3).drew));obtain ⟨w',hrun,hO,hkF⟩:=H6.out U3 hk3;have hO:=hid hO;have hkF:=hid hkF;clear H6 cx ex em ex' em' ex'' em'' hb2 hb3 hk2 hk3 hk4 e14' n0' i0;go_wp2_with fail
    go_region_law (fail)
    all_goals
     go_wp2;go_end0
     exact ⟨rfl,hO.out,hkF.out⟩
  · have h9z:¬ (hp:Int)<(a1:Int):=by omega
    have hb1:=hq3;have hk1:Kept (f_ q) V V:=Kept.refl _ _;obtain ⟨e14,ex,em⟩:=cx.out V hk1;obtain ⟨x0,x1,x2,-,-⟩:=rd3 ex;obtain ⟨n0,n1,n2,-,-⟩:=rd3 em;obtain ⟨g0,g1,g2,gf1,gf2⟩:=rd3 hb1;have hb2:=heap_setCell (o:=1) (v:=.int .i64 (m1:Int)) hb1;have hk2:Kept (f_ q) V (V.setCell ⟨q,1,none⟩ (.int .i64 (m1:Int))):=hk1.setCell (a:=⟨q,1,none⟩) (fun _=>rfl);obtain ⟨U2,hU2⟩:∃ y,V.setCell ⟨q,1,none⟩ (.int .i64 (m1:Int))=y:=⟨_,rfl⟩;rw [hU2] at hb2 hk2;obtain ⟨e14',ex',em'⟩:=cx.out U2 hk2;obtain ⟨n0',n1',n2',-,-⟩:=rd3 em';obtain ⟨i0,i1,i2,if1,if2⟩:=rd3 hb2;have hb3:=heap_setCell (o:=2) (v:=.int .i64 (m2:Int)) hb2;have hk3:Kept (f_ q) V (U2.setCell ⟨q,2,none⟩ (.int .i64 (m2:Int))):=hk2.setCell (a:=⟨q,2,none⟩) (fun _=>rfl);obtain ⟨U3,hU3⟩:∃ y,U2.setCell ⟨q,2,none⟩ (.int .i64 (m2:Int))=y:=⟨_,rfl⟩;rw [hU3] at hb3 hk3;have hk4:Kept (f_ q) V U3.drew:=hk3.step (Kept.of_below ((Below.refl _ U3).drew) (F:=f_ q)) (fun _ _ h=>h);obtain ⟨e14'',ex'',em''⟩:=cx.out U3.drew hk4;obtain ⟨y0,y1,y2,-,-⟩:=rd3 ex'';obtain ⟨j0,j1,j2,-,-⟩:=rd3 (g_ hb3 ((Below.refl _ U3).drew));obtain ⟨w',hrun,hO,hkF⟩:=H6.out U3 hk3;have hO:=hid hO;have hkF:=hid hkF;clear H6 cx ex em ex' em' ex'' em'' hb2 hb3 hk2 hk3 hk4 e14' n0' i0;go_wp2_with fail
    go_region_law (fail)
    all_goals
     go_wp2;go_end0
     exact ⟨rfl,hO.out,hkF.out⟩
def WRow (w:World) (rb:Nat) (v:Value) (l:List Wd):Prop:=∃ a cap,v=.slice a l.length cap∧∀ j (h:j<l.length),∃ b o,a=some ⟨b,o,none⟩∧b≠rb∧b<w.heap.size∧Wd3 w b (o+j * 3) l[j]
theorem WRow.at {w u:World} {rb:Nat} {a:Option Addr} {n cap:Nat} {l:List Wd} (h:WRow w rb (.slice a n cap) l) (hk:Kept (f_ rb) w u) {j:Nat} (hj:j<l.length):∃ b o,a=some ⟨b,o,none⟩∧Wd3 u b (o+j * 3) l[j]:=by
 obtain ⟨a',cap',e,hat⟩:=h;injection e with e1 _ _;subst e1;obtain ⟨b,o,e2,h1,h2,x0,x1,x2⟩:=hat j hj;exact ⟨b,o,e2,hk.cell x0 h2 h1,hk.cell x1 h2 h1,hk.cell x2 h2 h1⟩
theorem WRow.shape {w:World} {rb:Nat} {v:Value} {l:List Wd} (h:WRow w rb v l):∃ a cap,v=.slice a l.length cap:=by
 obtain ⟨a,cap,e,_⟩:=h;exact ⟨a,cap,e⟩
theorem OwnI.wrow {w:World} {B i rb _n:Nat} {T:Nat→Nat} {te:TypeId} {v:Value} {l:List Wd} (h:OwnI w B T i te 3 v l.length (l.flatMap wdV)) (hr:T rb=99) (hi:i≠99):WRow w rb v l:=by
 obtain ⟨a,cap,e,hc,hn,hat⟩:=a4k (sz:=3) (cs:=wdV) (fun _=>rfl) (by decide) h.1;refine ⟨a,cap,e,fun j hj=>?_⟩;obtain ⟨b,o,e1,h1,h2⟩:=hat j hj;refine ⟨b,o,e1,fun e9=>?_,h1,h2 0 (by decide),h2 1 (by decide),h2 2 (by decide)⟩;have h3:v.ownBlock=some b:=by rw [e,e1];rfl
 have h4:=h.2 b h3;rw [e9,hr] at h4;exact hi h4.symm
set_option maxRecDepth 20000 in
theorem b9j {rb m n:Nat} {w:World} {M:Txt→Option Ow} (x:Wd) (t k:Nat) (tz kz:Int) (h1:tz=(t:Int)) (h2:kz=(k:Int)) (hx:x.2.2.length≤1000000) (hn:n≤1000000) (hrb:w.cell? ⟨rb,14,none⟩=some (.map (some m))) (hM:OwnMp w m n M) :
 Calls Tryz.prog 195 #[.pointer (some ⟨rb,8,none⟩),wdA x,.agg #[.int .i64 0,.int .i64 tz,.int .i64 kz]] w fun r w'=>r=.returned (.tuple #[])∧OwnMp w' m (n+1) (b1Q M x t k)∧Kept (f_ m) w w':=by
 subst h1 h2;exact c4P x t k hx hn hrb hM
theorem b3u (l:List Wd):∀ (k j:Nat) (h:k<l.length),a7y (j+k) (l.drop k)=(l[k],j+k+1,0) :: a7y (j+(k+1)) (l.drop (k+1)):=fun k j h=>by
 rw [List.drop_eq_getElem_cons h,a7y];rfl
theorem b3t (l:List Wd):∀ (k j:Nat) (h:k<l.length),a7x (j+k) (l.drop k)=(l[k],0,j+k+1) :: a7x (j+(k+1)) (l.drop (k+1)):=fun k j h=>by
 rw [List.drop_eq_getElem_cons h,a7x];rfl
abbrev rdF (c:Nat→Value) (mp:Value):Obj:=.cells #[c 0,c 1,c 2,c 3,c 4,c 5,c 6,c 7,c 8,c 9,c 10,c 11,c 12,c 13,mp,c 15,c 16,c 17] 108
theorem a8c {w:World} {rb:Nat} {c:Nat→Value} {mp:Value} (h:w.heap[rb]?=some (rdF c mp)):w.cell? ⟨rb,8,none⟩=some (c 8)∧w.cell? ⟨rb,9,none⟩=some (c 9)∧w.cell? ⟨rb,10,none⟩=some (c 10)∧w.cell? ⟨rb,14,none⟩=some mp:=⟨c_ h rfl,c_ h rfl,c_ h rfl,c_ h rfl⟩
set_option maxRecDepth 20000 in
set_option maxHeartbeats 16000000 in
theorem c4d {rb:Nat} {w:World} {c:Nat→Value} {mp:Value} (sk te no:List Wd) (hb:w.heap[rb]?=some (rdF c mp)) (r1:WRow w rb (c 8) sk) (r2:WRow w rb (c 9) te) (r3:WRow w rb (c 10) no) (l1:sk.length≤90000) (l2:te.length≤90000) (l3:no.length≤90000)
 (x1:∀ x∈sk,x.2.2.length≤1000000) (x2:∀ x∈te,x.2.2.length≤1000000) (x3:∀ x∈no,x.2.2.length≤1000000) :
 Calls Tryz.prog 171 #[.pointer (some ⟨rb,8,none⟩)] w fun r w'=>r=.returned (.tuple #[])∧w'.heap[rb]?=some (rdF c (.map (some w.heap.size)))∧(∃ n,OwnMp w' w.heap.size n (a4l (sk.map (fun w=>(w,0,0))++(a7y 0 te++a7x te.length no)) (fun _=>none)))∧Kept (f_ rb) w w'∧w.heap.size<w'.heap.size:=by
 have hrb:=u_ hb;obtain ⟨M1,hM1⟩:∃ M,Hid (a4l ((sk.drop 0).map (fun w=>(w,0,0))) (fun _=>none)=M):=⟨_,hid rfl⟩;obtain ⟨M2,hM2⟩:∃ M,Hid (a4l (a7y (0+0) (te.drop 0)) M1=M):=⟨_,hid rfl⟩;obtain ⟨M3,hM3⟩:∃ M,Hid (a4l (a7x (te.length+0) (no.drop 0)) M2=M):=⟨_,hid rfl⟩
 have hfin:a4l (sk.map (fun w=>(w,0,0))++(a7y 0 te++a7x te.length no)) (fun _=>none)=M3:=by
  rw [← hM3.out,← hM2.out,← hM1.out];unfold a4l;rw [List.foldl_append,List.foldl_append];rfl
 rw [hfin];clear hfin;obtain ⟨sa,sc,hsk⟩:=r1.shape;obtain ⟨ta,tc,hte⟩:=r2.shape;obtain ⟨na,nc,hno⟩:=r3.shape;rw [hsk] at r1;rw [hte] at r2;rw [hno] at r3
 have hmm:∀ u:World,(Instr.makeMap 103 none).run Tryz.prog u=.ok (.map (some u.heap.size)) (u.alloc (.map #[] 0)):=fun u=>by
  simp [Instr.makeMap,Result.andThen]
  first | rfl | skip
 have hal:=al' w (.map #[] 0);have hb1:=g_ hb hal;have f14:(w.alloc (.map #[] 0)).frozen? ⟨rb,14,none⟩=false:=i_ hb1 14;have g14:(w.alloc (.map #[] 0)).cell? ⟨rb,14,none⟩=some mp:=c_ hb1 rfl;have hb2:=heap_setCell (o:=14) (v:=.map (some w.heap.size)) hb;have hb3:((w.setCell ⟨rb,14,none⟩ (.map (some w.heap.size))).alloc (.map #[] 0)).heap[rb]?=some (rdF c (.map (some w.heap.size))):=g_ hb2 (al' _ _);have hsz:(w.setCell ⟨rb,14,none⟩ (.map (some w.heap.size))).heap.size=w.heap.size:=by simp
 have hmd:OwnMp ((w.setCell ⟨rb,14,none⟩ (.map (some w.heap.size))).alloc (.map #[] 0)) w.heap.size 0 (fun _=>none):=by
  have:=OwnMp.made (w.setCell ⟨rb,14,none⟩ (.map (some w.heap.size)))
  rw [hsz] at this;exact this
 have hk3:Kept (f_ rb) w ((w.setCell ⟨rb,14,none⟩ (.map (some w.heap.size))).alloc (.map #[] 0)):=((Kept.refl (f_ rb) w).setCell (a:=⟨rb,14,none⟩) (fun _=>rfl)).step (Kept.of_below (al' _ _) (F:=f_ rb)) (fun _ _ h=>h);have hs3:w.heap.size<((w.setCell ⟨rb,14,none⟩ (.map (some w.heap.size))).alloc (.map #[] 0)).heap.size:=by rw [World.size_alloc,hsz];omega
 have HI:Hid (((w.setCell ⟨rb,14,none⟩ (.map (some w.heap.size))).alloc (.map #[] 0)).heap[rb]?=some (rdF c (.map (some w.heap.size)))∧OwnMp ((w.setCell ⟨rb,14,none⟩ (.map (some w.heap.size))).alloc (.map #[] 0)) w.heap.size 0 (fun _=>none)∧Kept (f_ rb) w ((w.setCell ⟨rb,14,none⟩ (.map (some w.heap.size))).alloc (.map #[] 0))∧w.heap.size<((w.setCell ⟨rb,14,none⟩ (.map (some w.heap.size))).alloc (.map #[] 0)).heap.size):=hid ⟨hb3,hmd,hk3,hs3⟩;obtain ⟨y8,y9,y10,-⟩:=a8c hb3;rw [hsk] at y8;have r1:=hid r1;have r2:=hid r2;have r3:=hid r3;have x1:=hid x1;have x2:=hid x2;have x3:=hid x3;have hskH:=hid hsk;have hteH:=hid hte;have hnoH:=hid hno;have hRW:Hid (∀ u v,u.heap[rb]?=some (rdF c (.map (some w.heap.size)))∧Kept (f_ rb) w u∧w.heap.size<u.heap.size→Kept (f_ w.heap.size) u v→v.heap[rb]?=some (rdF c (.map (some w.heap.size)))∧Kept (f_ rb) w v∧w.heap.size<v.heap.size):=hid (fun u v ⟨a1,a2,a3⟩ hk=>⟨hk.blk a1 (fun e=>by have:rb=w.heap.size:=e;omega),a2.step hk (fun k hk9 e=>absurd hk9 (by rw [show k=w.heap.size from e];omega)),Nat.lt_of_lt_of_le a3 hk.size⟩);clear hb hb1 hb2 hb3 hmd hk3 hs3 hal hsk hte hno;go_enter Tryz.func171,Tryz.ntmps171
 go_wp2_with fail
 generalize (w.setCell ⟨rb,14,none⟩ (.map (some w.heap.size))).alloc (.map #[] 0)=V0 at *;go_loopw [17] (fun i wr=>∃ (k n:Nat) (M:Txt→Option Ow),k≤sk.length∧i=.int .i64 (k:Int)∧n≤0+k∧Hid (OwnMp wr w.heap.size n M)∧Hid (wr.heap[rb]?=some (rdF c (.map (some w.heap.size)))∧Kept (f_ rb) w wr∧w.heap.size<wr.heap.size)∧Hid (a4l ((sk.drop k).map (fun w=>(w,0,0))) M=M1)) (fun i _=>sk.length - (intOf i).toNat)
 case atStart=>exact ⟨0,0,_,Nat.zero_le _,rfl,Nat.le_refl _,hid HI.out.2.1,hid ⟨HI.out.1,HI.out.2.2⟩,hM1⟩
 case round =>
  obtain ⟨k,n,M,hkl,rfl,hnl,hO,hW,hL⟩:=hrel;obtain ⟨y8,y9,y10,y14⟩:=a8c hW.out.1;rw [hskH.out] at y8;by_cases hlt:k<sk.length
  · have hltz:(k:Int)<(sk.length:Int):=by omega
    obtain ⟨b,o,he,q0,q1,q2⟩:=r1.out.at hW.out.2.1 hlt;subst he;have hxl:=x1.out _ (List.getElem_mem hlt);have e9:=hL.out;rw [List.drop_eq_getElem_cons hlt,List.map_cons] at e9;have e9:=hid e9;generalize sk[k]=x at *;have hal:=al' wr (s_ x);have hO1:OwnMp (wr.alloc (s_ x)) w.heap.size n M:=hO.out.keep (F:=fun _=>False) (Kept.of_below hal) id;have hW1:=hRW.out _ _ hW.out (Kept.of_below hal);obtain ⟨z8,z9,z10,z14⟩:=a8c hW1.1;obtain ⟨v0,v1,v2,-,-⟩:=rd3 (b_ wr (s_ x));obtain ⟨W1,hW1e⟩:∃ y,wr.alloc (s_ x)=y:=⟨_,rfl⟩;rw [hW1e] at hO1 hW1 z8 z9 z10 z14 v0 v1 v2 hal;have GO:=hid (b9j x 0 0 (0) (0) (by rfl) (by rfl) hxl (by omega) z14 hO1);have hW1:=hid hW1;clear hO1 hO hW hL y8 y9 y10;obtain ⟨xk,xp,xt⟩:=x
    try dsimp only at *
    go_wp2_with (go_at_call 195;refine GO.out.mono ?_;rintro e u4 ⟨rfl,hO4,hk4⟩;have hO4:=hid hO4;have hW4:=hid (hRW.out _ _ hW1.out hk4))
    go_roundw
    case rel=>exact ⟨k+1,n+1,_,by omega,by go_num,by omega,hO4,hW4,e9⟩
    case measure=>simp [intOf];omega
  · have hltz:¬ (k:Int)<(sk.length:Int):=by omega
    obtain rfl:k=sk.length:=by omega
    have e9:=hL.out;rw [List.drop_length] at e9;have e9:M=M1:=e9;subst e9;rw [hteH.out] at y9;have hn1:n≤90000:=by omega
    generalize n=n1 at *;clear hltz hlt hkl hL;go_wp2_with fail
    clear y8 y9 y10 y14;go_loopw [31] (fun i wr=>∃ (k n:Nat) (M:Txt→Option Ow),k≤te.length∧i=.int .i64 (k:Int)∧n≤n1+k∧Hid (OwnMp wr w.heap.size n M)∧Hid (wr.heap[rb]?=some (rdF c (.map (some w.heap.size)))∧Kept (f_ rb) w wr∧w.heap.size<wr.heap.size)∧Hid (a4l (a7y (0+k) (te.drop k)) M=M2)) (fun i _=>te.length - (intOf i).toNat)
    case atStart=>exact ⟨0,n1,_,Nat.zero_le _,rfl,Nat.le_refl _,hO,hW,hM2⟩
    case round =>
     obtain ⟨k,n,M,hkl,rfl,hnl,hO,hW,hL⟩:=hrel;obtain ⟨y8,y9,y10,y14⟩:=a8c hW.out.1;rw [hteH.out] at y9;by_cases hlt:k<te.length
     · have hltz:(k:Int)<(te.length:Int):=by omega
       obtain ⟨b,o,he,q0,q1,q2⟩:=r2.out.at hW.out.2.1 hlt;subst he;have hxl:=x2.out _ (List.getElem_mem hlt);have e9:=hL.out;rw [b3u te k 0 hlt] at e9;have e9:=hid e9;generalize te[k]=x at *;have hal:=al' wr (s_ x);have hO1:OwnMp (wr.alloc (s_ x)) w.heap.size n M:=hO.out.keep (F:=fun _=>False) (Kept.of_below hal) id;have hW1:=hRW.out _ _ hW.out (Kept.of_below hal);obtain ⟨z8,z9,z10,z14⟩:=a8c hW1.1;obtain ⟨v0,v1,v2,-,-⟩:=rd3 (b_ wr (s_ x));obtain ⟨W1,hW1e⟩:∃ y,wr.alloc (s_ x)=y:=⟨_,rfl⟩;rw [hW1e] at hO1 hW1 z8 z9 z10 z14 v0 v1 v2 hal;have GO:=hid (b9j x (0+k+1) 0 ((k:Int)+1) (0) (by omega) (by rfl) hxl (by omega) z14 hO1);have hW1:=hid hW1;clear hO1 hO hW hL y8 y9 y10;obtain ⟨xk,xp,xt⟩:=x
       try dsimp only at *
       go_wp2_with (go_at_call 195;refine GO.out.mono ?_;rintro e u4 ⟨rfl,hO4,hk4⟩;have hO4:=hid hO4;have hW4:=hid (hRW.out _ _ hW1.out hk4))
       go_roundw
       case rel=>exact ⟨k+1,n+1,_,by omega,by go_num,by omega,hO4,hW4,e9⟩
       case measure=>simp [intOf];omega
     · have hltz:¬ (k:Int)<(te.length:Int):=by omega
       obtain rfl:k=te.length:=by omega
       have e9:=hL.out;rw [List.drop_length] at e9;have e9:M=M2:=e9;subst e9;rw [hnoH.out] at y10;have hn2:n≤180000:=by omega
       generalize n=n2 at *;clear hltz hlt hkl hL;go_wp2_with fail
       clear y8 y9 y10 y14;go_loopw [48] (fun i wr=>∃ (k n:Nat) (M:Txt→Option Ow),k≤no.length∧i=.int .i64 (k:Int)∧n≤n2+k∧Hid (OwnMp wr w.heap.size n M)∧Hid (wr.heap[rb]?=some (rdF c (.map (some w.heap.size)))∧Kept (f_ rb) w wr∧w.heap.size<wr.heap.size)∧Hid (a4l (a7x (te.length+k) (no.drop k)) M=M3)) (fun i _=>no.length - (intOf i).toNat)
       case atStart=>exact ⟨0,n2,_,Nat.zero_le _,rfl,Nat.le_refl _,hO,hW,hM3⟩
       case round =>
        obtain ⟨k,n,M,hkl,rfl,hnl,hO,hW,hL⟩:=hrel;obtain ⟨y8,y9,y10,y14⟩:=a8c hW.out.1;rw [hnoH.out] at y10;by_cases hlt:k<no.length
        · have hltz:(k:Int)<(no.length:Int):=by omega
          obtain ⟨b,o,he,q0,q1,q2⟩:=r3.out.at hW.out.2.1 hlt;subst he;have hxl:=x3.out _ (List.getElem_mem hlt);have e9:=hL.out;rw [b3t no k te.length hlt] at e9;have e9:=hid e9;generalize no[k]=x at *;have hal:=al' wr (s_ x);have hO1:OwnMp (wr.alloc (s_ x)) w.heap.size n M:=hO.out.keep (F:=fun _=>False) (Kept.of_below hal) id;have hW1:=hRW.out _ _ hW.out (Kept.of_below hal);obtain ⟨z8,z9,z10,z14⟩:=a8c hW1.1;obtain ⟨v0,v1,v2,-,-⟩:=rd3 (b_ wr (s_ x));obtain ⟨W1,hW1e⟩:∃ y,wr.alloc (s_ x)=y:=⟨_,rfl⟩;rw [hW1e] at hO1 hW1 z8 z9 z10 z14 v0 v1 v2 hal;have hbd:Below W1.heap.size W1 W1.drew:=(Below.refl _ W1).drew;have hO2:OwnMp W1.drew w.heap.size n M:=hO1.keep (F:=fun _=>False) (Kept.of_below hbd) id;have hW2:=hRW.out _ _ hW1 (Kept.of_below hbd);have d14:=d_ hbd z14;have d9:=d_ hbd z9;rw [hteH.out] at d9;have dv0:=d_ hbd v0;have dv1:=d_ hbd v1;have dv2:=d_ hbd v2;have hbx:=World.block_lt_of_cell? _ _ dv2;have hnx:¬ f_ w.heap.size wr.heap.size:=fun e=>by have h9:=hW.out.2.2;rw [show wr.heap.size=w.heap.size from e] at h9;exact absurd h9 (Nat.lt_irrefl _)
          have GO:=hid (b9j x 0 (te.length+k+1) (0) (IntKind.i64.wrap (IntKind.i64.wrap ((te.length:Int)+(k:Int))+1)) (by rfl) (by rw [IntWalk.i64_in ((te.length:Int)+(k:Int)) (by omega),IntWalk.i64_in _ (by omega)];omega) hxl (by omega) d14 hO2);have hW1:=hid hW2;clear hO1 hO2 hO hW hL y8 y9 y10 hW2 hbd;obtain ⟨xk,xp,xt⟩:=x
          try dsimp only at *
          go_wp2_with fail
          go_region_held3 (fun w'=>w'.cell? ⟨rb,9,none⟩=some (.slice ta te.length tc)∧w'.cell? ⟨wr.heap.size,0,none⟩=some (.int .i64 (xk:Int))∧w'.cell? ⟨wr.heap.size,1,none⟩=some (.int .i64 (xp:Int))∧w'.cell? ⟨wr.heap.size,2,none⟩=some (.string (e_ xt))) (go_keep) ((go_at_call 195;refine GO.out.mono ?_;rintro e u4 ⟨rfl,hO4,hk4⟩;have hO4:=hid hO4;have hW4:=hid (hRW.out _ _ hW1.out hk4);obtain ⟨-,s9,-,-⟩:=a8c hW4.out.1;rw [hteH.out] at s9;have s0:=hk4.cell dv0 hbx hnx;have s1:=hk4.cell dv1 hbx hnx;have s2:=hk4.cell dv2 hbx hnx))
          all_goals
           go_wp2;go_roundw
           case rel=>exact ⟨k+1,n+1,_,by omega,by go_num,by omega,hO4,hW4,e9⟩
           case measure=>simp [intOf];omega
        · have hltz:¬ (k:Int)<(no.length:Int):=by omega
          obtain rfl:k=no.length:=by omega
          have e9:=hL.out;rw [List.drop_length] at e9;have e9:M=M3:=e9;subst e9;have hQ:=hid hW.out;clear y8 y9 y10 y14;go_wp2;go_end0
          exact ⟨rfl,hW.out.1,⟨n,hO.out⟩,hW.out.2.1,hW.out.2.2⟩
end Go.Proofs.YtjgedijclkoemaaGreatDoor
namespace Go.Proofs.YtjgedijclkoemaaGreatDoor
open Go.RowKit Go.Maps
set_option maxRecDepth 20000 in
theorem disable (w:World):(callFunc 232 #[]).run Tryz.prog w=.ok (.value (.tuple #[])) w:=run_call_mark0 Tryz.func232 (by kernel_rfl) (by kernel_rfl) (by kernel_rfl) .disable (by kernel_rfl) w
set_option maxRecDepth 20000 in
theorem enable (w:World):(callFunc 234 #[]).run Tryz.prog w=.ok (.value (.tuple #[])) w:=run_call_mark0 Tryz.func234 (by kernel_rfl) (by kernel_rfl) (by kernel_rfl) .enable (by kernel_rfl) w
set_option maxRecDepth 20000 in
theorem acquire (a:Addr) (w:World):(callFunc 235 #[.pointer (some a)]).run Tryz.prog w=.ok (.value (.tuple #[])) w:=run_call_marked Tryz.func235 (by kernel_rfl) (by kernel_rfl) (by kernel_rfl) .acquire (by kernel_rfl) a w
set_option maxRecDepth 20000 in
theorem releaseMerge (a:Addr) (w:World):(callFunc 237 #[.pointer (some a)]).run Tryz.prog w=.ok (.value (.tuple #[])) w:=run_call_marked Tryz.func237 (by kernel_rfl) (by kernel_rfl) (by kernel_rfl) .releaseMerge (by kernel_rfl) a w
set_option maxRecDepth 20000 in
theorem a4J (a:Addr) (x:Value) (u:FrameMode) (w:World) (hc:w.cell? a=some x) (hz:w.frozen? a=false) :
 CallsD Tryz.prog 209 #[.pointer (some a),.bool true] u w fun e u' w'=>u'=u∧(e=.returned (.tuple #[])∧w'=w.drew.setCell a (.int .u32 1)):=by
 have hc':w.drew.cell? a=some x:=by go_simp
 have hz':w.drew.frozen? a=false:=by go_simp
 have hst:=run_call_store (P:=Tryz.prog) Tryz.func224 (by kernel_rfl) (by kernel_rfl) (by kernel_rfl) (by kernel_rfl) (k:=.u32) (y:=1) hc' hz';go_enter_d Tryz.func209,Tryz.ntmps209
 go_wp2;go_region_calls
 all_goals (go_end0;exact ⟨rfl,rfl⟩)
set_option maxRecDepth 100000 in
set_option maxHeartbeats 1600000 in
theorem a3S (a:Addr) (u:FrameMode) (w:World) (hc:w.cell? a=some (.int .i32 1)) (hz:w.frozen? a=false) :
 CallsD Tryz.prog 208 #[.pointer (some a)] u w fun e u' w'=>u'=u∧(e=.returned (.tuple #[])∧w'=w.setCell a (.int .i32 0)):=by
 have hd:=disable;have he:=enable;have hr:=releaseMerge;have hadd:=run_call_add (P:=Tryz.prog) Tryz.func238 (by kernel_rfl) (by kernel_rfl) (by kernel_rfl) .i32 (by kernel_rfl) (y:=-1) (s:=0) hc hz (by simp [go_sem];rfl);have hcv:=run_convert_to_unsafe (P:=Tryz.prog) (src:=260) (dst:=216) Tryz.underlying260 Tryz.underlying216 (by kernel_rfl) hc;go_enter_d Tryz.func208,Tryz.ntmps208
 go_wp2;go_end0
 go_wp2;go_end0
 exact ⟨rfl,rfl⟩
set_option maxRecDepth 100000 in
set_option maxHeartbeats 1600000 in
theorem b3G (a:Addr) (w:World) (hc:w.cell? a=some (.int .i32 0)) (hz:w.frozen? a=false) :
 Calls Tryz.prog 207 #[.pointer (some a)] w fun e w'=>e=.returned (.tuple #[])∧w'=w.setCell a (.int .i32 1):=by
 have hd:=disable;have he:=enable;have ha:=acquire;have hcas:=run_call_cas_hit (P:=Tryz.prog) Tryz.func233 (by kernel_rfl) (by kernel_rfl) (by kernel_rfl) .i32 (by kernel_rfl) (y:=1) hc hz;have hc':(w.setCell a (.int .i32 1)).cell? a=some (.int .i32 1):=World.cell?_setCell_same w a _ hc;have hcv:=run_convert_to_unsafe (P:=Tryz.prog) (src:=260) (dst:=216) Tryz.underlying260 Tryz.underlying216 (by kernel_rfl) hc';go_enter Tryz.func207,Tryz.ntmps207
 go_wp2
 first | go_end0 | (simp only [Exit.inBlock,Exit.then];refine bodyPost_ret (results_none rfl _ _ _) rfl ?_) | refine bodyPost_ret (results_none rfl _ _ _) rfl ?_
 go_wp2;go_end0
 exact ⟨rfl,rfl⟩
theorem b2s (w:World) (a:Addr) (v:Value):(w.setCell a v).heap.size=w.heap.size:=by simp
abbrev b6X (rb:Nat):Value:=.func (.func 171) #[.pointer (some ⟨rb,8,none⟩)] #[]
abbrev rdK (c:Nat→Value) (d l:Value) (mp:Value):Obj:=.cells #[c 0,c 1,c 2,c 3,c 4,c 5,c 6,c 7,c 8,c 9,c 10,d,l,.int .u32 0,mp,c 15,c 16,c 17] 108
theorem WRow.set {w:World} {rb o:Nat} {v x:Value} {l:List Wd} (h:WRow w rb v l):WRow (w.setCell ⟨rb,o,none⟩ x) rb v l:=by
 obtain ⟨a,cap,e,hat⟩:=h;refine ⟨a,cap,e,fun j hj=>?_⟩;obtain ⟨b,o',e2,h1,h2,x0,x1,x2⟩:=hat j hj;have hk:Kept (f_ rb) w (w.setCell ⟨rb,o,none⟩ x):=(Kept.refl (f_ rb) w).setCell (a:=⟨rb,o,none⟩) (fun _=>rfl);exact ⟨b,o',e2,h1,by rw [b2s];exact h2,hk.cell x0 h2 h1,hk.cell x1 h2 h1,hk.cell x2 h2 h1⟩
set_option maxRecDepth 100000 in
set_option maxHeartbeats 4000000 in
theorem c3w {rb:Nat} {w:World} {c:Nat→Value} (sk te no:List Wd) (hb:w.heap[rb]?=some (rdK c (.int .u32 0) (.int .i32 0) (.map none))) (r1:WRow w rb (c 8) sk) (r2:WRow w rb (c 9) te) (r3:WRow w rb (c 10) no) (l1:sk.length≤90000) (l2:te.length≤90000) (l3:no.length≤90000)
 (x1:∀ x∈sk,x.2.2.length≤1000000) (x2:∀ x∈te,x.2.2.length≤1000000) (x3:∀ x∈no,x.2.2.length≤1000000) :
 Calls Tryz.prog 194 #[.pointer (some ⟨rb,11,none⟩),b6X rb] w fun r w'=>r=.returned (.tuple #[])∧w'.heap[rb]?=some (rdK c (.int .u32 1) (.int .i32 0) (.map (some w.heap.size)))∧(∃ n,OwnMp w' w.heap.size n (a4l (sk.map (fun w=>(w,0,0))++(a7y 0 te++a7x te.length no)) (fun _=>none)))∧Kept (f_ rb) w w'∧w.heap.size<w'.heap.size:=by
 have hrb:=u_ hb;have hb1:(w.setCell ⟨rb,12,none⟩ (.int .i32 1)).heap[rb]?=some (rdK c (.int .u32 0) (.int .i32 1) (.map none)):=heap_setCell hb;have G0:=c4d (w:=w.setCell ⟨rb,12,none⟩ (.int .i32 1)) (c:=fun i=>if i=11 then .int .u32 0 else if i=12 then .int .i32 1 else if i=13 then .int .u32 0 else c i) (mp:=.map none) sk te no (by rw [hb1];rfl) r1.set r2.set r3.set l1 l2 l3 x1 x2 x3;rw [b2s] at G0;have hk1:Kept (f_ rb) w (w.setCell ⟨rb,12,none⟩ (.int .i32 1)):=(Kept.refl (f_ rb) w).setCell (a:=⟨rb,12,none⟩) (fun _=>rfl);have c1:w.cell? ⟨rb,12,none⟩=some (.int .i32 0):=c_ hb rfl;have f1:=i_ hb 12;have d0:(w.setCell ⟨rb,12,none⟩ (.int .i32 1)).cell? ⟨rb,11,none⟩=some (.int .u32 0):=c_ hb1 rfl;have hld:=run_call_load (P:=Tryz.prog) Tryz.func206 (by kernel_rfl) (by kernel_rfl) (by kernel_rfl) .u32 (by kernel_rfl) d0;have hnot:∀ (x:Bool) (w:World),(Op.unary .not (.bool x)).run Tryz.prog w=.ok (.bool (!x)) w:=fun _ _=>rfl
 generalize a4l (sk.map (fun w=>(w,0,0))++(a7y 0 te++a7x te.length no)) (fun _=>none)=MF at *;have G:Hid (Calls Tryz.prog 171 #[.pointer (some ⟨rb,8,none⟩)] (w.setCell ⟨rb,12,none⟩ (.int .i32 1)) fun r w'=>r=.returned (.tuple #[])∧w'.heap[rb]?=some (rdK c (.int .u32 0) (.int .i32 1) (.map (some w.heap.size)))∧(∃ n,OwnMp w' w.heap.size n MF)∧Kept (f_ rb) w w'∧w.heap.size<w'.heap.size):=hid (G0.mono (fun r w' ⟨e,a1,a2,a3,a4⟩=>⟨e,by rw [a1];rfl,a2,hk1.trans a3,a4⟩));clear hb hb1 r1 r2 r3 G0 x1 x2 x3 hk1;go_enter_defers Tryz.func194,Tryz.ntmps194
 go_wp2_with (first
  | (go_at_call 207;refine (b3G ⟨rb,12,none⟩ _ c1 f1).mono ?_;rintro e w' ⟨rfl,rfl⟩)
  | (go_at_call 193;go_in)
  | (go_at_call 171;refine (G.out).mono ?_;rintro e w2 ⟨rfl,hblk2,hmap2,hk2,hs2⟩))
 refine leaves_cons (f:=209) (args:=#[.pointer (some ⟨rb,11,none⟩),.bool true]) (by simp) (by simp [go_sem]) ?_;refine (a4J ⟨rb,11,none⟩ (.int .u32 0) .returning _ (c_ hblk2 rfl) (i_ hblk2 11)).mono ?_;rintro e u' w3 ⟨rfl,rfl,rfl⟩;have hblk3:(w2.drew.setCell ⟨rb,11,none⟩ (.int .u32 1)).heap[rb]?=some (rdK c (.int .u32 1) (.int .i32 1) (.map (some w.heap.size))):=heap_setCell (w:=w2.drew) hblk2;refine leaves_cons (f:=208) (args:=#[.pointer (some ⟨rb,12,none⟩)]) (by simp [settle]) (by simp [go_sem]) ?_;refine (a3S ⟨rb,12,none⟩ _ _ (c_ hblk3 rfl) (i_ hblk3 12)).mono ?_;rintro e u' w4 ⟨rfl,rfl,rfl⟩;have hblk4:((w2.drew.setCell ⟨rb,11,none⟩ (.int .u32 1)).setCell ⟨rb,12,none⟩ (.int .i32 0)).heap[rb]?=some (rdK c (.int .u32 1) (.int .i32 0) (.map (some w.heap.size))):=heap_setCell hblk3;have hkk:Kept (f_ rb) w2 ((w2.drew.setCell ⟨rb,11,none⟩ (.int .u32 1)).setCell ⟨rb,12,none⟩ (.int .i32 0)):=((Kept.of_below ((Below.refl _ w2).drew) (F:=f_ rb)).setCell (a:=⟨rb,11,none⟩) (fun _=>rfl)).setCell (a:=⟨rb,12,none⟩) (fun _=>rfl);obtain ⟨n9,hmap2⟩:=hmap2;have hmap4:=hmap2.keep hkk (fun e=>by have:w.heap.size=rb:=e;omega);simp only [Leaves,settle];exact ⟨.tuple #[],by simp [results,Tryz.results194],rfl,hblk4,⟨n9,hmap4⟩,hk2.trans hkk,Nat.lt_of_lt_of_le hs2 hkk.size⟩
set_option maxRecDepth 100000 in
set_option maxHeartbeats 4000000 in
theorem doC {rb:Nat} {w:World} {c:Nat→Value} (sk te no:List Wd) (hb:w.heap[rb]?=some (rdK c (.int .u32 0) (.int .i32 0) (.map none))) (r1:WRow w rb (c 8) sk) (r2:WRow w rb (c 9) te) (r3:WRow w rb (c 10) no) (l1:sk.length≤90000) (l2:te.length≤90000) (l3:no.length≤90000)
 (x1:∀ x∈sk,x.2.2.length≤1000000) (x2:∀ x∈te,x.2.2.length≤1000000) (x3:∀ x∈no,x.2.2.length≤1000000) :
 Calls Tryz.prog 170 #[.pointer (some ⟨rb,11,none⟩),b6X rb] w fun r w'=>r=.returned (.tuple #[])∧w'.heap[rb]?=some (rdK c (.int .u32 1) (.int .i32 0) (.map (some w.heap.size)))∧(∃ n,OwnMp w' w.heap.size n (a4l (sk.map (fun w=>(w,0,0))++(a7y 0 te++a7x te.length no)) (fun _=>none)))∧Kept (f_ rb) w w'∧w.heap.size<w'.heap.size:=by
 have G:=hid (c3w sk te no hb r1 r2 r3 l1 l2 l3 x1 x2 x3);generalize a4l (sk.map (fun w=>(w,0,0))++(a7y 0 te++a7x te.length no)) (fun _=>none)=MF at *;have d0:w.cell? ⟨rb,11,none⟩=some (.int .u32 0):=c_ hb rfl;have hld:=run_call_load (P:=Tryz.prog) Tryz.func206 (by kernel_rfl) (by kernel_rfl) (by kernel_rfl) .u32 (by kernel_rfl) d0;have hnot:∀ (x:Bool) (w:World),(Op.unary .not (.bool x)).run Tryz.prog w=.ok (.bool (!x)) w:=fun _ _=>rfl
 clear hb r1 r2 r3 x1 x2 x3;go_enter Tryz.func170,Tryz.ntmps170
 go_wp2_with (first
  | (go_at_call 194;refine (G.out).mono ?_;rintro e w1 ⟨rfl,h1⟩;have h1:=hid h1)
  | (go_at_call 193;go_in))
 go_end0
 exact ⟨rfl,h1.out⟩
set_option maxRecDepth 100000 in
set_option maxHeartbeats 4000000 in
theorem c4g {rb:Nat} {w:World} (f:Value) (d0:w.cell? ⟨rb,11,none⟩=some (.int .u32 1)) :
 Calls Tryz.prog 170 #[.pointer (some ⟨rb,11,none⟩),f] w fun r w'=>r=.returned (.tuple #[])∧w'=w:=by
 have hld:=run_call_load (P:=Tryz.prog) Tryz.func206 (by kernel_rfl) (by kernel_rfl) (by kernel_rfl) .u32 (by kernel_rfl) d0;have hnot:∀ (x:Bool) (w:World),(Op.unary .not (.bool x)).run Tryz.prog w=.ok (.bool (!x)) w:=fun _ _=>rfl
 go_enter Tryz.func170,Tryz.ntmps170
 go_wp2_with (go_at_call 193;go_in)
 go_end0
 exact ⟨rfl,rfl⟩
def rdC (X:RX) (lv:Value) (lc sc:Nat) (f:FS):Nat→Value
 | 0=>X.wv
 | 1=>X.rv
 | 2=>X.nv
 | 3=>lv
 | 4=>X.pv
 | 5=>.int .i64 f.start
 | 6=>.int .i64 (lc:Int)
 | 7=>.int .i64 (sc:Int)
 | 8=>X.sk
 | 9=>X.te
 | 10=>X.no
 | 15=>X.la
 | 16=>.int .i64 (f.pl:Int)
 | 17=>.int .i64 f.err
 | _=>.int .i64 0
def prV (p:Pd) (v:Value):List Value:=[.int .i64 p.left,v,.int .i64 p.prec]
structure RdW (B:Nat) (T:Nat→Nat) (w:World) (rb:Nat) (X:RX) (st:RS) (f:FS) (lv:Value) (rs:List Value) (mp:Option Nat):Prop where
 blk:w.heap[rb]?=some (rdK (rdC X lv st.levels st.starts f) (.int .u32 (if mp=none then 0 else 1)) (.int .i32 0) (.map mp))
 rt:T rb=99
 own:∀ b,T b≠0→B≤b∧b<w.heap.size
 base:B≤w.heap.size
 rules:OwnI w B T 1 62 3 X.rv st.rules.length ((st.rules.zip X.rl).flatMap fun x=>rlV x.1 x.2)
 rlen:X.rl.length=st.rules.length
 rre:∀ x∈st.rules.zip X.rl,RuC T w st.err x.2 x.1.re
 nonts:OwnI w B T 2 9 1 X.nv st.nonts.length (st.nonts.flatMap csT)
 skips:OwnI w B T 8 90 3 X.sk st.skips.length (st.skips.flatMap wdV)
 terms:OwnI w B T 9 90 3 X.te st.terms.length (st.terms.flatMap wdV)
 nons:OwnI w B T 10 90 3 X.no st.nons.length (st.nons.flatMap wdV)
 later:OwnI w B T 15 131 2 X.la st.later.length ((st.later.zip X.fl).flatMap fun x=>spV x.1 x.2)
 flen:X.fl.length=st.later.length
 fst:∀ x∈st.later.zip X.fl,StpV T w rb x.2 x.1
 levels:OwnI w B T 3 143 2 lv f.levels.length (f.levels.flatMap csL)
 prods:OwnI w B T 4 64 3 X.pv f.prods.length ((f.prods.zip rs).flatMap fun x=>prV x.1 x.2)
 rslen:rs.length=f.prods.length
 rights:∀ j (h:j<rs.length) (h':j<f.prods.length),OwnI w B T (100+j) 3 1 rs[j] f.prods[j].right.length (f.prods[j].right.flatMap csI)
 map:∀ m,mp=some m→T m=5∧∃ n,OwnMp w m n (a4l st.told (fun _=>none))
theorem RdW.fresh {B rb b:Nat} {T:Nat→Nat} {w:World} {X:RX} {st:RS} {f:FS} {lv:Value} {rs:List Value} {mp:Option Nat} (h:RdW B T w rb X st f lv rs mp) (hb:w.heap.size≤b):T b=0:=by
 rcases Nat.eq_zero_or_pos (T b) with h1 | h1
 · exact h1
 · have:=(h.own b (by omega)).2
   omega
theorem RdW.kept {B rb:Nat} {T T':Nat→Nat} {w w':World} {X:RX} {st:RS} {f:FS} {lv:Value} {rs:List Value} {mp:Option Nat} {F:Nat→Prop} (h:RdW B T w rb X st f lv rs mp) (hk:Kept F w w') (hF:∀ b,F b→T b=77) (ht:∀ b,b<w.heap.size→T b≠77→T' b=T b) (ho:∀ b,T' b≠0→B≤b∧b<w'.heap.size):RdW B T' w' rb X st f lv rs mp:=by
 have hk7:Kept (fun b=>T b=77) w w':=hk.mono (fun b _ e=>hF b e);have hr:=u_ h.blk;have h7:T rb≠77:=by rw [h.rt];decide
 refine ⟨hk7.blk h.blk h7,(ht rb hr h7).trans h.rt,ho,Nat.le_trans h.base hk.size,h.rules.mv hk7 (by decide) ht,h.rlen,fun x hx=>(h.rre x hx).mv hk7 ht,h.nonts.mv hk7 (by decide) ht,h.skips.mv hk7 (by decide) ht,h.terms.mv hk7 (by decide) ht,h.nons.mv hk7 (by decide) ht,h.later.mv hk7 (by decide) ht,h.flen,fun x hx=>(h.fst x hx).mv hk7 ht,h.levels.mv hk7 (by decide) ht,h.prods.mv hk7 (by decide) ht,h.rslen,fun j a b=>(h.rights j a b).mv hk7 (by omega) ht,fun m e=>?_⟩;obtain ⟨t5,n,hM⟩:=h.map m e;have h8:T m≠77:=by rw [t5];decide
 have hml:m<w.heap.size:=(h.own m (by rw [t5];decide)).2;exact ⟨(ht m hml h8).trans t5,n,hM.keep hk7 h8⟩
theorem RdW.keep {B rb:Nat} {T:Nat→Nat} {w w':World} {X:RX} {st:RS} {f:FS} {lv:Value} {rs:List Value} {mp:Option Nat} (h:RdW B T w rb X st f lv rs mp) (hb:Below w.heap.size w w'):RdW B T w' rb X st f lv rs mp:=
 h.kept (F:=fun _=>False) (Kept.of_below hb) (fun _ e=>e.elim) (fun _ _ _=>rfl) (fun b hn=>⟨(h.own b hn).1,Nat.lt_of_lt_of_le (h.own b hn).2 hb.size⟩)
theorem RdW.aside {B rb q:Nat} {T:Nat→Nat} {w F:World} {X:RX} {st:RS} {f:FS} {lv:Value} {rs:List Value} {mp:Option Nat} (h:RdW B T w rb X st f lv rs mp) (hb:Below w.heap.size w F) (h1:w.heap.size≤q) (h2:q<F.heap.size):RdW B (a0x T q 77) F rb X st f lv rs mp∧Chg T (a0x T q 77) w F:=by
 have ht:∀ b,b<w.heap.size→a0x T q 77 b=T b:=fun b hb9=>if_neg (by omega)
 refine ⟨h.kept (F:=fun _=>False) (Kept.of_below hb) (fun _ e=>e.elim) (fun b hb9 _=>ht b hb9) (fun b hn=>?_),Kept.of_below hb,ht⟩;unfold a0x at hn;split at hn
 · rename_i e;subst e;exact ⟨Nat.le_trans h.base h1,h2⟩
 · exact ⟨(h.own b hn).1,Nat.lt_of_lt_of_le (h.own b hn).2 hb.size⟩
theorem RdW.wrote {B rb q:Nat} {T:Nat→Nat} {w F:World} {X:RX} {st:RS} {f:FS} {lv:Value} {rs:List Value} {mp:Option Nat} (h:RdW B T w rb X st f lv rs mp) (hk:Kept (f_ q) w F) (hq:T q=77):RdW B T F rb X st f lv rs mp:=
 h.kept hk (fun b e=>by rw [show b=q from e,hq]) (fun _ _ _=>rfl) (fun b hn=>⟨(h.own b hn).1,Nat.lt_of_lt_of_le (h.own b hn).2 hk.size⟩)
theorem RdW.mapped {B rb m n:Nat} {T:Nat→Nat} {w F:World} {X:RX} {st:RS} {f:FS} {lv:Value} {rs:List Value} (h:RdW B T w rb X st f lv rs none) (hk:Kept (f_ rb) w F) (hb:F.heap[rb]?=some (rdK (rdC X lv st.levels st.starts f) (.int .u32 1) (.int .i32 0) (.map (some m)))) (h1:w.heap.size≤m) (h2:m<F.heap.size) (hM:OwnMp F m n (a4l st.told (fun _=>none))) :
 RdW B (a0x T m 5) F rb X st f lv rs (some m)∧Chg T (a0x T m 5) w F:=by
 have hr:=u_ h.blk;have ht:∀ b,b<w.heap.size→a0x T m 5 b=T b:=fun b hb9=>if_neg (by omega)
 have hc:Chg T (a0x T m 5) w F:=⟨hk.mono (fun k _ e=>by rw [show k=rb from e,h.rt];decide),ht⟩;have hF:∀ i,i≠99→∀ b,f_ rb b→T b≠i:=fun i hi b e=>by rw [show b=rb from e,h.rt];exact hi.symm
 refine ⟨⟨hb,(ht rb hr).trans h.rt,fun b hn=>?_,Nat.le_trans h.base hk.size,h.rules.kept hk (hF 1 (by decide)) ht,h.rlen,fun x hx=>(h.rre x hx).keep hc,h.nonts.kept hk (hF 2 (by decide)) ht,h.skips.kept hk (hF 8 (by decide)) ht,h.terms.kept hk (hF 9 (by decide)) ht,h.nons.kept hk (hF 10 (by decide)) ht,h.later.kept hk (hF 15 (by decide)) ht,h.flen,fun x hx=>(h.fst x hx).keep hc,h.levels.kept hk (hF 3 (by decide)) ht,h.prods.kept hk (hF 4 (by decide)) ht,h.rslen,fun j a b=>?_,fun m' e=>?_⟩,hc⟩
 · unfold a0x at hn
   split at hn
   · rename_i e;subst e;exact ⟨Nat.le_trans h.base h1,h2⟩
   · exact ⟨(h.own b hn).1,Nat.lt_of_lt_of_le (h.own b hn).2 hk.size⟩
 · by_cases h9:100+j=99
   · omega
   · exact (h.rights j a b).kept hk (hF (100+j) h9) ht
 · injection e with e
   subst e;exact ⟨if_pos rfl,n,hM⟩
end Go.Proofs.YtjgedijclkoemaaGreatDoor
