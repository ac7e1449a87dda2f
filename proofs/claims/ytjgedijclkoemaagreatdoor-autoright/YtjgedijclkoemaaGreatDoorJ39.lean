/- What the five laws of layer 17 share, part 39: no statement of its own. -/
import Derived.Test.YtjgedijclkoemaaGreatDoorJ26
import Derived.Test.YtjgedijclkoemaaGreatDoorJ30
import Derived.Test.YtjgedijclkoemaaGreatDoorJ38
namespace Go.Proofs.YtjgedijclkoemaaGreatDoor
open Go.RowKit Go.Maps Go.Sort
theorem OwnIt.lit0 (w:World):OwnIt (w.alloc (.cells #[] 49)) w.heap.size (.slice (some ⟨w.heap.size,0,none⟩) 0 0) []:=
 World.ownsRow_lit w #[] 0 (Nat.le_refl _) (by unfold maxLen;omega) rfl
set_option maxRecDepth 20000 in
set_option maxHeartbeats 4000000 in
theorem c2M (v:Value) (l:List Int) (w:World) (hl:l.length≤1000000) (hA:Nums w v l) :
 Calls Tryz.prog 70 #[v] w fun e w'=>∃ v',e=.returned v'∧Own w' w.heap.size v' l∧Below w.heap.size w w':=by
 have hq:∀ (w:World) (a:Option Addr) (n c n' c':Nat),(binOp .eql 41 (.slice a n c) (.slice none n' c')).run Tryz.prog w=.ok (.bool a.isNone) w:=fun w a n c n' c'=>Lib.run_eql_slice_nil w _ _ a n c n' c' Tryz.underlying41
 rcases hA.parts with ⟨rfl,rfl⟩ | ⟨ad,cap,rfl,-⟩
 · clear hA
   go_enter Tryz.func70,Tryz.ntmps70
   go_wp2;go_ret;exact ⟨_,rfl,World.ownsRow_nil _ _ _ _,Below.refl _ _⟩
 · have hal:=al' w (.cells #[] 3)
   have hO:=hid (Own.lit0 w);have hN:=hid (hA.keep hal);have hB:=hid hal;clear hA hal;obtain ⟨n,hn⟩:∃ n,Hid (l.length=n):=⟨_,hid rfl⟩;rw [hn.out] at hN hl ⊢;go_enter Tryz.func70,Tryz.ntmps70
   go_wp2_with (at_builtin;refine a9l _ rfl _ _ rfl w.heap.size [] l _ _ rfl rfl hO.out hN.out (by rw [hn.out];simp;omega) hB.out.size ?_;intro v4 w4 hO4 hb4;have hO9:=hid hO4;have hb9:=hid (hB.out.trans hb4);clear hO4 hb4)
   go_ret;exact ⟨_,rfl,hO9.out,hb9.out⟩
set_option maxRecDepth 20000 in
set_option maxHeartbeats 4000000 in
theorem c2N (v:Value) (l:List It) (w:World) (hl:l.length≤1000000) (hA:Its w v l) :
 Calls Tryz.prog 182 #[v] w fun e w'=>∃ v',e=.returned v'∧OwnIt w' w.heap.size v' l∧Below w.heap.size w w':=by
 have hq:∀ (w:World) (a:Option Addr) (n c n' c':Nat),(binOp .eql 40 (.slice a n c) (.slice none n' c')).run Tryz.prog w=.ok (.bool a.isNone) w:=fun w a n c n' c'=>Lib.run_eql_slice_nil w _ _ a n c n' c' Tryz.underlying40
 rcases hA.parts with ⟨rfl,rfl⟩ | ⟨ad,cap,rfl,-⟩
 · clear hA
   go_enter Tryz.func182,Tryz.ntmps182
   go_wp2;go_ret;exact ⟨_,rfl,OwnIt.nil0 _ _,Below.refl _ _⟩
 · have hal:=al' w (.cells #[] 49)
   have hO:=hid (OwnIt.lit0 w);have hN:=hid (hA.keep hal);have hB:=hid hal;clear hA hal;obtain ⟨n,hn⟩:∃ n,Hid (l.length=n):=⟨_,hid rfl⟩;rw [hn.out] at hN hl ⊢;go_enter Tryz.func182,Tryz.ntmps182
   go_wp2_with (at_builtin;refine a3R _ rfl _ _ rfl w.heap.size [] l _ _ rfl rfl hO.out hN.out (by rw [hn.out];simp;omega) hB.out.size ?_;intro v4 w4 hO4 hb4;have hO9:=hid hO4;have hb9:=hid (hB.out.trans hb4);clear hO4 hb4)
   go_ret;exact ⟨_,rfl,hO9.out,hb9.out⟩
end Go.Proofs.YtjgedijclkoemaaGreatDoor
namespace Go.Proofs.YtjgedijclkoemaaGreatDoor
open Go.RowKit Go.Sort Go.Lib
set_option maxRecDepth 20000 in
theorem b7m (g m:Nat) (w:World):CmpLays Tryz.prog 184 #[] itC 2 cfI g 0 m w:=fun _ _ _ _ x y=>c1G x y _
theorem a8G {w:World} {B g cap m:Nat} {d d':Array It} {os:Array Obj} (h:OwnIt w B (.slice (some ⟨g,0,none⟩) d.size cap) d.toList) (hs:d'.size=d.size):OwnIt (sortWorldK itC 2 w g 0 m d' os) B (.slice (some ⟨g,0,none⟩) d.size cap) d'.toList:=by
 have key:=a9N (m:=m) h hs (Nat.le_refl _);rw [List.take_of_length_le (by rw [Array.length_toList,hs];exact Nat.le_refl _)] at key;unfold sortWorldK;exact y_ key fun k hk=>heap_grow_old _ _ (key.lt k hk).2
theorem a6D {w:World} {B g m:Nat} {d':Array It} {os:Array Obj} (hg:B≤g) (hB:B≤w.heap.size):Below B w (sortWorldK itC 2 w g 0 m d' os):=by
 have h1:Below B w (putRowK itC 2 (Sort.ahead w m) g 0 d'):=below_putRow (Below.refl B w) hg;unfold sortWorldK;exact ⟨h1.os,h1.tape,h1.output,Nat.le_trans h1.size (by rw [Go.Sort.size_grow];omega),fun k hk=>(heap_grow_old _ _ (Nat.lt_of_lt_of_le hk (Nat.le_trans hB h1.size))).trans (h1.block k hk)⟩
set_option maxRecDepth 20000 in
set_option maxHeartbeats 1000000 in
theorem c1j (v:Value) (l:List It) (w:World) (B:Nat) (hB:B≤w.heap.size) (hl:l.length≤1000000) (hA:OwnIt w B v l) :
 Calls Tryz.prog 183 #[v,.func (.func 184) #[] #[]] w fun e w'=>e=.returned (.tuple #[])∧∃ l',l'.Perm l∧l'.Pairwise leI∧OwnIt w' B v l'∧Below B w w':=by
 rcases hA.2 with ⟨rfl,h0⟩ | ⟨g,cap,cur,rfl,hb,hg,hn,hm,hsz,ht⟩
 · have hl0:=List.length_eq_zero_iff.1 h0
   subst hl0;have hcon:=AnyF.slices_SortFunc_none { Tryz.sortIt with } none 0 (.func (.func 184) #[] #[]) w
   change Calls Tryz.prog 183 _ _ _ at hcon
   refine hcon.mono ?_;rintro e w' ⟨rfl,rfl⟩;exact ⟨rfl,[],List.Perm.refl _,List.Pairwise.nil,hA,(Below.refl _ _).mono hB⟩
 · have hg:=(hA.lt g rfl).2
   clear ht hsz hm hn;obtain ⟨d,rfl⟩:∃ d:Array It,d.toList=l:=⟨l.toArray,rfl⟩;rw [Array.length_toList] at hA hl ⊢;have eg:∀ args w,(callFunc 184 args).run Tryz.prog w=.ok (.enter 184 args) w:=enters_of Tryz.func184 (by kernel_rfl) rfl;have hcon:=AnyQ.slices_SortFunc Tryz.sortIt 2 Tryz.isAgg49 Tryz.sizeOf49 itC (fun _=>rfl) b9S cfI c4N 184 #[] g 0 cap d w eg (b7m g d.size w) (b0l hA) hg (by omega)
   change Calls Tryz.prog 183 _ _ _ at hcon
   refine hcon.mono ?_;rintro e w' ⟨rfl,d',n,os,hp,hs,rfl⟩;have hsz':d'.size=d.size:=hp.1;refine ⟨rfl,d'.toList,?_,?_,a8G hA hsz',a6D hb hB⟩
   · have h3:=hp.2.2
     rw [Array.extract_size] at h3;rw [← hsz',Array.extract_size] at h3;exact h3
   · rw [List.pairwise_iff_getElem]
     intro i j hi hj hij;simp only [Array.length_toList] at hi hj;have h:=hs i j (Nat.zero_le _) hij (by omega);rw [getElem!_pos d' j hj,getElem!_pos d' i hi,a3M] at h;have h:=of_decide_eq_false h;simp only [Array.getElem_toList];exact h
set_option maxHeartbeats 1000000 in
set_option maxRecDepth 20000 in
theorem b4w (v:Value) (l:List It) (w:World) (B:Nat) (hB:B≤w.heap.size) (hl:l.length≤1000000) (hA:OwnIt w B v l) :
 Calls Tryz.prog 185 #[v] w fun e w'=>∃ v',e=.returned v'∧OwnIt w' B v' (Lib.compact l)∧Below B w w':=by
 rcases hA.2 with ⟨rfl,h0⟩ | ⟨g,cap,cur,rfl,hb,hg,hn,hm,hsz,ht⟩
 · have hl0:=List.length_eq_zero_iff.1 h0
   subst hl0;have hA:=hid hA;go_enter Tryz.func185,Tryz.ntmps185
   go_wp2;go_ret;exact ⟨_,rfl,hA.out,(Below.refl _ _).mono hB⟩
 · clear ht hsz
   obtain ⟨d,rfl⟩:∃ d:Array It,d.toList=l:=⟨l.toArray,rfl⟩;rw [Array.length_toList] at hA hl hn ⊢;refine (b1E g cap d w (b0l hA) hl hn).mono ?_;rintro e w' ⟨rfl,q,rfl⟩
   have hcl:(compactUpTo d d.size).length≤d.size:=by
    have:=a7Y d.toList
    unfold Lib.compact at this;rw [Array.length_toList,Array.toArray_toList] at this;exact this
   have e1:Lib.compact d.toList=compactUpTo d d.size:=by
    unfold Lib.compact;rw [Array.length_toList,Array.toArray_toList]
   refine ⟨_,rfl,?_,below_putRow (Below.refl B w) hb⟩;have key:=a9N (m:=q) (d':=(compactUpTo d d.size++List.replicate (d.size - (compactUpTo d d.size).length) (0,0)).toArray) hA (by simp;omega) hcl;rw [e1];rw [List.take_left' rfl] at key;exact key
set_option maxHeartbeats 1000000 in
set_option maxRecDepth 20000 in
theorem b2D (v:Value) (l:List It) (w:World) (hl:l.length≤1000000) (hA:Its w v l) :
 Calls Tryz.prog 147 #[v] w fun e w'=>∃ v' m,e=.returned v'∧m.Pairwise ltI∧(∀ x,x∈m↔x∈l)∧m.length≤l.length∧OwnIt w' w.heap.size v' m∧Below w.heap.size w w':=by
 have G1:=hid (c2N v l w hl hA);have G2:=hid (fun v' l' u (hB:w.heap.size≤u.heap.size) hl' h=>c1j v' l' u w.heap.size hB hl' h);have G3:=hid (fun v' l' u (hB:w.heap.size≤u.heap.size) hl' h=>b4w v' l' u w.heap.size hB hl' h);clear hA;go_enter Tryz.func147,Tryz.ntmps147
 go_wp2_with (first
  | (go_at_call 182;refine G1.out.mono ?_;clear G1;rintro e w1 ⟨v1,rfl,hO1,hc1⟩;have hO1:=hid hO1;have hc1:=hid hc1)
  | (go_at_call 183;refine (G2.out _ l w1 hc1.out.size hl hO1.out).mono ?_;clear G2 hO1;rintro e w2 ⟨rfl,l2,hp2,hs2,hO2,hc2⟩;have hO2:=hid hO2;have hc2:=hid (hc1.out.trans hc2);have hp2:=hid hp2;have hs2:=hid hs2)
  | (go_at_call 185;refine (G3.out _ l2 w2 hc2.out.size (by rw [hp2.out.length_eq];exact hl) hO2.out).mono ?_;clear G3 hO2;rintro e w3 ⟨v3,rfl,hO3,hc3⟩;have hO3:=hid hO3;have hc3:=hid (hc2.out.trans hc3)))
 go_ret;exact ⟨_,_,rfl,a8t _ hs2.out,fun x=>by rw [a7F,hp2.out.mem_iff],Nat.le_trans (a7Y _) (Nat.le_of_eq hp2.out.length_eq),hO3.out,hc3.out⟩
end Go.Proofs.YtjgedijclkoemaaGreatDoor
namespace Go.Proofs.YtjgedijclkoemaaGreatDoor
open Go.RowKit Go.Maps Go.Sort
set_option maxRecDepth 20000 in
set_option maxHeartbeats 4000000 in
theorem b9u (g:Gm) (rv nv lv pv:Value) (bx:Nat) (u:World) (hV:GmV u rv nv lv pv g) (hk:u.heap[bx]?=some (.cells #[rv,nv,lv,pv,.int .i64 g.start] 27 (0,0))) (hbx:bx<u.heap.size) :
 PredBelow Tryz.prog 43 #[.pointer (some ⟨bx,0,none⟩)] (fun x=>.agg (itC x).toArray) (fun x=>!itB g x) u:=fun W x hb=>by
 obtain ⟨x1,x2⟩:=x
 show Calls Tryz.prog 43 #[.agg #[.int .i64 x1,.int .i64 x2],.pointer (some ⟨bx,0,none⟩)] W fun e w'=>e=.returned (.bool (!itB g (x1,x2)))∧Below u.heap.size u w'
 have hal:=al' W (.cells #[.int .i64 x1,.int .i64 x2] 49);have hB1:=a_ hb hal;obtain ⟨z0,z1⟩:=w_ (b_ W (.cells #[.int .i64 x1,.int .i64 x2] 49));have hk1:=(hb.block bx hbx).trans hk;have hbW:bx<W.heap.size:=Nat.lt_of_lt_of_le hbx hb.size;obtain ⟨y0,y1,y2,y3,y4⟩:=l_ ((hal.block bx hbW).trans hk1);have hne:bx≠W.heap.size:=by omega
 have GI:=hid (b9W g rv nv lv pv (x1,x2) (W.alloc (.cells #[.int .i64 x1,.int .i64 x2] 49)) ((hV.keep hb).keep hal));have hB:=hid hB1;clear hV hk hb hal hB1 hk1;generalize itB g (x1,x2)=R at *;generalize g.start=st at *;obtain ⟨W2,hW⟩:∃ x,W.alloc (.cells #[.int .i64 x1,.int .i64 x2] 49)=x:=⟨_,rfl⟩;rw [hW] at z0 z1 y0 y1 y2 y3 y4 GI hB;go_enter Tryz.func43,Tryz.ntmps43
 go_wp2_with (go_at_call 44;refine GI.out.mono ?_;clear GI;rintro e w3 ⟨rfl,hc3⟩;have hc3:=hid hc3)
 go_ret;exact ⟨rfl,a_ hB.out hc3.out⟩
set_option maxRecDepth 20000 in
set_option maxHeartbeats 4000000 in
theorem b7A (g:Gm) (rv nv lv pv v:Value) (l:List It) (bx:Nat) (u:World) (hV:GmV u rv nv lv pv g) (hk:u.heap[bx]?=some (.cells #[rv,nv,lv,pv,.int .i64 g.start] 27 (0,0))) (hbx:bx<u.heap.size) (hl:l.length≤1000000) (hI:Its u v l) :
 Calls Tryz.prog 42 #[v,.func (.func 43) #[] #[.pointer (some ⟨bx,0,none⟩)]] u fun e w'=>e=.returned (.bool (l.any fun x=>!itB g x))∧Below u.heap.size u w':=by
 by_cases h0:0<l.length
 · obtain ⟨b,o,cp,rfl,hlt,hat⟩:∃ b o cp,v=.slice (some ⟨b,o,none⟩) l.length cp∧b<u.heap.size∧∀ j (hj:j<l.length),u.cell? ⟨b,o+j * 2,none⟩=some (.int .i64 l[j].1)∧u.cell? ⟨b,o+j * 2+1,none⟩=some (.int .i64 l[j].2):=by
    obtain ⟨a,cp,rfl,-,-,hat⟩:=hI;obtain ⟨b,o,e,hlt,-⟩:=hat 0 h0;subst e;refine ⟨b,o,cp,rfl,hlt,fun j hj=>?_⟩;obtain ⟨b',o',e,-,h1,h2⟩:=hat j hj;injection e with e;injection e with e1 e2;subst e1 e2;exact ⟨h1,h2⟩
   have eg:∀ args w,(callFunc 43 args).run Tryz.prog w=.ok (.enter 43 args) w:=enters_of Tryz.func43 (by kernel_rfl) rfl
   have hcon:=AnyQ.slices_ContainsFunc Tryz.anyIt 2 Tryz.isAgg49 Tryz.sizeOf49 itC (fun _=>rfl) (fun x=>!itB g x) 43 #[.pointer (some ⟨bx,0,none⟩)] eg b o l.length cp l u (b9u g rv nv lv pv bx u hV hk hbx) (Nat.le_refl _) (by omega) hlt (fun j hj i w hi=>by
    obtain ⟨h1,h2⟩:=hat j hj;rw [getElem!_pos l j hj] at hi
    match i,hi with
    | 0,hi=>simp [itC] at hi;rw [← hi];exact h1
    | 1,hi=>simp [itC] at hi;rw [← hi];exact h2
    | i+2,hi=>simp [itC] at hi)
   change Calls Tryz.prog 42 _ _ _ at hcon
   rw [List.take_length] at hcon;exact hcon
 · obtain rfl:=List.length_eq_zero_iff.1 (Nat.le_zero.1 (Nat.not_lt.1 h0))
   obtain ⟨a,c,rfl⟩:=hI.shape
   have GX:∀ f u',Calls Tryz.prog 68 #[.slice a 0 c,f] u' fun e w'=>e=.returned (.int .i64 (-1))∧w'=u':=fun f u'=>by
    go_enter Tryz.func68,Tryz.ntmps68
    go_wp2;refine wp_loop_rounds 1 ?_;rw [rounds_succ];go_wp2;go_ret;exact ⟨rfl,rfl⟩
   have GX:=hid GX;clear hV hk hbx hI h0 hl
   show Calls Tryz.prog 42 #[.slice a 0 c,.func (.func 43) #[] #[.pointer (some ⟨bx,0,none⟩)]] u _
   go_enter Tryz.func42,Tryz.ntmps42
   go_wp2_with (go_at_call 68;refine (GX.out _ _).mono ?_;clear GX;rintro e w3 ⟨rfl,rfl⟩)
   go_ret;exact ⟨rfl,Below.refl _ _⟩
theorem c0F (g:Gm) (l:List It):(!l.any fun x=>!itB g x)=l.all (itB g):=by
 rw [Bool.eq_iff_iff,Bool.not_eq_true',List.any_eq_false,List.all_eq_true];exact ⟨fun h x hx=>by simpa using h x hx,fun h x hx=>by simpa using h x hx⟩
set_option maxRecDepth 20000 in
set_option maxHeartbeats 4000000 in
theorem b2F (g:Gm) (rv nv lv pv v:Value) (l:List It) (w:World) (hf:Fits12 g) (hV:GmV w rv nv lv pv g) (hI:Its w v l) (hl:l.length≤1000) :
 Calls Tryz.prog 23 #[gmA rv nv lv pv g.start,v] w fun e w'=>e=.returned (.bool (c0M g l))∧Below w.heap.size w w':=by
 have GH:=hid (fun u (hu:Below w.heap.size w u)=>c4A g rv nv lv pv u (hV.keep hu) hf.bnd hf.names);have GA:=hid (fun u bx (hu:Below w.heap.size w u) hk hbx=>b7A g rv nv lv pv v l bx u (hV.keep hu) hk hbx (by omega) (hI.keep hu));have hB1:=al' w (.cells #[rv,nv,lv,pv,.int .i64 g.start] 27);have k1:=b_ w (.cells #[rv,nv,lv,pv,.int .i64 g.start] 27);have hsz:w.heap.size<(w.alloc (.cells #[rv,nv,lv,pv,.int .i64 g.start] 27)).heap.size:=by rw [World.size_alloc];omega
 obtain ⟨W,hW⟩:∃ x,w.alloc (.cells #[rv,nv,lv,pv,.int .i64 g.start] 27)=x:=⟨_,rfl⟩;rw [hW] at hB1 k1 hsz;obtain ⟨y0,y1,y2,y3,y4⟩:=l_ k1;have hB:=hid hB1;have hK:=hid (fun u (hu:Below W.heap.size W u)=>g_ k1 hu);have hS:=hid (fun u (hu:Below W.heap.size W u)=>Nat.lt_of_lt_of_le hsz hu.size);unfold c0M;rw [← c0F];clear hV hI hl hB1 k1 hsz hf;generalize (l.any fun x=>!itB g x)=R at *;generalize g.start=st at *;cases hU:usB g with
 | true =>
  rw [hU] at GH;clear hU;rw [Bool.true_and];go_enter Tryz.func23,Tryz.ntmps23
  go_wp2_with (first
   | (go_at_call 41;refine (GH.out _ hB.out).mono ?_;clear GH;rintro e w3 ⟨rfl,hc3⟩;have hc3:=hid hc3)
   | (go_at_call 42;refine (GA.out _ _ (a_ hB.out hc3.out) (hK.out _ hc3.out) (hS.out _ hc3.out)).mono ?_;clear GA;rintro e w4 ⟨rfl,hc4⟩;have hc4:=hid hc4))
  go_ret;exact ⟨rfl,a_ hB.out (a_ hc3.out hc4.out)⟩
 | false =>
  rw [hU] at GH;clear hU;rw [Bool.false_and];go_enter Tryz.func23,Tryz.ntmps23
  go_wp2_with (go_at_call 41;refine (GH.out _ hB.out).mono ?_;clear GH;rintro e w3 ⟨rfl,hc3⟩;have hc3:=hid hc3)
  go_ret;exact ⟨rfl,a_ hB.out hc3.out⟩
theorem b6k {g:Gm} (hg:UsG g) (x:It):0≤a0k g x∧a0k g x≤1000:=by
 have hall:(g.all:Int)≤32:=by
  have h1:g.terms≤g.rules.length:=a0d g.rules _
  have:=hg.snd.rules
  have:=hg.snd.nonts
  unfold Gm.all;omega
 refine ⟨a4m hg x,?_⟩;unfold a0k;rw [List.getD_eq_getElem?_getD];cases e:(a0e g x.1)[x.2.toNat]? with
 | none=>rw [Option.getD_none];omega
 | some s =>
  rw [Option.getD_some];have hs:=List.mem_of_getElem? e;unfold a0e at hs;by_cases h:x.1<0
  · rw [if_pos h,List.mem_singleton] at hs
    have:=(hg.snd.start hg.some).2
    omega
  · rw [if_neg h,List.getD_eq_getElem?_getD] at hs
    cases e2:g.prods[x.1.toNat]? with
    | none=>rw [e2,Option.getD_none] at hs;cases hs
    | some p =>
     rw [e2,Option.getD_some] at hs
     have:=hg.snd.prod p (List.mem_of_getElem? e2)
     unfold pdB at this;simp only [Bool.and_eq_true,decide_eq_true_eq,List.all_eq_true] at this
     have:=(this.2 s hs).2
     omega
def c3g (D:DataW Unit) (s:Int):DataW Unit:=D.put (.int .i64 s) (.agg [])
def dU (M:List Int):DataW Unit:=M.foldl c3g (.map [])
theorem c0q (M:List Int) (s:Int):dU (M++[s])=(dU M).put (.int .i64 s) (.agg []):=by unfold dU;rw [List.foldl_append];rfl
theorem b0q:∀ (M:List Int) (D:DataW Unit) (s:Int),IsMap D→has (M.foldl c3g D) (.int .i64 s)=(has D (.int .i64 s) || M.contains s)
 | [],D,s,_=>by simp
 | x :: M,D,s,hD=>by
  rw [List.foldl_cons,b0q M (c3g D x) s (hD.put _ _),List.contains_cons];unfold c3g;by_cases e:s=x
  · subst e
    rw [has_put_same hD (show WideAt.IsKeyLit (Lit.int .i64 s) from trivial),beq_self_eq_true];simp
  · rw [has_put_other (fun h=>e (by injection h)),beq_eq_false_iff_ne.2 e,Bool.false_or]
set_option maxRecDepth 20000 in
theorem c2I (M:List Int) (s:Int):has (dU M) (.int .i64 s)=M.contains s:=by
 unfold dU;rw [b0q M _ s isMap_empty];rfl
abbrev c4G (u:World) (mb n:Nat) (M:List Int):Prop:=u.ownsMap Tryz.prog 3 (unitElem (H:=Unit)) mb n (dU M)
set_option maxRecDepth 20000 in
theorem c4y:Keyed Tryz.prog 3:=int_keyed Tryz.underlying3
set_option maxRecDepth 20000 in
theorem b3O {x:Int} (h:-9223372036854775808≤x∧x≤9223372036854775807):keyOf Tryz.prog 3 (.int .i64 x)=some (.int .i64 x):=keyOf_int_mk Tryz.underlying3 (WalkArith.wf_i64 h)
structure CloM (W u:World) (B mb:Nat) (va:Value) (A:List It) (M:List Int):Prop where
 row:OwnIt u B va A
 map:c4G u mb M.length M
 low:Below B W u
 dis:∀ k,va.ownBlock=some k→k≠mb
 hmb:B≤mb
 hB:B≤W.heap.size
section
variable {W u:World} {B mb:Nat} {va:Value} {A:List It} {M:List Int}
theorem CloM.sz (h:CloM W u B mb va A M):B≤u.heap.size:=Nat.le_trans h.hB h.low.size
theorem CloM.keep (h:CloM W u B mb va A M) {u':World} (hb:Below u.heap.size u u'):CloM W u' B mb va A M where
 row:=j_ h.row hb
 map:=by
  have hlt:=h.map.lt;obtain ⟨es,clock,e1,e2⟩:=h.map;exact ⟨es,clock,(hb.block mb hlt).trans e1,e2⟩
 low:=h.low.trans (hb.mono h.sz)
 dis:=h.dis
 hmb:=h.hmb
 hB:=h.hB
set_option maxRecDepth 20000 in
theorem CloM.look (h:CloM W u B mb va A M) {s:Int} (hs:0≤s∧s≤1000):(Instr.lookup 198 (.map (some mb)) (.int .i64 s) true).run Tryz.prog u=.ok (.tuple #[.agg #[],.bool (M.contains s)]) u:=by
 obtain ⟨c,ps,hrun,hR⟩:=h.map.look_ok c4y Tryz.underlying198 (Tryz.zeroValue91 u) (unitElem_mk (H:=Unit)) (b3O (x:=s) (by omega));obtain ⟨rfl,-⟩:=unitElem_inv hR;rw [hrun,c2I]
set_option maxRecDepth 20000 in
theorem CloM.put (h:CloM W u B mb va A M) {s:Int} (hs:0≤s∧s≤1000) (hM:M.length≤1000000):∃ u',(Instr.mapUpdate 198 (.map (some mb)) (.int .i64 s) (.agg #[])).run Tryz.prog u=.ok () u'∧CloM W u' B mb va A (M++[s]):=by
 obtain ⟨u',hrun,r1,r2⟩:=World.ownsMap.update h.map c4y Tryz.underlying198 (by unfold maxLen;omega) (b3O (x:=s) (by omega)) (unitElem_mk (H:=Unit));refine ⟨u',hrun,?_,?_,h.low.grown r2 h.sz (fun k hk=>by injection hk with hk;have:=h.hmb;omega),h.dis,h.hmb,h.hB⟩
 · exact y_ h.row fun k hk=>r2.block k (h.row.lt k hk).2 (fun e=>h.dis k hk (by injection e))
 · unfold c4G
   rw [c0q,List.length_append];exact r1
set_option maxRecDepth 20000 in
theorem CloM.add1 (h:CloM W u B mb va A M) (a b:Int) (hn:A.length≤1000000) :
 ∃ v' u',(Builtin.append_ #[40,40] 40 #[va,.slice (some ⟨u.heap.size,0,none⟩) 1 1]).run Tryz.prog (u.alloc (.cells #[.int .i64 a,.int .i64 b] 49))=.ok v' u'∧CloM W u' B mb v' (A++[(a,b)]) M:=by
 obtain ⟨i0,hi,hz0,hz1,hz2⟩:=info_parts b0j;have hk:=h.keep (al' u (.cells #[.int .i64 a,.int .i64 b] 49));have hN:=Its.lit1 u a b;rcases hN.parts with ⟨e,-⟩ | ⟨ad,cap,e,hnews⟩
 · cases e
 · injection e with e1 e2 e3
   injection e1 with e1;subst e1 e3;obtain ⟨v',u',hap,hown,hgr,-,hloc⟩:=run_append_own_at (P:=Tryz.prog) (u.alloc (.cells #[.int .i64 a,.int .i64 b] 49)) B 40 40 49 i0 (.agg #[.int .i64 0,.int .i64 0]) 2 16 Tryz.underlying40 hi hz0 hz1 hz2 rfl (by decide) _ _ _ hk.row ⟨u.heap.size,0,none⟩ 1 1 (z_ [(a,b)]) rfl hnews (a2a _) (by unfold maxLen;omega) (by omega) hk.sz;have hlt:=hk.map.lt;refine ⟨v',u',hap,?_,?_,hk.low.grown hgr hk.sz (fun j hj=>(hk.row.lt j hj).1),fun k e=>?_,h.hmb,h.hB⟩
   · unfold OwnIt
     rw [a1e,List.length_append];exact hown
   · exact hk.map.kept hgr (fun e=>hk.dis mb e.symm rfl)
   · rcases hloc with h9 | h9
     · rw [h9] at e
       exact hk.dis k e
     · rw [h9] at e
       injection e with e;omega
end
theorem CloM.start {W w1:World} {v1:Value} {m:List It} (hO1:OwnIt w1 W.heap.size v1 m) (hc1:Below W.heap.size W w1):CloM W (w1.alloc (.map #[] 0)) W.heap.size w1.heap.size v1 m [] where
 row:=j_ hO1 (al' w1 _)
 map:=World.ownsMap_made w1 _ _ _
 low:=a_ hc1 (al' w1 _)
 dis k hk:=by
  have:=(hO1.lt k hk).2
  omega
 hmb:=hc1.size
 hB:=Nat.le_refl _
set_option maxRecDepth 100000 in
set_option maxHeartbeats 16000000 in
theorem b7o (g:Gm) (rv nv lv pv v:Value) (l:List It) (w:World) (hV:GmV w rv nv lv pv g) (hr:RgtI g l) (hl:l.length≤100000) (hI:Its w v l) :
 Calls Tryz.prog 100 #[gmA rv nv lv pv g.start,v] w fun e w'=>∃ v',e=.returned v'∧OwnIt w' w.heap.size v' (a3q g l)∧Below w.heap.size w w':=by
 have hg:=hr.us.snd;have GN:=hid (fun u (hu:Below w.heap.size w u) x hx=>c0D g _ _ _ _ x u (hV.keep hu) hx);have GR:=hid (fun u v' l' (hl':l'.length≤1000000) (h:Its u v' l')=>b2D v' l' u hl' h);have hbn:=hid (fun x=>b6k hr.us x);obtain ⟨pa,pc,rfl⟩:=hV.prods.shape;have hB1:=al' w (.cells #[rv,nv,lv,.slice pa g.prods.length pc,.int .i64 g.start] 27);have k1:=b_ w (.cells #[rv,nv,lv,.slice pa g.prods.length pc,.int .i64 g.start] 27);obtain ⟨W,hW⟩:∃ x,w.alloc (.cells #[rv,nv,lv,.slice pa g.prods.length pc,.int .i64 g.start] 27)=x:=⟨_,rfl⟩;rw [hW] at hB1 k1;have hk1:=hid (fun u (hu:Below W.heap.size W u)=>l_ (g_ k1 hu));have hB:=hid hB1
 have hKp:Hid (∀ u,Below w.heap.size w u→∀ k (hk:k<g.prods.length),∃ b o,pa=some ⟨b,o,none⟩∧∃ ra rn rc pr,u.cell? ⟨b,o+k * 3,none⟩=some (.int .i64 g.prods[k].left)∧u.cell? ⟨b,o+k * 3+1,none⟩=some (.slice ra rn rc)∧u.cell? ⟨b,o+k * 3+2,none⟩=some (.int .i64 pr)):=hid (fun u hu k hk=>by
  obtain ⟨b,o,e,-,hx⟩:=(hV.keep hu).prods.at hk;obtain ⟨v,x0,x1,x2,hN⟩:=hx;obtain ⟨ra,rc,rfl,-⟩:=hN;exact ⟨b,o,e,_,_,_,_,x0,x1,x2⟩)
 have hpp:g.prods.length≤40:=hg.prods;have G1:=hid (b2D v l W (by omega) (hI.keep hB1));have hcI:=hid (fun b (hb:∀ x,x∈b↔x∈l) x (hx:CloG g b x)=>a0f (g:=g) (l:=b) (fun y hy=>hr.all y ((hb y).1 hy)) hx);have hfin:=hid (fun b m (hb:∀ x,x∈b↔x∈l) (hm:m.Pairwise ltI) (hx:∀ x,x∈m↔CloG g b x)=>c0V hr.all hb hm hx);have hbr:=hid (fun s k (hk:k<g.prods.length)=>b0G (g:=g) hk s);clear hV hg hB1 k1 hI hr;obtain ⟨pp,hp9⟩:∃ n,Hid (g.prods.length=n):=⟨_,hid rfl⟩;rw [hp9.out] at GN hk1 hpp hW ⊢;generalize g.start=st at *;have hsW:Hid (w.heap.size<W.heap.size):=hid (by rw [← hW,World.size_alloc];omega);have hmm:∀ u:World,(Instr.makeMap 198 none).run Tryz.prog u=.ok (.map (some u.heap.size)) (u.alloc (.map #[] 0)):=fun _=>rfl
 go_enter Tryz.func100,Tryz.ntmps100
 go_wp2_with (go_at_call 147;refine G1.out.mono ?_;clear G1;rintro e w1 ⟨v1,m,rfl,hup,hmem,hml,hO1,hc1⟩;have hM0:=hid (CloM.start hO1 hc1);have hmem:=hid hmem;clear hup hO1 hc1)
 clear hW hmm;obtain ⟨mb,hmb⟩:∃ x,x=w1.heap.size:=⟨_,rfl⟩;rw [← hmb] at hM0
 try rw [← hmb]
 obtain ⟨ln,hln⟩:∃ n,Hid (m.length=n):=⟨_,hid rfl⟩;have hcl:=hid (fun A n M (h:ClI g m A n M)=>h.len);rw [hln.out,hp9.out] at hcl;rw [hln.out] at hml;have hC0:=hid (ClI.start g m);clear hmb;go_loopw [5,7] (fun a5 a7 u=>∃ (A:List It) (n:Nat) (M:List Int),a7=.int .i64 (n:Int)∧n≤A.length∧A.length≤ln+pp∧Hid (CloM W u W.heap.size mb a5 A M)∧Hid (ClI g m A n M)) (fun _ a7 _=>ln+pp+1 - (intOf a7).toNat)
 case atStart=>exact ⟨m,0,[],rfl,Nat.zero_le _,by rw [hln.out];omega,hM0,hC0⟩
 case round =>
  clear hM0 hC0;obtain ⟨A,n,M,rfl,hn,hAl,hM,hC⟩:=hrel;obtain ⟨oa,oc,rfl⟩:=(Its.of_row hM.out.row).shape;obtain ⟨y0,y1,y2,y3,y4⟩:=hk1.out _ hM.out.low;by_cases hlt:n<A.length
  · have hltz:(n:Int)<(A.length:Int):=by omega
    obtain ⟨b,o,e,-,z0,z1⟩:=Lst.at (Its.of_row hM.out.row) hlt;subst e;have hx:=hcI.out m hmem.out _ (hC.out.clo _ (List.getElem_mem hlt));have cA:Hid (∀ d os,Calls Tryz.prog 148 #[gmA rv nv lv (.slice pa pp pc) st,itV A[n]] (grow (redrawn wr d) os) fun e w''=>e=.returned (.int .i64 (a0k g A[n]))∧∃ p:Regrown,w''=grow (redrawn wr p.d) p.os):=hid (fun d os=>Calls.regrown_of (GN.out _ (a_ hB.out (a_ hM.out.low (below_regrown wr d os))) _ hx));have z0:=cell_regrown z0;have z1:=cell_regrown z1;have y0:=cell_regrown y0;have y1:=cell_regrown y1;have y2:=cell_regrown y2;have y3:=cell_regrown y3;have y4:=cell_regrown y4;have hbs:=hbn.out A[n];have hsk:=hid (hC.out.skip hlt);have hmo:=hid (hC.out.more hlt);clear hx;generalize a0k g A[n]=sy at *;obtain ⟨Al,hAn⟩:∃ x,Hid (A.length=x):=⟨_,hid rfl⟩;rw [hAn.out] at hAl hlt hltz hn ⊢;go_wp2_with fail
    refine wp_region_quiet_below (by kernel_rfl) (by kernel_rfl) ?_
    repeat (first | go_big_quiet_step (exact cA.out _ _) | quiet_step (exact cA.out _ _))
    refine wpQuiet_nil ?_;intro _ hw';obtain ⟨⟨dq,osq⟩,hw''⟩:=hw';subst hw'';have hM6:=hid (hM.out.keep (below_regrown wr dq osq));generalize grow (redrawn wr dq) osq=w6 at *;clear z0 z1 y0 y1 y2 y3 y4 cA hM;have hlk:=hM6.out.look hbs;have hal:=al' w6 (.cells #[] 91);have hM7:=hid (hM6.out.keep hal);clear hal;cases hc:M.contains sy with
    | true =>
     rw [hc] at hlk;have hT:=hid (hsk.out (List.contains_iff_mem.1 hc));clear hsk hmo hc hC;go_wp2;go_roundw
     case rel=>exact ⟨A,n+1,M,by go_num,by rw [hAn.out];omega,by rw [hAn.out];exact hAl,by rw [← hAn.out] at *;exact hM7,hT⟩
     case measure=>simp [intOf];omega
    | false =>
     rw [hc] at hlk;have hT:=hid (hmo.out (fun h=>by rw [List.contains_iff_mem.2 h] at hc;cases hc));clear hsk hmo hc;obtain ⟨w8,hup,hM8⟩:=hM7.out.put hbs (by have:=hC.out.few;omega);have hM8a:=hid hM8;clear hM8 hC;obtain ⟨y0,y1,y2,y3,y4⟩:=hk1.out _ hM8a.out.low;have hA0:Hid (CloM W w8 W.heap.size mb (.slice (some ⟨b,o,none⟩) Al oc) (A++brK g sy 0) (M++[sy])):=hid (by rw [b7u,List.append_nil,← hAn.out];exact hM8a.out);have hcl9:=hid (hcl.out _ _ _ hT.out);have hlen9:=hid (fun k=>c0z g sy k);clear hM8a hM7 hM6;go_wp2;clear hup hlk y0 y1 y2 y3 y4;go_loopw [5,41] (fun a5 i u=>∃ k:Nat,k≤pp∧i=.int .i64 (k:Int)∧Hid (CloM W u W.heap.size mb a5 (A++brK g sy k) (M++[sy]))) (fun _ i _=>pp - (intOf i).toNat)
     case atStart=>exact ⟨0,Nat.zero_le _,rfl,hA0⟩
     case round =>
      clear hA0;obtain ⟨k,hk,rfl,hM9⟩:=hrel;obtain ⟨ca,cc,rfl⟩:=(Its.of_row hM9.out.row).shape;by_cases hkp:k<pp
      · have hkz:(k:Int)<(pp:Int):=by omega
        have hkl:k<g.prods.length:=by rw [hp9.out];exact hkp
        obtain ⟨pb,po,e,ra,rn,rc,pr,x0,x1,x2⟩:=hKp.out wr (a_ hB.out hM9.out.low) k hkl;subst e;have hbk:=hbr.out sy k hkl;generalize g.prods[k].left=lf at *;have hMa:=hid (hM9.out.keep (al' wr (.cells #[.int .i64 lf,.slice ra rn rc,.int .i64 pr] 64)));by_cases hd:lf=sy
        · subst hd
          rw [if_pos rfl] at hbk;have hbk:=hid hbk;have hl9:(A++brK g lf k).length≤1000000:=by rw [List.length_append,hAn.out];have:=hlen9.out k;omega
          obtain ⟨v8,u8,hap,hM8⟩:=hMa.out.add1 (k:Int) 0 hl9;have hM8:=hid hM8;rw [World.size_alloc] at hap;clear hl9 hMa hM9;generalize (A++brK g lf k).length=cl at *;go_wp2_with (at_builtin;refine b1V _ rfl _ _ _ rfl _ _ rfl rfl hap ?_;clear hap)
          go_roundw
          case rel=>exact ⟨k+1,by omega,by go_num,by rw [hbk.out,← List.append_assoc];exact hM8⟩
          case measure=>simp [intOf];omega
        · rw [if_neg hd] at hbk
          have hbk:=hid hbk;have hdz:(lf == sy)=false:=beq_eq_false_iff_ne.2 hd;clear hM9;generalize (A++brK g sy k).length=cl at *;go_wp2;go_roundw
          case rel=>exact ⟨k+1,by omega,by go_num,by rw [hbk.out];exact hMa⟩
          case measure=>simp [intOf];omega
      · have hkz:¬ (k:Int)<(pp:Int):=by omega
        obtain rfl:k=pp:=by omega
        have hT2:Hid (CloM W wr W.heap.size mb (.slice ca (A++brK g sy k).length cc) (A++brG g sy) (M++[sy])):=hid (by unfold brG;rw [hp9.out];exact hM9.out);have hle2:=hid hT.out.le;clear hM9;generalize (A++brK g sy k).length=cl at *;go_wp2;go_roundw
        case rel=>exact ⟨_,n+1,_,by go_num,hle2.out,hcl9.out,hT2,hT⟩
        case measure=>simp [intOf];omega
  · have hnz:¬ (n:Int)<(A.length:Int):=by omega
    obtain rfl:n=A.length:=by omega
    go_wp2_with (go_at_call 147;refine (GR.out _ _ A (by omega) (Its.of_row hM.out.row)).mono ?_;rintro e w5 ⟨v5,m5,rfl,hup,hmem5,hml5,hO5,hc5⟩;have hO5:=hid hO5;have hc5:=hid hc5;have hmem5:=hid hmem5;have hup:=hid hup)
    go_ret;have e5:=hfin.out m m5 hmem.out hup.out (fun x=>by rw [hmem5.out x];exact hC.out.done x);exact ⟨_,rfl,by rw [← e5];exact a0o hO5.out (a_ hB.out hM.out.low).size,a_ hB.out (a_ hM.out.low hc5.out)⟩
set_option maxRecDepth 20000 in
set_option maxHeartbeats 4000000 in
theorem b1G (g:Gm) (rv nv lv pv v:Value) (l:List It) (w:World) (hf:Fits12 g) (hr:RgtI g l) (hV:GmV w rv nv lv pv g) (hI:Its w v l) (hl:l.length≤1000) :
 Calls Tryz.prog 73 #[gmA rv nv lv pv g.start,v] w fun e w'=>∃ v',e=.returned v'∧OwnIt w' w.heap.size v' (a3q g l)∧Below w.heap.size w w':=by
 have GR:=hid (fun u (hu:Below w.heap.size w u)=>b2F g rv nv lv pv v l u hf (hV.keep hu) (hI.keep hu) hl);have GC:=hid (fun u (hu:Below w.heap.size w u)=>b7o g rv nv lv pv v l u (hV.keep hu) hr (by omega) (hI.keep hu));rw [a9E hr] at GR;have hB1:=al' w (.cells #[rv,nv,lv,pv,.int .i64 g.start] 27);have k1:=b_ w (.cells #[rv,nv,lv,pv,.int .i64 g.start] 27);obtain ⟨W,hW⟩:∃ x,w.alloc (.cells #[rv,nv,lv,pv,.int .i64 g.start] 27)=x:=⟨_,rfl⟩;rw [hW] at hB1 k1;obtain ⟨y0,y1,y2,y3,y4⟩:=l_ k1;have hB:=hid hB1;have hk1:=hid (fun u (hu:Below W.heap.size W u)=>l_ (g_ k1 hu));clear hV hI hf hB1 k1 hr;generalize g.start=st at *;go_enter Tryz.func73,Tryz.ntmps73
 go_wp2_with (first
  | (go_at_call 23;refine (GR.out _ hB.out).mono ?_;clear GR;rintro e w3 ⟨rfl,hc3⟩;have hc3:=hid hc3;clear y0 y1 y2 y3 y4;obtain ⟨y0,y1,y2,y3,y4⟩:=hk1.out _ hc3.out)
  | (go_at_call 100;refine (GC.out _ (a_ hB.out hc3.out)).mono ?_;clear GC;rintro e w4 ⟨v4,rfl,hO4,hc4⟩;have hO4:=hid hO4;have hc4:=hid (a_ hc3.out hc4)))
 go_ret;exact ⟨_,rfl,a0o hO4.out (Nat.le_trans hB.out.size (by have:=hc3.out.size;omega)),a_ hB.out hc4.out⟩
end Go.Proofs.YtjgedijclkoemaaGreatDoor
namespace Go.Proofs.YtjgedijclkoemaaGreatDoor
open Go.RowKit Go.ChangeShapes Go.WideShapes
theorem c0k:prs exI=some (t_ exI):=b7R b4k c0l
end Go.Proofs.YtjgedijclkoemaaGreatDoor
