/- What the five laws of layer 17 share, part 30: no statement of its own. -/
import Derived.Test.YtjgedijclkoemaaGreatDoorJ29
import Derived.Deep.LoopGhost
import Derived.Lib.SliceRun
import Derived.Shelf.GgClosure.Gives
import Derived.Shelf.GgSortFunc.InsertionK
import Derived.Shelf.SlSortCmp.InsertionK
import Derived.Shelf.SlSortCmp.QuietGrown
import Derived.Sort.WalkB12
namespace Go.Proofs.YtjgedijclkoemaaGreatDoor
open Go.RowKit Go.Maps Go.Sort
set_option maxRecDepth 20000 in
set_option maxHeartbeats 4000000 in
theorem c4A (g:Gm) (rv nv lv pv:Value) (w:World) (hV:GmV w rv nv lv pv g) (hb:BndG g) (hnl:∀ t∈g.allN,t.length≤1000000) :
 Calls Tryz.prog 41 #[gmA rv nv lv pv g.start] w fun e w'=>e=.returned (.bool (usB g))∧Below w.heap.size w w':=by
 have GS:=hid (fun u (hu:Below w.heap.size w u)=>c1h g _ _ _ _ u (hV.keep hu) hb hnl);obtain ⟨na,nc,rfl⟩:=hV.nonts.shape;have hB1:=al' w (.cells #[rv,.slice na g.nonts.length nc,lv,pv,.int .i64 g.start] 27);have k1:=b_ w (.cells #[rv,.slice na g.nonts.length nc,lv,pv,.int .i64 g.start] 27);obtain ⟨W,hW⟩:∃ x,w.alloc (.cells #[rv,.slice na g.nonts.length nc,lv,pv,.int .i64 g.start] 27)=x:=⟨_,rfl⟩;rw [hW] at hB1 k1;obtain ⟨y0,y1,y2,y3,y4⟩:=l_ k1;have GS:=hid (GS.out W hB1);have hB:=hid hB1;by_cases hn:0<g.nonts.length
 · rw [b1Y hn]
   have hnz:(0:Int)<(g.nonts.length:Int):=by omega
   clear hV hb hnl hB1 k1 hn;generalize a1q g=SB at *;generalize g.nonts.length=nn at *;generalize g.start=st at *;go_enter Tryz.func41,Tryz.ntmps41
   go_wp2_with (go_at_call 67;refine GS.out.mono ?_;clear GS;rintro e w3 ⟨rfl,hc3⟩)
   go_ret;exact ⟨rfl,a_ hB.out hc3⟩
 · rw [a7c (fun hu=>hn hu.some)]
   have hnz:¬ (0:Int)<(g.nonts.length:Int):=by omega
   clear hV hb hnl hB1 k1 hn GS;generalize g.nonts.length=nn at *;generalize g.start=st at *;go_enter Tryz.func41,Tryz.ntmps41
   go_wp2;go_ret;exact ⟨rfl,hB.out⟩
set_option maxRecDepth 20000 in
set_option maxHeartbeats 4000000 in
theorem a5U (g:Gm) (rv nv lv pv:Value) (p:Int) (w:World) (hV:GmV w rv nv lv pv g) (h0:-1≤p) (h1:p<g.prods.length) :
 Calls Tryz.prog 69 #[gmA rv nv lv pv g.start,.int .i64 p] w fun e w'=>∃ v,e=.returned (.tuple #[v,.bool true])∧Nums w' v (a0e g p)∧Below w.heap.size w w':=by
 obtain ⟨pa,pc,rfl⟩:=hV.prods.shape;have hB1:=al' w (.cells #[rv,nv,lv,.slice pa g.prods.length pc,.int .i64 g.start] 27);have k1:=b_ w (.cells #[rv,nv,lv,.slice pa g.prods.length pc,.int .i64 g.start] 27);obtain ⟨W,hW⟩:∃ x,w.alloc (.cells #[rv,nv,lv,.slice pa g.prods.length pc,.int .i64 g.start] 27)=x:=⟨_,rfl⟩;rw [hW] at hB1 k1;obtain ⟨y0,y1,y2,y3,y4⟩:=l_ k1;have hB:=hid hB1;by_cases hp:p = -1
 · subst hp
   rw [a3D (by decide)];have hDa:=hid (Nums.of_row (Own.lit1 W g.start));have hBa:=hid (a_ hB1 (al' W (.cells #[.int .i64 g.start] 3)));clear hV h1 hB1 k1;generalize g.prods.length=pp at *;generalize g.start=st at *;go_enter Tryz.func69,Tryz.ntmps69
   go_wp2;go_ret2;exact ⟨_,rfl,hDa.out,hBa.out⟩
 · have hpl:p.toNat<g.prods.length:=by omega
   have hpz:((p.toNat:Nat):Int)=p:=by omega
   rw [a2i (by omega) hpl];obtain ⟨b,o,e,-,v,z0,z1,z2,hN⟩:=(hV.keep hB1).prods.at hpl;subst e;have hN0:=hN;obtain ⟨q1,q3,rfl,-⟩:=hN0;have hN:=hid hN;clear hV hB1 k1 z0 z2;generalize g.prods[p.toNat].right=R at *;generalize g.prods.length=pp at *;generalize g.start=st at *;obtain ⟨k,hk⟩:∃ k,p.toNat=k:=⟨_,rfl⟩;rw [hk] at hpz hpl z1;clear hk;subst hpz;have hpp:=hid hp;clear hp;generalize hrl:R.length=rl at *;have hrlH:=hid hrl;clear hrl;have hkz:¬ (k:Int)<0:=by omega
   have hkp:¬ (pp:Int)≤(k:Int):=by omega
   go_enter Tryz.func69,Tryz.ntmps69
   go_wp2;go_ret2;exact ⟨_,rfl,hN.out,hB.out⟩
set_option maxRecDepth 20000 in
set_option maxHeartbeats 4000000 in
theorem b8K (g:Gm) (rv nv lv pv:Value) (p:Int) (w:World) (hV:GmV w rv nv lv pv g) (h:¬ (-1≤p∧p<g.prods.length)) :
 Calls Tryz.prog 69 #[gmA rv nv lv pv g.start,.int .i64 p] w fun e w'=>e=.returned (.tuple #[.slice none 0 0,.bool false])∧Below w.heap.size w w':=by
 obtain ⟨pa,pc,rfl⟩:=hV.prods.shape;have hB1:=al' w (.cells #[rv,nv,lv,.slice pa g.prods.length pc,.int .i64 g.start] 27);have k1:=b_ w (.cells #[rv,nv,lv,.slice pa g.prods.length pc,.int .i64 g.start] 27);obtain ⟨W,hW⟩:∃ x,w.alloc (.cells #[rv,nv,lv,.slice pa g.prods.length pc,.int .i64 g.start] 27)=x:=⟨_,rfl⟩;rw [hW] at hB1 k1;obtain ⟨y0,y1,y2,y3,y4⟩:=l_ k1;have hB:=hid hB1;clear hV hB1 k1;generalize g.prods.length=pp at *;generalize g.start=st at *;have hp1:¬ p = -1:=by omega
 by_cases hp:p<0
 · clear h
   go_enter Tryz.func69,Tryz.ntmps69
   go_wp2;go_ret2;exact ⟨rfl,hB.out⟩
 · have hpp:(pp:Int)≤p:=by omega
   clear h;go_enter Tryz.func69,Tryz.ntmps69
   go_wp2;go_ret2;exact ⟨rfl,hB.out⟩
theorem c1Z {g:Gm} {x:It} (h:¬ (-1≤x.1∧x.1<(g.prods.length:Int))):itB g x=false:=by
 rw [Bool.eq_false_iff];intro e;obtain ⟨h1,h2,-⟩:=T_.1 e;exact h ⟨h1,h2⟩
theorem b9U {g:Gm} {x:It} (h:-1≤x.1∧x.1<(g.prods.length:Int)):itB g x=(decide (0≤x.2) && decide (x.2≤((a0e g x.1).length:Int))):=by
 rw [Bool.eq_iff_iff,T_,Bool.and_eq_true,decide_eq_true_eq,decide_eq_true_eq];exact ⟨fun e=>e.2.2,fun e=>⟨h.1,h.2,e⟩⟩
set_option maxRecDepth 20000 in
set_option maxHeartbeats 4000000 in
theorem b9W (g:Gm) (rv nv lv pv:Value) (x:It) (w:World) (hV:GmV w rv nv lv pv g) :
 Calls Tryz.prog 44 #[gmA rv nv lv pv g.start,itV x] w fun e w'=>e=.returned (.bool (itB g x))∧Below w.heap.size w w':=by
 have hy:=b9U (g:=g) (x:=x);have hn:=c1Z (g:=g) (x:=x);generalize itB g x=R at *;obtain ⟨x1,x2⟩:=x
 try dsimp only at *
 have hB1:=al' w (.cells #[rv,nv,lv,pv,.int .i64 g.start] 27);have k1:=b_ w (.cells #[rv,nv,lv,pv,.int .i64 g.start] 27);have hB2:=a_ hB1 (al' (w.alloc (.cells #[rv,nv,lv,pv,.int .i64 g.start] 27)) (.cells #[.int .i64 x1,.int .i64 x2] 49));have k2:=g_ k1 (al' (w.alloc (.cells #[rv,nv,lv,pv,.int .i64 g.start] 27)) (.cells #[.int .i64 x1,.int .i64 x2] 49));have k3:=b_ (w.alloc (.cells #[rv,nv,lv,pv,.int .i64 g.start] 27)) (.cells #[.int .i64 x1,.int .i64 x2] 49);have hsz:(w.alloc (.cells #[rv,nv,lv,pv,.int .i64 g.start] 27)).heap.size=w.heap.size+1:=World.size_alloc _ _;rw [hsz] at k3;obtain ⟨W,hW⟩:∃ x,(w.alloc (.cells #[rv,nv,lv,pv,.int .i64 g.start] 27)).alloc (.cells #[.int .i64 x1,.int .i64 x2] 49)=x:=⟨_,rfl⟩;rw [hW] at hB2 k2 k3;obtain ⟨y0,y1,y2,y3,y4⟩:=l_ k2;have hk3:=hid (fun u (hu:Below W.heap.size W u)=>w_ (g_ k3 hu));obtain ⟨z0,z1⟩:=w_ k3;have hB:=hid hB2;by_cases hr:-1≤x1∧x1<(g.prods.length:Int)
 · have GS:=hid (a5U g _ _ _ _ x1 W (hV.keep hB2) hr.1 hr.2)
   have hy:=hy hr;clear hV hB1 hB2 k1 k2 k3 hsz hr hn;generalize a0e g x1=S at *;generalize g.start=st at *
   have hSk:=hid (fun u v (hN:Nums u v S)=>by
    obtain ⟨a,c,e,-⟩:=hN;exact (⟨a,c,e⟩:∃ a c,v=.slice a S.length c))
   subst hy;generalize S.length=sl at *;by_cases h0:0≤x2
   · rw [decide_eq_true h0,Bool.true_and]
     go_enter Tryz.func44,Tryz.ntmps44
     go_wp2_with (go_at_call 69;refine GS.out.mono ?_;clear GS;rintro e w3 ⟨v3,rfl,hO3,hc3⟩;obtain ⟨a3,c3,rfl⟩:=hSk.out _ _ hO3;clear hO3;have hc3:=hid hc3;clear y0 y1 y2 y3 y4 z0 z1;obtain ⟨z0,z1⟩:=hk3.out _ hc3.out)
     go_ret;exact ⟨rfl,a_ hB.out hc3.out⟩
   · rw [decide_eq_false h0,Bool.false_and]
     go_enter Tryz.func44,Tryz.ntmps44
     go_wp2_with (go_at_call 69;refine GS.out.mono ?_;clear GS;rintro e w3 ⟨v3,rfl,hO3,hc3⟩;obtain ⟨a3,c3,rfl⟩:=hSk.out _ _ hO3;clear hO3;have hc3:=hid hc3;clear y0 y1 y2 y3 y4 z0 z1;obtain ⟨z0,z1⟩:=hk3.out _ hc3.out)
     go_ret;exact ⟨rfl,a_ hB.out hc3.out⟩
 · obtain rfl:=hn hr
   have GS:=hid (b8K g _ _ _ _ x1 W (hV.keep hB2) hr);clear hV hB1 hB2 k1 k2 k3 hsz hr hy hn;generalize g.start=st at *;go_enter Tryz.func44,Tryz.ntmps44
   go_wp2_with (go_at_call 69;refine GS.out.mono ?_;clear GS;rintro e w3 ⟨rfl,hc3⟩;have hc3:=hid hc3;clear y0 y1 y2 y3 y4 z0 z1;obtain ⟨z0,z1⟩:=hk3.out _ hc3.out)
   go_ret;exact ⟨rfl,a_ hB.out hc3.out⟩
set_option maxRecDepth 20000 in
set_option maxHeartbeats 4000000 in
theorem c0D (g:Gm) (rv nv lv pv:Value) (x:It) (w:World) (hV:GmV w rv nv lv pv g) (hx:itB g x=true) :
 Calls Tryz.prog 148 #[gmA rv nv lv pv g.start,itV x] w fun e w'=>e=.returned (.int .i64 (a0k g x))∧Below w.heap.size w w':=by
 obtain ⟨i1,i2,i3,i4⟩:=T_.1 hx;have he:=a6g (g:=g) (x:=x);have ha:=a8I (g:=g) (x:=x);generalize a0k g x=N at *;obtain ⟨x1,x2⟩:=x
 try dsimp only at *
 have hB1:=al' w (.cells #[rv,nv,lv,pv,.int .i64 g.start] 27);have k1:=b_ w (.cells #[rv,nv,lv,pv,.int .i64 g.start] 27);have hB2:=a_ hB1 (al' (w.alloc (.cells #[rv,nv,lv,pv,.int .i64 g.start] 27)) (.cells #[.int .i64 x1,.int .i64 x2] 49));have k2:=g_ k1 (al' (w.alloc (.cells #[rv,nv,lv,pv,.int .i64 g.start] 27)) (.cells #[.int .i64 x1,.int .i64 x2] 49));have k3:=b_ (w.alloc (.cells #[rv,nv,lv,pv,.int .i64 g.start] 27)) (.cells #[.int .i64 x1,.int .i64 x2] 49);have hsz:(w.alloc (.cells #[rv,nv,lv,pv,.int .i64 g.start] 27)).heap.size=w.heap.size+1:=World.size_alloc _ _;rw [hsz] at k3;obtain ⟨W,hW⟩:∃ x,(w.alloc (.cells #[rv,nv,lv,pv,.int .i64 g.start] 27)).alloc (.cells #[.int .i64 x1,.int .i64 x2] 49)=x:=⟨_,rfl⟩;rw [hW] at hB2 k2 k3;obtain ⟨y0,y1,y2,y3,y4⟩:=l_ k2;have hk3:=hid (fun u (hu:Below W.heap.size W u)=>w_ (g_ k3 hu));obtain ⟨z0,z1⟩:=w_ k3;have GS:=hid (a5U g _ _ _ _ x1 W (hV.keep hB2) i1 i2);have hB:=hid hB2;clear hV hx hB1 hB2 k1 k2 k3 i1 i2 hsz;generalize a0e g x1=S at *;generalize g.start=st at *;by_cases hlt:x2.toNat<S.length
 · have hN:=ha hlt
   obtain ⟨k,hk⟩:∃ k:Nat,x2=(k:Int):=⟨x2.toNat,by omega⟩;subst hk;have hlt':k<S.length:=hlt;have hN':N=S[k]:=hN;have hltz:¬ (k:Int)=(S.length:Int):=by omega
   have hSk:=hid (fun u v (hO:Nums u v S)=>by
    obtain ⟨b,o,cp,e,h1,h2,h3⟩:=hO.at (by omega);exact (⟨b,o,cp,e,by rw [hN'];exact h3 k hlt'⟩:∃ b o cp,v=.slice (some ⟨b,o,none⟩) S.length cp∧u.cell? ⟨b,o+k,none⟩=some (.int .i64 N)))
   clear he ha hN hN' hlt i3 i4;generalize S.length=sl at *;have hne:=hid hltz;have hd:decide ((k:Int)=(sl:Int))=false:=decide_eq_false hltz;clear hltz;go_enter Tryz.func148,Tryz.ntmps148
   go_wp2_with (go_at_call 69;refine GS.out.mono ?_;clear GS;rintro e w3 ⟨v3,rfl,hO3,hc3⟩;obtain ⟨b3,o3,c3,rfl,hs3⟩:=hSk.out _ _ hO3;clear hO3;have hc3:=hid hc3;clear y0 y1 y2 y3 y4 z0 z1;obtain ⟨z0,z1⟩:=hk3.out _ hc3.out)
   go_ret;exact ⟨rfl,a_ hB.out hc3.out⟩
 · obtain rfl:=he hlt
   obtain rfl:x2=(S.length:Int):=by omega
   have hSk:=hid (fun u v (hO:Nums u v S)=>by
    obtain ⟨a,c,e,-⟩:=hO;exact (⟨a,c,e⟩:∃ a c,v=.slice a S.length c))
   clear he ha i3 i4 hlt;generalize S.length=sl at *;go_enter Tryz.func148,Tryz.ntmps148
   go_wp2_with (go_at_call 69;refine GS.out.mono ?_;clear GS;rintro e w3 ⟨v3,rfl,hO3,hc3⟩;obtain ⟨a3,c3,rfl⟩:=hSk.out _ _ hO3;clear hO3;have hc3:=hid hc3;clear y0 y1 y2 y3 y4 z0 z1;obtain ⟨z0,z1⟩:=hk3.out _ hc3.out)
   go_ret;exact ⟨rfl,a_ hB.out hc3.out⟩
end Go.Proofs.YtjgedijclkoemaaGreatDoor
namespace Go.Proofs.YtjgedijclkoemaaGreatDoor
def brK (g:Gm) (s:Int) (n:Nat):List It:=((List.range n).filter fun k=>decide ((g.prods.getD k ⟨0,[],0⟩).left=s)).map fun k:Nat=>((k:Int),(0:Int))
def brG (g:Gm) (s:Int):List It:=brK g s g.prods.length
theorem b7u (g:Gm) (s:Int):brK g s 0=[]:=rfl
theorem b0G {g:Gm} {n:Nat} (h:n<g.prods.length) (s:Int):brK g s (n+1)=if g.prods[n].left=s then brK g s n++[((n:Int),0)] else brK g s n:=by
 unfold brK;rw [List.range_succ,List.filter_append,List.map_append];have e:(g.prods.getD n ⟨0,[],0⟩)=g.prods[n]:=by rw [List.getD_eq_getElem?_getD,List.getElem?_eq_getElem h,Option.getD_some]
 by_cases hs:g.prods[n].left=s
 · rw [if_pos hs,List.filter_cons_of_pos (by rw [e];exact decide_eq_true hs)];rfl
 · rw [if_neg hs,List.filter_cons_of_neg (by rw [e];simpa using hs)]
   exact List.append_nil _
theorem b4Q {g:Gm} {s:Int} {x:It}:x∈brG g s↔∃ k,∃ hk:k<g.prods.length,g.prods[k].left=s∧x=((k:Int),0):=by
 unfold brG brK;rw [List.mem_map]
 constructor
 · rintro ⟨k,hk,rfl⟩
   rw [List.mem_filter,List.mem_range,decide_eq_true_eq] at hk;refine ⟨k,hk.1,?_,rfl⟩;have h2:=hk.2
   rwa [List.getD_eq_getElem?_getD,List.getElem?_eq_getElem hk.1,Option.getD_some] at h2
 · rintro ⟨k,hk,h1,rfl⟩
   refine ⟨k,List.mem_filter.2 ⟨List.mem_range.2 hk,?_⟩,rfl⟩;rw [decide_eq_true_eq,List.getD_eq_getElem?_getD,List.getElem?_eq_getElem hk,Option.getD_some];exact h1
theorem c0z (g:Gm) (s:Int) (n:Nat):(brK g s n).length≤n:=by
 unfold brK;rw [List.length_map];exact Nat.le_trans (List.length_filter_le _ _) (by rw [List.length_range];exact Nat.le_refl _)
theorem b4P (g:Gm) {n:Nat} (h:n<g.prods.length):∀ M:List Int,(M.flatMap fun s=>brK g s (n+1)).length=(M.flatMap fun s=>brK g s n).length+M.count g.prods[n].left
 | []=>rfl
 | s :: M=>by
  have ih:=b4P g h M;rw [List.flatMap_cons,List.flatMap_cons,List.length_append,List.length_append,ih,b0G h,List.count_cons];by_cases hs:g.prods[n].left=s
  · rw [if_pos hs,if_pos (by simp [hs]),List.length_append]
    simp only [List.length_cons,List.length_nil];omega
  · rw [if_neg hs,if_neg (by simpa using fun e:s=_=>hs e.symm)]
    omega
theorem b8r (g:Gm) {M:List Int} (hM:M.Nodup):∀ n,n≤g.prods.length→(M.flatMap fun s=>brK g s n).length≤n
 | 0,_=>by
  have:∀ M:List Int,(M.flatMap fun s=>brK g s 0).length=0:=fun M=>by
   induction M with
   | nil=>rfl
   | cons s M ih=>rw [List.flatMap_cons,List.length_append,ih];rfl
  rw [this];exact Nat.le_refl _
 | n+1,h=>by
  rw [b4P g (by omega)];have h1:=b8r g hM n (by omega);have h2:=List.nodup_iff_count.1 hM (g.prods[n]'(by omega)).left;omega
structure ClI (g:Gm) (b A:List It) (n:Nat) (M:List Int):Prop where
 all:A=b++M.flatMap (brG g)
 nd:M.Nodup
 le:n≤A.length
 few:M.length≤n
 met:∀ i (h:i<A.length),i<n→a0k g A[i]∈M
 clo:∀ x∈A,CloG g b x
theorem ClI.start (g:Gm) (b:List It):ClI g b b 0 [] where
 all:=(List.append_nil b).symm
 nd:=List.nodup_nil
 le:=Nat.zero_le _
 few:=Nat.le_refl _
 met _ _ h:=absurd h (Nat.not_lt_zero _)
 clo _ hx:=.own hx
theorem ClI.skip {g:Gm} {b A:List It} {n:Nat} {M:List Int} (h:ClI g b A n M) (hn:n<A.length) (hm:a0k g A[n]∈M):ClI g b A (n+1) M where
 all:=h.all
 nd:=h.nd
 le:=hn
 few:=Nat.le_succ_of_le h.few
 met i hi hl:=by
  by_cases e:i=n
  · subst e;exact hm
  · exact h.met i hi (by omega)
 clo:=h.clo
theorem ClI.more {g:Gm} {b A:List It} {n:Nat} {M:List Int} (h:ClI g b A n M) (hn:n<A.length) (hm:¬ a0k g A[n]∈M):ClI g b (A++brG g (a0k g A[n])) (n+1) (M++[a0k g A[n]]) where
 all:=by
  have e:=h.all;rw [List.flatMap_append,List.flatMap_singleton,← List.append_assoc,← e]
 nd:=by
  rw [List.nodup_append];refine ⟨h.nd,by simp,fun x hx y hy=>?_⟩;rw [List.mem_singleton] at hy;subst hy;exact fun e=>hm (e▸hx)
 le:=by rw [List.length_append];omega
 few:=by rw [List.length_append];exact Nat.succ_le_succ h.few
 met i hi hl:=by
  rw [List.mem_append,List.mem_singleton];rw [List.getElem_append_left (by omega)];by_cases e:i=n
  · subst e;exact .inr rfl
  · exact .inl (h.met i (by omega) (by omega))
 clo x hx:=by
  rcases List.mem_append.1 hx with hx | hx
  · exact h.clo x hx
  · obtain ⟨k,hk,h1,rfl⟩:=b4Q.1 hx
    exact .new hk (h.clo _ (List.getElem_mem hn)) h1.symm
theorem ClI.len {g:Gm} {b A:List It} {n:Nat} {M:List Int} (h:ClI g b A n M):A.length≤b.length+g.prods.length:=by
 have h1:=b8r g h.nd _ (Nat.le_refl _);have e:=congrArg List.length h.all;rw [List.length_append] at e;have e2:(M.flatMap (brG g)).length=(M.flatMap fun s=>brK g s g.prods.length).length:=rfl;omega
theorem ClI.done {g:Gm} {b A:List It} {M:List Int} (h:ClI g b A A.length M) (x:It):x∈A↔CloG g b x:=by
 refine ⟨h.clo x,fun hx=>?_⟩
 induction hx with
 | own hx=>rw [h.all];exact List.mem_append_left _ hx
 | @new y k hk _ he ih =>
  obtain ⟨i,hi,rfl⟩:=List.getElem_of_mem ih;have hm:=h.met i hi hi;rw [h.all];exact List.mem_append_right _ (List.mem_flatMap.2 ⟨_,hm,b4Q.2 ⟨k,hk,he.symm,rfl⟩⟩)
theorem c0V {g:Gm} {l b m:List It} (h:∀ x∈l,itB g x=true) (hb:∀ x,x∈b↔x∈l) (hm:m.Pairwise ltI) (hx:∀ x,x∈m↔CloG g b x):m=a3q g l:=
 a5G hm (b4K g l) fun x=>by
  rw [hx,a1h h];exact ⟨fun hc=>hc.mono fun y hy=>.own ((hb y).1 hy),fun hc=>hc.mono fun y hy=>.own ((hb y).2 hy)⟩
def mv0 (g:Gm) (l:List It) (sym:Int):List It:=(l.filter fun x=>decide (a0k g x=sym)).map fun x=>(x.1,x.2+1)
theorem a6j {g:Gm} {l:List It} {k:Nat} (h:k<l.length) (sym:Int):mv0 g (l.take (k+1)) sym=if a0k g l[k]=sym then mv0 g (l.take k) sym++[(l[k].1,l[k].2+1)] else mv0 g (l.take k) sym:=by
 unfold mv0;rw [List.take_succ_eq_append_getElem h,List.filter_append,List.map_append];by_cases hs:a0k g l[k]=sym
 · rw [if_pos hs,List.filter_cons_of_pos (by simpa using hs)];rfl
 · rw [if_neg hs,List.filter_cons_of_neg (by simpa using hs)]
   exact List.append_nil _
theorem b9B (g:Gm) (l:List It) (sym:Int):(mv0 g l sym).length≤l.length:=by
 unfold mv0;rw [List.length_map];exact List.length_filter_le _ _
theorem a4m {g:Gm} (hg:UsG g) (x:It):0≤a0k g x:=by
 unfold a0k;rw [List.getD_eq_getElem?_getD];cases e:(a0e g x.1)[x.2.toNat]? with
 | none=>exact Int.le_refl _
 | some s =>
  rw [Option.getD_some];have hs:=List.mem_of_getElem? e;unfold a0e at hs;by_cases h:x.1<0
  · rw [if_pos h,List.mem_singleton] at hs
    have:=(hg.snd.start hg.some).1
    omega
  · rw [if_neg h,List.getD_eq_getElem?_getD] at hs
    cases e2:g.prods[x.1.toNat]? with
    | none=>rw [e2,Option.getD_none] at hs;cases hs
    | some p =>
     rw [e2,Option.getD_some] at hs
     have:=hg.snd.prod p (List.mem_of_getElem? e2)
     unfold pdB at this;simp only [Bool.and_eq_true,decide_eq_true_eq,List.all_eq_true] at this
     have:=(this.2 s hs).1
     omega
open Classical in
theorem a7P (g:Gm) (l:List It):I_ g l 0=[]:=by
 unfold I_;rw [List.filter_eq_nil_iff];intro x _ h
 have:=(of_decide_eq_true h).1
 omega
theorem b9C {g:Gm} {l:List It} (h:RgtI g l) {sym:Int} (hs:sym≠0):mv0 g (a3q g l) sym=I_ g l sym:=by
 have e:mv0 g (a3q g l) sym=mvL g (a3q g l) sym:=by
  unfold mv0 mvL;congr 1
  refine List.filter_congr fun x _=>?_
  have:=a4m h.us x
  by_cases hp:0<sym
  · rw [decide_eq_true hp,Bool.true_and]
  · rw [decide_eq_false hp,Bool.false_and,decide_eq_false (by omega)]
 rw [e];refine a5G ?_ (c0c g l sym) fun x=>(b0n h.all).symm
 unfold mvL;rw [List.pairwise_map];refine ((b4K g l).filter _).imp fun {x y} hxy=>?_
 unfold ltI at hxy ⊢
 show x.1<y.1∨x.1=y.1∧x.2+1<y.2+1
 omega
end Go.Proofs.YtjgedijclkoemaaGreatDoor
namespace Go.Proofs.YtjgedijclkoemaaGreatDoor
open Go.Sort Go.Lib
def leI (x y:It):Prop:=¬ ltI y x
theorem b6G (x:It):leI x x:=fun h=>a6m h
theorem b3L {x y z:It} (h:leI x y) (h2:leI y z):leI x z:=by
 unfold leI ltI at *;omega
theorem b0e {x y:It} (h:leI x y) (h2:leI y x):x=y:=by
 obtain ⟨a,b⟩:=x;obtain ⟨c,d⟩:=y;unfold leI ltI at *;simp only [Prod.mk.injEq];simp only at h h2
 omega
theorem c1T {x y:It} (h:leI x y) (h2:x≠y):ltI x y:=by
 by_cases e:ltI x y
 · exact e
 · exact absurd (b0e h e) h2
def cfI (x y:It):Int:=if Lib.compareInt x.1 y.1=0 then Lib.compareInt x.2 y.2 else Lib.compareInt x.1 y.1
theorem c0w (x y:It):cfI x y<0↔ltI x y:=by
 unfold cfI Lib.compareInt ltI
 repeat' split
 all_goals omega
instance (x y:It):Decidable (ltI x y):=by unfold ltI;infer_instance
theorem a3M (x y:It):ltOf cfI x y=decide (ltI x y):=by
 unfold ltOf;exact decide_eq_decide.2 (c0w x y)
theorem c4N:SWO (ltOf cfI) where
 irrefl x:=by rw [a3M];exact decide_eq_false fun h=>a6m h
 trans x y z h1 h2:=by
  rw [a3M] at *;have a:=of_decide_eq_true h1;have b:=of_decide_eq_true h2;exact decide_eq_true (by unfold ltI at *;omega)
 ntrans x y z h1 h2:=by
  rw [a3M] at *;have a:=of_decide_eq_false h1;have b:=of_decide_eq_false h2;exact decide_eq_false (by unfold ltI at *;omega)
theorem a7F (zs:List It) (x:It):x∈Lib.compact zs↔x∈zs:=by
 have key:∀ m,m≤zs.length→∀ y,y∈Lib.compactUpTo zs.toArray m↔y∈zs.take m:=by
  intro m
  induction m with
  | zero=>intro _ y;simp [Lib.compactUpTo]
  | succ m ih =>
   intro hm y;have hlt:m<zs.length:=hm;rw [Lib.compactUpTo_succ,List.mem_append,ih (by omega),List.take_succ_eq_append_getElem hlt,List.mem_append];have hg:zs.toArray[m]! =zs[m]:=by simp [getElem!_pos,hlt]
   cases hk:Lib.keeps zs.toArray m with
   | true=>simp [hg]
   | false =>
    simp only [Bool.false_eq_true,if_false,List.not_mem_nil,or_false,List.mem_singleton]
    constructor
    · exact Or.inl
    · rintro (h | h)
      · exact h
      · have hm0:m≠0:=by rintro rfl;rw [Lib.keeps_lt_one _ 0 (by omega)] at hk;cases hk
        have he:zs.toArray[m]! =zs.toArray[m - 1]!:=by
         by_cases e:zs.toArray[m]! =zs.toArray[m - 1]!
         · exact e
         · rw [Lib.keeps_pos e] at hk;cases hk
        have hg1:zs.toArray[m - 1]! =zs[m - 1]'(by omega):=by simp [getElem!_pos,show m - 1<zs.length by omega]
        rw [h,← hg,he,hg1];exact List.mem_take_iff_getElem.2 ⟨m - 1,by omega,rfl⟩
 have:=key zs.length (Nat.le_refl _) x
 rw [List.take_of_length_le (Nat.le_refl _)] at this;simpa [Lib.compact] using this
theorem a8t (zs:List It) (hs:zs.Pairwise leI):List.Pairwise ltI (Lib.compact zs):=by
 have key:∀ m,m≤zs.length→List.Pairwise ltI (Lib.compactUpTo zs.toArray m)∧∀ y∈Lib.compactUpTo zs.toArray m,y∈zs.take m:=by
  intro m
  induction m with
  | zero=>intro _;simp [Lib.compactUpTo]
  | succ m ih =>
   intro hm;have hlt:m<zs.length:=hm;obtain ⟨h1,h2⟩:=ih (by omega);have hg:zs.toArray[m]! =zs[m]:=by simp [getElem!_pos,hlt]
   rw [Lib.compactUpTo_succ,List.take_succ_eq_append_getElem hlt];cases hk:Lib.keeps zs.toArray m with
   | false =>
    simp only [Bool.false_eq_true,if_false,List.append_nil];exact ⟨h1,fun y hy=>List.mem_append_left _ (h2 y hy)⟩
   | true =>
    simp only [if_true,hg];refine ⟨List.pairwise_append.2 ⟨h1,List.pairwise_singleton _ _,fun y hy z hz=>?_⟩,fun y hy=>?_⟩
    · rw [List.mem_singleton] at hz
      subst hz;obtain ⟨i,hi,rfl⟩:=List.mem_take_iff_getElem.1 (h2 y hy);have him:i<m:=by omega
      have hm0:0<m:=by omega
      have hg1:zs.toArray[m - 1]! =zs[m - 1]'(by omega):=by simp [getElem!_pos,show m - 1<zs.length by omega]
      have hne:zs[m - 1]'(by omega)≠zs[m]:=by
       intro e;rw [Lib.keeps_neg hm0 (by rw [hg,hg1,e])] at hk;cases hk
      have hle:=List.pairwise_iff_getElem.1 hs;have h3:leI (zs[m - 1]'(by omega)) zs[m]:=hle (m - 1) m (by omega) hlt (by omega)
      have h4:leI (zs[i]'(by omega)) (zs[m - 1]'(by omega)):=by
       by_cases e:i=m - 1
       · subst e;exact b6G _
       · exact hle i (m - 1) (by omega) (by omega) (by omega)
      exact c1T (b3L h4 h3) (fun e=>hne (b0e h3 (e▸h4)))
    · rcases List.mem_append.1 hy with hy | hy
      · exact List.mem_append_left _ (h2 y hy)
      · exact List.mem_append_right _ hy
 exact (key zs.length (Nat.le_refl _)).1
theorem a7Y (zs:List It):(Lib.compact zs).length≤zs.length:=by
 unfold Lib.compact Lib.compactUpTo;rw [List.length_map];exact Nat.le_trans (List.length_filter_le _ _) (by rw [List.length_range];exact Nat.le_refl _)
end Go.Proofs.YtjgedijclkoemaaGreatDoor
namespace Go.Proofs.YtjgedijclkoemaaGreatDoor
open Go.RowKit Go.Sort Go.Lib
set_option maxRecDepth 20000 in
set_option maxHeartbeats 2000000 in
theorem c2L (b:Nat) (x y:Int) (w:World) (h0:w.cell? ⟨b,0,none⟩=some (.int .i64 x)) (h1:w.cell? ⟨b,1,none⟩=some (.int .i64 y)) :
 Calls Tryz.prog 199 #[.slice (some ⟨b,0,none⟩) 2 2] w fun e w'=>e=.returned (.int .i64 (if x=0 then y else x))∧w'=w:=by
 by_cases hx:x=0
 · rw [if_pos hx]
   subst hx;by_cases hy:y=0
   · subst hy
     go_enter Tryz.func199,Tryz.ntmps199
     go_wp2;refine wp_loop_rounds 3 ?_;rw [rounds_succ];go_wp2;rw [rounds_succ];go_wp2;rw [rounds_succ];go_wp2;go_ret;exact ⟨rfl,rfl⟩
   · go_enter Tryz.func199,Tryz.ntmps199
     go_wp2;refine wp_loop_rounds 3 ?_;rw [rounds_succ];go_wp2;rw [rounds_succ];go_wp2;go_ret;exact ⟨rfl,rfl⟩
 · rw [if_neg hx]
   go_enter Tryz.func199,Tryz.ntmps199
   go_wp2;refine wp_loop_rounds 3 ?_;rw [rounds_succ];go_wp2;go_ret;exact ⟨rfl,rfl⟩
theorem a2N {P:Program} {ops:Array Oper} {o:Oper} {a:Act} {w:World} {K:Act→World→Prop} {Q:Exit→Act→World→Prop} {E:Prop} (hw:Region.wanted o (yielded ops a.tmps)=true) (f:FuncId) (args:Array Value)
 (hrun:(execOp a.eval o).run P w=.ok (.enter f args) w) {R:Ending→World→Prop} (hc:Calls P f args w R) (h:∀ e w',R e w'→∃ v,e=.returned v∧K (a.put o.dst v) w') :
 if Region.wanted o (yielded ops a.tmps)=true then Oper.wp P o a w K Q else E:=by
 rw [if_pos hw];unfold Oper.wp;rw [hrun,Oper.upon_enter];refine hc.mono fun e w' hr=>?_
 obtain ⟨v,rfl,hk⟩:=h e w' hr;exact hk
def grH (p q:Int) (c:Option Value) (w:World) (v:Value):Prop:=match c with
 | some V=>v=V
 | none=>∃ b,v=.slice (some ⟨b,0,none⟩) 2 2∧w.cell? ⟨b,0,none⟩=some (.int .i64 p)∧w.cell? ⟨b,1,none⟩=some (.int .i64 q)
theorem b6Q {p q:Int} {c:Option Value} {w:World} {v:Value} (h:grH p q c w v) (n:Nat) (os:Array Obj):grH p q c (grow (w.drewN n) os) v:=by
 cases c with
 | some V=>exact h
 | none =>
  obtain ⟨b,rfl,h0,h1⟩:=h;exact ⟨b,rfl,cell_grown (World.block_lt_of_cell? w _ h0) h0 n os,cell_grown (World.block_lt_of_cell? w _ h1) h1 n os⟩
def c4B (P:Program) (Q:Exit→Act→World→Prop) (W0:World) (p q:Int) (C:List (Option Value)) (l:List Oper) (A:(Nat→Value)→Act) (i:Nat) (o:Oper):Prop:=
 ∀ (xs:Nat→Value) (n:Nat) (os:Array Obj) (u:World) (a:Act),A xs=a→u=grow (W0.drewN n) os→(∀ j,(o.after.toList.any fun e=>Region.binds .any e && decide (e.on=j))=true→grH p q (C.getD j none) u (xs j)) →
  ∀ K:Act→World→Prop,(∀ v n' os' u',u'=grow (u.drewN n') os'→grH p q (C.getD i none) u' v→K (a.put o.dst v) u') →
   if Region.wanted o (yielded l.toArray a.tmps)=true then o.wp P a u K Q else K (a.put o.dst undef) u
theorem a9d (w:World) (n:Nat) (os:Array Obj):Below w.heap.size w (grow (w.drewN n) os):=Go.Proofs.below_grown w n os
theorem b6P (w:World) (n n':Nat) (os os':Array Obj):grow ((grow (w.drewN n) os).drewN n') os'=grow (w.drewN (n+n')) (os++os'):=by
 show grow (grow ((w.drewN n).drewN n') os) os'=_
 rw [grow_grow,World.drewN_drewN]
theorem a6Y {P:Program} {Q:Exit→Act→World→Prop} (p q:Int) (C:List (Option Value)) {A:(Nat→Value)→Act} {id:Nat} {l:List Oper} {a0:Act} {W0:World} (hm:P.follows .mixedOrders=true) (hB:rgB l=true)
 (hA:∀ xs,a2m l 0 xs a0=A xs) (hop:a3m (c4B P Q W0 p q C l A) 0 l)
 (hfin:∀ xs n os u a,A xs=a→u=grow (W0.drewN n) os→(∀ j,decide (j<l.length)=true→grH p q (C.getD j none) u (xs j))→Q .normal a u):(Code.region id l.toArray true).wp P Q a0 W0:=by
 refine a3d (G:=Unit) (fun _ w=>∃ n os,w=grow (W0.drewN n) os) (fun i _ w v=>grH p q (C.getD i none) w v) (fun _=>none) () hm hB hA ⟨1,#[],(grow_empty _).symm⟩ ?_ (fun xs γ w h1 h2=>?_)
 · have:∀ (l':List Oper) (k:Nat),a3m (c4B P Q W0 p q C l A) k l'→a3m (c3f P Q (fun (_:Unit) w=>∃ n os,w=grow (W0.drewN n) os) (fun i _ w v=>grH p q (C.getD i none) w v) (fun _=>none) l A) k l':=by
    intro l'
    induction l' with
    | nil=>intro k _;trivial
    | cons o l' ih =>
     intro k h;refine ⟨?_,ih (k+1) h.2⟩;intro xs γ w hI hd K hK;obtain ⟨n,os,e⟩:=hI;refine h.1 xs n os w (A xs) rfl e (fun j hj=>?_) K (fun v n' os' u' hu hv=>hK v () u' ⟨n+n',os++os',by rw [hu,e,b6P]⟩ hv (fun j u _ _ hh=>by rw [hu];exact b6Q hh n' os'));rw [List.any_eq_true] at hj;obtain ⟨e,he,h2⟩:=hj;simp only [Bool.and_eq_true,decide_eq_true_eq] at h2;obtain ⟨hb,rfl⟩:=h2;exact hd e he hb (.inl rfl)
   exact this l 0 hop
 · obtain ⟨n,os,e⟩:=h1
   exact hfin xs n os w (A xs) rfl e fun j hj=>h2 j (of_decide_eq_true hj) (fun k hk=>by cases hk)
set_option maxRecDepth 20000 in
set_option maxHeartbeats 4000000 in
theorem c1G (x y:It) (W:World):Calls Tryz.prog 184 #[itV x,itV y] W fun e w'=>e=.returned (.int .i64 (cfI x y))∧∃ q os',w'=grow (W.drewN q) os':=by
 obtain ⟨xa,xb⟩:=x;obtain ⟨ya,yb⟩:=y;unfold cfI
 show Calls Tryz.prog 184 #[.agg #[.int .i64 xa,.int .i64 xb],.agg #[.int .i64 ya,.int .i64 yb]] W _
 have G1:=hid (fun u=>Tryz.cmp_Compare_int xa ya u);have G2:=hid (fun u=>Tryz.cmp_Compare_int xb yb u);simp only
 generalize Lib.compareInt xa ya=p at *;generalize Lib.compareInt xb yb=q at *;have GO:=hid (fun b u h0 h1=>c2L b p q u h0 h1);generalize (if p=0 then q else p)=r at *;have hk1:=g_ (b_ W (.cells #[.int .i64 xa,.int .i64 xb] 49)) (al' (W.alloc (.cells #[.int .i64 xa,.int .i64 xb] 49)) (.cells #[.int .i64 ya,.int .i64 yb] 49));have hk2:=b_ (W.alloc (.cells #[.int .i64 xa,.int .i64 xb] 49)) (.cells #[.int .i64 ya,.int .i64 yb] 49);have hsz:(W.alloc (.cells #[.int .i64 xa,.int .i64 xb] 49)).heap.size=W.heap.size+1:=World.size_alloc _ _;rw [hsz] at hk2;obtain ⟨W2,hW⟩:∃ x,(W.alloc (.cells #[.int .i64 xa,.int .i64 xb] 49)).alloc (.cells #[.int .i64 ya,.int .i64 yb] 49)=x:=⟨_,rfl⟩;have hg:Hid (W2=grow W #[.cells #[.int .i64 xa,.int .i64 xb] 49,.cells #[.int .i64 ya,.int .i64 yb] 49]):=hid (by rw [← hW,alloc_eq_grow,alloc_eq_grow,grow_grow];rfl);rw [hW] at hk1 hk2
 have hcl:=hid (fun n os u (hu:u=grow (W2.drewN n) os)=>by
  have hb:Below W2.heap.size W2 u:=by rw [hu];exact a9d W2 n os
  obtain ⟨a0,a1⟩:=w_ (g_ hk1 hb);obtain ⟨b0,b1⟩:=w_ (g_ hk2 hb);exact (⟨a0,a1,b0,b1⟩:u.cell? ⟨W.heap.size,0,none⟩=some (.int .i64 xa)∧u.cell? ⟨W.heap.size,1,none⟩=some (.int .i64 xb)∧u.cell? ⟨W.heap.size+1,0,none⟩=some (.int .i64 ya)∧u.cell? ⟨W.heap.size+1,1,none⟩=some (.int .i64 yb)))
 clear hk1 hk2 hsz;go_enter Tryz.func184,Tryz.ntmps184
 go_wp2_with fail
 refine a6Y p q [some (.pointer (some ⟨W.heap.size,0,none⟩)),some (.int .i64 xa),some (.pointer (some ⟨W.heap.size+1,0,none⟩)),some (.int .i64 ya),some (.int .i64 p),some (.pointer (some ⟨W.heap.size,1,none⟩)),some (.int .i64 xb),some (.pointer (some ⟨W.heap.size+1,1,none⟩)),some (.int .i64 yb),some (.int .i64 q),none,some (.int .i64 r),some (.int .i64 r)] (by kernel_rfl) (by kernel_rfl) (by intro xs;simp only [a2m,Nat.reduceAdd,Act.put,List.setIfInBounds_toArray,List.set_cons_zero,List.set_cons_succ];rfl) ?_ ?_
 · refine h_ ?_ (h_ ?_ (h_ ?_ (h_ ?_ (h_ ?_ (h_ ?_ (h_ ?_ (h_ ?_ (h_ ?_ (h_ ?_ (h_ ?_ (h_ ?_ (h_ ?_ (a2l)))))))))))))
   · intro xs n os u fr hA hu1 hd K hK
     have hu:=hid hu1;clear hu1
     try dsimp only at hA
     subst hA;have hK:=hK _ 0 #[] u (grow_empty _).symm rfl;go_simp
     exact hK
   · intro xs n os u fr hA hu1 hd K hK
     have hu:=hid hu1;clear hu1
     try dsimp only at hA
     generalize hx0:xs 0=z0 at hA;have e0:=hd 0 rfl;rw [hx0] at e0;have e0:z0=_:=e0;subst e0;subst hA;obtain ⟨y0,y1,y2,y3⟩:=hcl.out n os u hu.out;have hK:=hK _ 0 #[] u (grow_empty _).symm rfl;go_simp
     exact hK
   · intro xs n os u fr hA hu1 hd K hK
     have hu:=hid hu1;clear hu1
     try dsimp only at hA
     subst hA;have hK:=hK _ 0 #[] u (grow_empty _).symm rfl;go_simp
     exact hK
   · intro xs n os u fr hA hu1 hd K hK
     have hu:=hid hu1;clear hu1
     try dsimp only at hA
     generalize hx2:xs 2=z2 at hA;have e2:=hd 2 rfl;rw [hx2] at e2;have e2:z2=_:=e2;subst e2;subst hA;obtain ⟨y0,y1,y2,y3⟩:=hcl.out n os u hu.out;have hK:=hK _ 0 #[] u (grow_empty _).symm rfl;go_simp
     exact hK
   · intro xs n os u fr hA hu1 hd K hK
     have hu:=hid hu1;clear hu1
     try dsimp only at hA
     generalize hx1:xs 1=z1 at hA;have e1:=hd 1 rfl;rw [hx1] at e1;have e1:z1=_:=e1;subst e1;generalize hx3:xs 3=z3 at hA;have e3:=hd 3 rfl;rw [hx3] at e3;have e3:z3=_:=e3;subst e3;subst hA;refine a2N (by rfl) 200 #[.int .i64 xa,.int .i64 ya] (by go_simp) (G1.out u) ?_;rintro e u' ⟨rfl,rfl⟩;exact ⟨_,rfl,hK _ 0 #[] _ (grow_empty _).symm rfl⟩
   · intro xs n os u fr hA hu1 hd K hK
     have hu:=hid hu1;clear hu1
     try dsimp only at hA
     subst hA;have hK:=hK _ 0 #[] u (grow_empty _).symm rfl;go_simp
     exact hK
   · intro xs n os u fr hA hu1 hd K hK
     have hu:=hid hu1;clear hu1
     try dsimp only at hA
     generalize hx5:xs 5=z5 at hA;have e5:=hd 5 rfl;rw [hx5] at e5;have e5:z5=_:=e5;subst e5;subst hA;obtain ⟨y0,y1,y2,y3⟩:=hcl.out n os u hu.out;have hK:=hK _ 0 #[] u (grow_empty _).symm rfl;go_simp
     exact hK
   · intro xs n os u fr hA hu1 hd K hK
     have hu:=hid hu1;clear hu1
     try dsimp only at hA
     subst hA;have hK:=hK _ 0 #[] u (grow_empty _).symm rfl;go_simp
     exact hK
   · intro xs n os u fr hA hu1 hd K hK
     have hu:=hid hu1;clear hu1
     try dsimp only at hA
     generalize hx7:xs 7=z7 at hA;have e7:=hd 7 rfl;rw [hx7] at e7;have e7:z7=_:=e7;subst e7;subst hA;obtain ⟨y0,y1,y2,y3⟩:=hcl.out n os u hu.out;have hK:=hK _ 0 #[] u (grow_empty _).symm rfl;go_simp
     exact hK
   · intro xs n os u fr hA hu1 hd K hK
     have hu:=hid hu1;clear hu1
     try dsimp only at hA
     generalize hx6:xs 6=z6 at hA;have e6:=hd 6 rfl;rw [hx6] at e6;have e6:z6=_:=e6;subst e6;generalize hx8:xs 8=z8 at hA;have e8:=hd 8 rfl;rw [hx8] at e8;have e8:z8=_:=e8;subst e8;subst hA;refine a2N (by rfl) 200 #[.int .i64 xb,.int .i64 yb] (by go_simp) (G2.out u) ?_;rintro e u' ⟨rfl,rfl⟩;exact ⟨_,rfl,hK _ 0 #[] _ (grow_empty _).symm rfl⟩
   · intro xs n os u fr hA hu1 hd K hK
     have hu:=hid hu1;clear hu1
     try dsimp only at hA
     generalize hx4:xs 4=z4 at hA;have e4:=hd 4 rfl;rw [hx4] at e4;have e4:z4=_:=e4;subst e4;generalize hx9:xs 9=z9 at hA;have e9:=hd 9 rfl;rw [hx9] at e9;have e9:z9=_:=e9;subst e9;subst hA;have hK:=hK _ 0 #[.cells #[.int .i64 p,.int .i64 q] 3] (u.alloc (.cells #[.int .i64 p,.int .i64 q] 3)) (alloc_eq_grow _ _) ⟨u.heap.size,rfl,(w_ (b_ u _)).1,(w_ (b_ u _)).2⟩;go_simp
     exact hK
   · intro xs n os u fr hA hu1 hd K hK
     have hu:=hid hu1;clear hu1
     try dsimp only at hA
     generalize hx10:xs 10=z10 at hA;have e10:=hd 10 rfl;rw [hx10] at e10;obtain ⟨b9,rfl,c0,c1⟩:=e10;subst hA;refine a2N (by rfl) 199 #[.slice (some ⟨b9,0,none⟩) 2 2] (by go_simp) (GO.out b9 u c0 c1) ?_;rintro e u' ⟨rfl,rfl⟩;exact ⟨_,rfl,hK _ 0 #[] _ (grow_empty _).symm rfl⟩
   · intro xs n os u fr hA hu1 hd K hK
     have hu:=hid hu1;clear hu1
     try dsimp only at hA
     generalize hx11:xs 11=z11 at hA;have e11:=hd 11 rfl;rw [hx11] at e11;have e11:z11=_:=e11;subst e11;subst hA;have hK:=hK _ 0 #[] u (grow_empty _).symm rfl;go_simp
     exact hK
 · intro xs n os u fr hA hu1 hd
   have hu:=hid hu1;clear hu1
   try dsimp only at hA
   generalize hx12:xs 12=z12 at hA;have e12:=hd 12 rfl;rw [hx12] at e12;have e12:z12=_:=e12;subst e12;subst hA;go_wp2;go_ret;refine ⟨rfl,n,#[.cells #[.int .i64 xa,.int .i64 xb] 49,.cells #[.int .i64 ya,.int .i64 yb] 49]++os,?_⟩;rw [hu.out,hg.out]
   show grow (grow (W.drewN n) _) os=_
   rw [grow_grow]
theorem b9T (x:It):(itC x)[0]! =.int .i64 x.1∧(itC x)[1]! =.int .i64 x.2:=⟨rfl,rfl⟩
theorem a6w (x:It):(itC x).length=2:=rfl
theorem b9S (x:It):∀ v∈itC x,v.oneCell'=true:=fun v hv=>by
 unfold itC at hv;simp only [List.mem_cons,List.not_mem_nil,or_false] at hv;rcases hv with rfl | rfl <;> rfl
theorem b3Z (d:Array It) (j:Nat) (hj:j<d.size * 2):(z_ d.toList)[j]?=some ((flatK itC 2 d)[j]!):=by
 have hq:j / 2<d.toList.length:=by rw [Array.length_toList];omega
 obtain ⟨h0,h1⟩:=a1K d.toList (j / 2) hq;rw [get_flatK _ _ _ j hj];have hd:d[j / 2]! =d.toList[j / 2]:=by rw [getElem!_pos d (j / 2) (by simpa using hq),Array.getElem_toList]
 rw [hd];obtain ⟨g0,g1⟩:=b9T d.toList[j / 2];rcases Nat.mod_two_eq_zero_or_one j with hm | hm
 · rw [hm,g0,← h0,show j / 2 * 2=j by omega]
 · rw [hm,g1,← h1,show j / 2 * 2+1=j by omega]
theorem a7O (l:List It) (n:Nat):z_ (l.take n)=(z_ l).take (n * 2):=by
 induction l generalizing n with
 | nil=>simp [z_]
 | cons a l ih =>
  cases n with
  | zero=>simp [z_]
  | succ n =>
   have e:∀ m,z_ (a :: m)=itC a++z_ m:=fun _=>rfl
   rw [List.take_succ_cons,e,e,ih,List.take_append,a6w,show (n+1) * 2 - 2=n * 2 by omega,List.take_of_length_le (l:=itC a) (by rw [a6w];omega)]
theorem b0l {w:World} {B g cap:Nat} {d:Array It} (h:OwnIt w B (.slice (some ⟨g,0,none⟩) d.size cap) d.toList):HoldsK itC 2 w g 0 d:=fun j hj=>by
 rw [size_flatK] at hj;have h1:=h.cells rfl j _ (b3Z d j hj);rw [Go.WideShapes.add_plain] at h1;exact ⟨h1,h.frozenAt _⟩
theorem a9N {w:World} {B g cap m n:Nat} {d d':Array It} (h:OwnIt w B (.slice (some ⟨g,0,none⟩) d.size cap) d.toList) (hs:d'.size=d.size) (hn:n≤d.size) :
 OwnIt (putRowK itC 2 (Sort.ahead w m) g 0 d') B (.slice (some ⟨g,0,none⟩) n cap) (d'.toList.take n):=by
 have hl:d.toList.length=d.size:=Array.length_toList;have hln:(d'.toList.take n).length=n:=by rw [List.length_take,Array.length_toList];omega
 rcases h.2 with ⟨e0,_⟩ | ⟨g',cap',cur,e0,hb,hg,hn',hm,hsz,ht⟩
 · cases e0
 · injection e0 with e1 e2 e3
   injection e1 with e1;injection e1 with e1;subst e1;subst e3
   unfold OwnIt;rw [hln];refine ⟨by rw [a2b,hln],.inr ⟨g,cap,putCells id 0 (flatK itC 2 d') cur,rfl,hb,?_,by rw [hl] at hn';omega,hm,by simpa [putCells] using hsz,?_⟩⟩
   · simp [putRowK,putRow,mapBlock,Sort.ahead,Array.getElem?_modify,hg,onCells]
   · rw [a7O]
     apply List.ext_getElem?
     intro j;rw [List.getElem?_take,List.getElem?_take,Array.getElem?_toList];by_cases hj:j<n * 2
     · have hjd:j<d'.size * 2:=by rw [hs];omega
       have hjc:j<cur.size:=by rw [hsz];have:d.size * 2≤cap * 2:=Nat.mul_le_mul_right 2 (by rw [hl] at hn';exact hn');omega
       rw [if_pos hj,if_pos hj,b3Z d' j hjd];simp only [putCells,Array.getElem?_mapIdx,Array.getElem?_eq_getElem hjc,Option.map_some];rw [if_pos (by rw [size_flatK,hs];omega)];simp
     · rw [if_neg hj,if_neg hj]
theorem b6L (d:Array It) (i:Nat) (x:It) (hi:i<d.size):setMany (flatK itC 2 d) (i * 2) (itC x)=flatK itC 2 (d.setIfInBounds i x):=by
 refine ext_get! (by simp) fun t ht=>?_
 have ht':t<d.size * 2:=by simpa using ht
 rw [get_setMany _ _ _ t (by simpa using ht'),get_flatK _ _ _ t ht',get_flatK _ _ _ t (by simpa using ht'),a6w];have hq:t / 2<d.size:=by omega
 by_cases a:t / 2=i
 · rw [if_pos (by omega)]
   subst a;rw [show t - t / 2 * 2=t % 2 by omega];simp [hi]
 · rw [if_neg (by omega)]
   simp [hq,Ne.symm a]
theorem a9v {w:World} {q g i:Nat} {d:Array It} (hi:i<d.size) (x:It) :
 ((putRowK itC 2 (Sort.ahead w q) g 0 d).setCell ⟨g,i * 2,none⟩ (.int .i64 x.1)).setCell ⟨g,i * 2+1,none⟩ (.int .i64 x.2)=putRowK itC 2 (Sort.ahead w q) g 0 (d.setIfInBounds i x):=by
 unfold putRowK;have h:=setCells_putRow (Sort.ahead w q) g 0 (itC x) (i * 2) (flatK itC 2 d) (by rw [a6w,size_flatK];omega);rw [b6L d i x hi,Nat.zero_add] at h;exact h
set_option maxRecDepth 20000 in
theorem a7j (w:World) (ty:TypeId) (b o n c:Nat) (hn:0<n) (hc:∀ j,j<n * 2→(w.cell? ⟨b,o+j,none⟩).isSome=true) (hf:∀ j,j<n * 2→w.frozen? ⟨b,o+j,none⟩=false) :
 (Builtin.clear_ #[40] ty #[.slice (some ⟨b,o,none⟩) n c]).run Tryz.prog w=.ok (.tuple #[]) (w.setCells b o (List.replicate (n * 2) (.int .i64 0))):=by
 have hzc:(Builtin.zeroCells #[.int .i64 0,.int .i64 0] n).toList=List.replicate (n * 2) (Value.int .i64 0):=by
  simp [Builtin.zeroCells]
  apply List.ext_getElem
  · simp
  · intro i h1 h2
    rcases Nat.mod_two_eq_zero_or_one i with hm | hm <;> simp [hm]
 have hst:=run_storeCells_cells (P:=Tryz.prog) b o (List.replicate (n * 2) (Value.int .i64 0)) 0 w (by simpa using hc) (by simpa using hf) (by intro v hv';rw [List.eq_of_mem_replicate hv'];rfl);simp only [Nat.add_zero] at hst;have hv:(zeroValue 49).run Tryz.prog w=.ok (.agg #[.int .i64 0,.int .i64 0]) w:=Tryz.zeroValue49 w;have hcl:(Value.agg #[.int .i64 0,.int .i64 0]).cells=#[.int .i64 0,.int .i64 0]:=rfl;obtain ⟨m,rfl⟩:∃ m,n=m+1:=⟨n - 1,by omega⟩;simp [Builtin.clear_,run_underlying Tryz.underlying40,hv,hcl,hzc,hst]
theorem b1H {w:World} {q g k n:Nat} {d:Array It} (hn:k+n≤d.size):(putRowK itC 2 (Sort.ahead w q) g 0 d).setCells g (k * 2) (List.replicate (n * 2) (.int .i64 0))=putRowK itC 2 (Sort.ahead w q) g 0 (lay d k (List.replicate n (0,0))):=by
 induction n generalizing k d with
 | zero=>rfl
 | succ n ih =>
  have e:List.replicate ((n+1) * 2) (Value.int .i64 0)=.int .i64 0 :: .int .i64 0 :: List.replicate (n * 2) (.int .i64 0):=by
   rw [show (n+1) * 2=n * 2+1+1 by omega,List.replicate_succ,List.replicate_succ]
  rw [e,List.replicate_succ,lay,World.setCells,World.setCells];have h:=a9v (w:=w) (q:=q) (g:=g) (i:=k) (d:=d) (by omega) (0,0);simp only at h
  rw [h,show k * 2+1+1=(k+1) * 2 by omega];exact ih (by rw [Array.size_setIfInBounds];omega)
theorem a2t {w:World} {g:Nat} {d:Array It} (h:HoldsK itC 2 w g 0 d) {i:Nat} (hi:i<d.size) :
 w.cell? ⟨g,i * 2,none⟩=some (.int .i64 d[i]!.1)∧w.cell? ⟨g,i * 2+1,none⟩=some (.int .i64 d[i]!.2)∧w.frozen? ⟨g,i * 2,none⟩=false∧w.frozen? ⟨g,i * 2+1,none⟩=false:=by
 have h0:=h.cell hi (show 0<2 by omega);have h1:=h.cell hi (show 1<2 by omega);simp only [Nat.zero_add,Nat.add_zero] at h0 h1;exact ⟨h0.1,h1.1,h0.2,h1.2⟩
set_option maxHeartbeats 8000000 in
set_option maxRecDepth 100000 in
theorem b1E (g cap:Nat) (d:Array It) (w:World) (hH:HoldsK itC 2 w g 0 d) (hsz:d.size≤1000000) (hcap:d.size≤cap) :
 Calls Tryz.prog 185 #[.slice (some ⟨g,0,none⟩) d.size cap] w fun e w'=>e=.returned (.slice (some ⟨g,0,none⟩) (compactUpTo d d.size).length cap)∧∃ q,w'=putRowK itC 2 (Sort.ahead w q) g 0 (compactUpTo d d.size++List.replicate (d.size - (compactUpTo d d.size).length) (0,0)).toArray:=by
 have same:∀ q,(∀ j,j<d.size→keeps d j=true)→(compactUpTo d d.size).length=d.size∧w.drewN q=putRowK itC 2 (Sort.ahead w q) g 0 (compactUpTo d d.size++List.replicate (d.size - (compactUpTo d d.size).length) (0,0)).toArray:=by
  intro q hall;have e:compactUpTo d d.size=d.toList:=by rw [compactUpTo_all d _ hall,range_map_get]
  rw [e];refine ⟨by simp,?_⟩;simp only [Array.length_toList,Nat.sub_self,List.replicate_zero,List.append_nil,Array.toArray_toList];exact (putRowK_self itC 2 (Sort.ahead w q) g 0 d (holdsK_ahead itC 2 w q g 0 d hH)).symm
 have HS:=hid same;clear same;have HH:=hid hH;clear hH;by_cases h2:d.size<2
 · go_enter Tryz.func185,Tryz.ntmps185
   go_wp2;go_ret;obtain ⟨e1,e2⟩:=HS.out 0 (fun j hj=>keeps_lt_one d j (by omega));exact ⟨by rw [e1];rfl,0,e2⟩
 · go_enter Tryz.func185,Tryz.ntmps185
   go_wp2;go_loopg [3] d.size (fun gh s3 wr=>∃ k q:Nat,1≤k∧k≤d.size∧d.size - k≤gh∧s3=.int .i64 k∧wr=w.drewN q∧Hid (∀ j,j<k→keeps d j=true))
   case atStart=>exact ⟨1,0,Nat.le_refl _,by omega,by omega,rfl,rfl,hid (keeps_lt_one d)⟩
   case round =>
    obtain ⟨k,q,hk1,hk,hg,rfl,hwr1,A⟩:=hrel;have hwr:=hid hwr1;clear hwr1;by_cases hlt:k<d.size
    · have hHr:HoldsK itC 2 wr g 0 d:=by rw [hwr.out];exact holdsK_ahead itC 2 w q g 0 d HH.out
      obtain ⟨c0,c1,-,-⟩:=a2t hHr hlt;obtain ⟨b0,b1,-,-⟩:=a2t hHr (show k - 1<d.size by omega);clear hHr;by_cases hdup:d[k]! =d[k - 1]!
      · have B:=hid (keeps_neg (by omega) hdup)
        have hq:∀ w,(binOp .eql 49 (.agg #[.int .i64 d[k]!.1,.int .i64 d[k]!.2]) (.agg #[.int .i64 d[k - 1]!.1,.int .i64 d[k - 1]!.2])).run Tryz.prog w=.ok (.bool true) w:=fun w=>by rw [c0p];exact congrArg (fun b=>Result.ok (Value.bool b) w) (decide_eq_true hdup)
        clear hdup;generalize d[k]!.1=x1 at *;generalize d[k]!.2=x2 at *;generalize d[k - 1]!.1=y1 at *;generalize d[k - 1]!.2=y2 at *;go_wp2_with fail
        go_quiet (fail)
        go_wp2;clear c0 c1 b0 b1 hq;obtain ⟨wo,hwo⟩:∃ x,x=wr:=⟨_,rfl⟩;subst hwo;go_loopg [3,5] d.size (fun gh s3 s5 wz=>∃ (kk k2 q2:Nat) (dk:Array It),s3=.int .i64 kk∧s5=.int .i64 k2∧1≤k2∧k+k2≤d.size∧d.size - (k+k2)≤gh∧Hid (wz=putRowK itC 2 (Sort.ahead w q2) g 0 dk)∧Hid (CompInv d (k+k2) kk dk)∧kk<k+k2∧dk.size=d.size)
        case atStart=>exact ⟨k,1,q+nq,d,rfl,rfl,Nat.le_refl _,by omega,by omega,hid (by rw [hwr.out,World.drewN_drewN];exact (putRowK_self itC 2 (Sort.ahead w (q+nq)) g 0 d (holdsK_ahead itC 2 w (q+nq) g 0 d HH.out)).symm),hid (CompInv.start A.out B.out),by omega,rfl⟩
        case round =>
         obtain ⟨kk,k2,q2,dk,rfl,rfl,h1,hle,hg2,W2,I2,hkk,hds⟩:=hrel;clear B A hwr;have hHk:HoldsK itC 2 wr g 0 dk:=by rw [W2.out];exact holdsK_putRowK itC 2 _ g 0 d dk (holdsK_ahead itC 2 w q2 g 0 d HH.out) hds
         by_cases hlt2:k+k2<d.size
         · obtain ⟨m0,m1,-,-⟩:=a2t hHk (show k+k2<dk.size by omega)
           obtain ⟨p0,p1,-,-⟩:=a2t hHk (show k+k2 - 1<dk.size by omega);obtain ⟨c0,c1,f0,f1⟩:=a2t hHk (show kk<dk.size by omega);have i0:=I2.out.high (k+k2) (by omega);have i1:=I2.out.high (k+k2 - 1) (by omega);rw [i0,show (k+k2) * 2=k * 2+k2 * 2 by omega] at m0 m1;rw [i1,show (k+k2 - 1) * 2=k * 2+(k2 - 1) * 2 by omega] at p0 p1;clear hHk i0 i1;by_cases huv:d[k+k2]! =d[k+k2 - 1]!
           · have C:=hid (keeps_neg (by omega) huv)
             have hq:∀ w,(binOp .neq 49 (.agg #[.int .i64 d[k+k2]!.1,.int .i64 d[k+k2]!.2]) (.agg #[.int .i64 d[k+k2 - 1]!.1,.int .i64 d[k+k2 - 1]!.2])).run Tryz.prog w=.ok (.bool false) w:=fun w=>by rw [b9x];exact congrArg (fun b=>Result.ok (Value.bool (!b)) w) (decide_eq_true huv)
             clear huv;generalize d[k+k2]!.1=x1 at *;generalize d[k+k2]!.2=x2 at *;generalize d[k+k2 - 1]!.1=y1 at *;generalize d[k+k2 - 1]!.2=y2 at *;go_wp2_with fail
             go_quiet (fail)
             go_wp2;go_roundg (d.size - (k+(k2+1)))
             case measure=>omega
             case rel=>exact ⟨kk,k2+1,q2+nq,dk,rfl,by go_num,by omega,by omega,Nat.le_refl _,hid (by rw [W2.out,putRowK_drewN]),hid (I2.out.skip C.out),by omega,hds⟩
           · have C:=hid (keeps_pos huv)
             have hq:∀ w,(binOp .neq 49 (.agg #[.int .i64 d[k+k2]!.1,.int .i64 d[k+k2]!.2]) (.agg #[.int .i64 d[k+k2 - 1]!.1,.int .i64 d[k+k2 - 1]!.2])).run Tryz.prog w=.ok (.bool true) w:=fun w=>by rw [b9x];exact congrArg (fun b=>Result.ok (Value.bool (!b)) w) (decide_eq_false huv)
             clear huv;have hst:=hid (fun q'=>a9v (w:=w) (q:=q') (g:=g) (i:=kk) (d:=dk) (show kk<dk.size by omega) d[k+k2]!);have hI:=hid (I2.out.keep hlt2 C.out);generalize d[k+k2]! =x at *;obtain ⟨x1,x2⟩:=x
             try dsimp only at m0 m1
             generalize d[k+k2 - 1]!.1=y1 at *;generalize d[k+k2 - 1]!.2=y2 at *;go_wp2_with fail
             go_quiet (fail)
             go_wp2;go_roundg (d.size - (k+(k2+1)))
             case measure=>omega
             case rel=>exact ⟨kk+1,k2+1,q2+nq,dk.setIfInBounds kk (x1,x2),by go_num,by go_num,by omega,by omega,Nat.le_refl _,hid (by rw [W2.out,putRowK_drewN];exact hst.out (q2+nq)),hI,by omega,by rw [Array.size_setIfInBounds];exact hds⟩
         · have hend:k+k2=d.size:=by omega
           have hcl:∀ ty,(Builtin.clear_ #[40] ty #[.slice (some ⟨g,kk * 2,none⟩) (d.size - kk) (cap - kk)]).run Tryz.prog wr=.ok (.tuple #[]) (wr.setCells g (kk * 2) (List.replicate ((d.size - kk) * 2) (.int .i64 0))):=fun ty =>
            a7j wr ty g (kk * 2) _ _ (by omega) (fun j hj=>by have:=hHk (kk * 2+j) (by rw [size_flatK];omega);rw [Nat.zero_add] at this;rw [this.1];rfl) (fun j hj=>by have:=hHk (kk * 2+j) (by rw [size_flatK];omega);rw [Nat.zero_add] at this;exact this.2)
           clear hHk;go_wp2;go_ret;have hI:=I2.out;rw [hend] at hI;have hc9:=b1H (w:=w) (q:=q2) (g:=g) (k:=kk) (n:=d.size - kk) (d:=dk) (by omega);refine ⟨by rw [hI.len];rfl,q2,?_⟩;rw [hI.len,← hI.done (0,0),W2.out];exact hc9
      · have B:=hid (keeps_pos hdup)
        have hq:∀ w,(binOp .eql 49 (.agg #[.int .i64 d[k]!.1,.int .i64 d[k]!.2]) (.agg #[.int .i64 d[k - 1]!.1,.int .i64 d[k - 1]!.2])).run Tryz.prog w=.ok (.bool false) w:=fun w=>by rw [c0p];exact congrArg (fun b=>Result.ok (Value.bool b) w) (decide_eq_false hdup)
        clear hdup;generalize d[k]!.1=x1 at *;generalize d[k]!.2=x2 at *;generalize d[k - 1]!.1=y1 at *;generalize d[k - 1]!.2=y2 at *;go_wp2_with fail
        go_quiet (fail)
        go_wp2;go_roundg (d.size - (k+1))
        case measure=>omega
        case rel =>
         refine ⟨k+1,q+nq,by omega,by omega,Nat.le_refl _,by go_num,by rw [hwr.out,World.drewN_drewN],hid (fun j hj=>?_)⟩;by_cases e:j=k
         · subst e;exact B.out
         · exact A.out j (by omega)
    · have:k=d.size:=by omega
      subst this;go_wp2;go_ret;obtain ⟨e1,e2⟩:=HS.out q A.out;exact ⟨by rw [e1];rfl,q,by rw [hwr.out];exact e2⟩
end Go.Proofs.YtjgedijclkoemaaGreatDoor
