/- What the five laws of layer 17 share, part 41: no statement of its own. -/
import Derived.Test.YtjgedijclkoemaaGreatDoorJ40
namespace Go.Proofs.YtjgedijclkoemaaGreatDoor
open Go.RowKit Go.Maps Go.Sort
set_option maxRecDepth 20000 in
set_option maxHeartbeats 4000000 in
theorem c3z (g:Gm) (rv nv lv pv:Value) (p:Int) (w:World) (hu:UsG g) (hf:Fits12 g) (hV:GmV w rv nv lv pv g) (hp:-1≤p∧p<(g.prods.length:Int)) :
 Calls Tryz.prog 46 #[gmA rv nv lv pv g.start,.int .i64 p] w fun e w'=>∃ v,e=.returned v∧Own w' w.heap.size v (a0e g p)∧Below w.heap.size w w':=by
 have GH:=hid (fun u (hu:Below w.heap.size w u)=>c4A g rv nv lv pv u (hV.keep hu) hf.bnd hf.names);have GY:=hid (fun u (hu:Below w.heap.size w u)=>a5U g rv nv lv pv p u (hV.keep hu) hp.1 hp.2);have GC:=hid (fun u v l hl (h:Nums u v l)=>c2M v l u hl h);have hbd:=hid (a9z hf.bnd (p:=p) hp.2);have hB1:=al' w (.cells #[rv,nv,lv,pv,.int .i64 g.start] 27);have k1:=b_ w (.cells #[rv,nv,lv,pv,.int .i64 g.start] 27);obtain ⟨W,hW⟩:∃ x,w.alloc (.cells #[rv,nv,lv,pv,.int .i64 g.start] 27)=x:=⟨_,rfl⟩;rw [hW] at hB1 k1;obtain ⟨y0,y1,y2,y3,y4⟩:=l_ k1;have hB:=hid hB1;have hk1:=hid (fun u (hu:Below W.heap.size W u)=>l_ (g_ k1 hu));rw [a5F hu] at GH;clear hV hf hB1 k1 hp;generalize a0e g p=S at *;generalize g.start=st at *;go_enter Tryz.func46,Tryz.ntmps46
 go_wp2_with (first
  | (go_at_call 41;refine (GH.out _ hB.out).mono ?_;clear GH;rintro e w3 ⟨rfl,hc3⟩;have hc3:=hid hc3;clear y0 y1 y2 y3 y4;obtain ⟨y0,y1,y2,y3,y4⟩:=hk1.out _ hc3.out)
  | (go_at_call 69;refine (GY.out _ (a_ hB.out hc3.out)).mono ?_;clear GY;rintro e w4 ⟨v4,rfl,hN4,hc4⟩;have hN4:=hid hN4;have hc4:=hid (a_ hc3.out hc4))
  | (go_at_call 70;refine (GC.out _ _ S hbd.out hN4.out).mono ?_;clear GC;rintro e w5 ⟨v5,rfl,hO5,hc5⟩;have hO5:=hid hO5;have hc5:=hid (a_ hc4.out hc5)))
 go_ret;exact ⟨_,rfl,a0o hO5.out (a_ hB.out hc4.out).size,a_ hB.out hc5.out⟩
set_option maxRecDepth 20000 in
theorem Tryz.infoRw:(Tryz.prog.info? 41).map (fun i=>(i.zero,i.size,i.bytes))=some (some (.slice none 0 0),1,24):=by kernel_rfl
theorem a6C {w:World} {b:Nat} {x0 x1 x2 x3 x4 x5 x6 x7 x8:Value} {T:TypeId} (h:w.heap[b]?=some (.cells #[x0,x1,x2,x3,x4,x5,x6,x7,x8] T (0,0))):w.cell? ⟨b,5,none⟩=some x5∧w.frozen? ⟨b,5,none⟩=false:=⟨c_ h rfl,i_ h 5⟩
structure SdB (B bb mm n q0:Nat) (rv nv lv pv:Value) (st:Int) (w0 u:World) (sv:Value) (us:List Value) (S:List (List Int)):Prop where
 blk:u.heap[bb]?=some (.cells #[rv,nv,lv,pv,.int .i64 st,sv,.int .i64 (n:Int),.slice none 0 0,.map (some mm)] 72 (0,0))
 row:u.ownsRow B 41 1 sv us.length us
 len:us.length=S.length
 num:∀ j (h:j<us.length) (h':j<S.length),Own u B us[j] S[j]
 off:∀ p∈us,∀ k,p.ownBlock=some k→sv.ownBlock≠some k
 map:OwnMi u mm 0 (fun _=>none)
 bnd:bb<B∧mm<B∧mm≠bb∧q0<B∧q0≠bb∧w0.heap.size≤bb∧w0.heap.size≤mm
 base:B≤u.heap.size
 box:u.heap[q0]?=some (.cells #[rv,nv,lv,pv,.int .i64 st] 27 (0,0))
 low:Below w0.heap.size w0 u
section
variable {B bb mm n q0:Nat} {rv nv lv pv:Value} {st:Int} {w0 u:World} {sv:Value} {us:List Value} {S:List (List Int)}
theorem SdB.keep (h:SdB B bb mm n q0 rv nv lv pv st w0 u sv us S) {u':World} (hu:Below u.heap.size u u'):SdB B bb mm n q0 rv nv lv pv st w0 u' sv us S:=
 ⟨g_ h.blk hu,j_ h.row hu,h.len,fun j h1 h2=>j_ (h.num j h1 h2) hu,h.off,h.map.at (hu.block _ h.map.lt),h.bnd,Nat.le_trans h.base hu.size,g_ h.box hu,a_ h.low hu⟩
set_option maxRecDepth 20000 in
theorem SdB.more (h:SdB B bb mm n q0 rv nv lv pv st w0 u sv us S) {u3:World} (hu:Below u.heap.size u u3) {v:Value} {l:List Int} (hv:Own u3 u.heap.size v l) (hn:us.length≤1000) :
 ∃ g cap u5,(Builtin.append_ #[69,69] 69 #[sv,.slice (some ⟨u3.heap.size,0,none⟩) 1 1]).run Tryz.prog (u3.alloc (.cells #[v] 41))=.ok (.slice (some ⟨g,0,none⟩) (us.length+1) cap) u5 ∧
  (u5.cell? ⟨bb,5,none⟩=some sv∧u5.frozen? ⟨bb,5,none⟩=false) ∧
  SdB B bb mm n q0 rv nv lv pv st w0 (u5.setCell ⟨bb,5,none⟩ (.slice (some ⟨g,0,none⟩) (us.length+1) cap)) (.slice (some ⟨g,0,none⟩) (us.length+1) cap) (us++[v]) (S++[l]):=by
 obtain ⟨i0,hi,hz0,hz1,hz2⟩:=info_parts Tryz.infoRw;have hal:=al' u3 (.cells #[v] 41);have hK:=(h.keep hu).keep hal;have hz:(u3.alloc (.cells #[v] 41)).cell? ⟨u3.heap.size,0,none⟩=some v:=c_ (b_ u3 (.cells #[v] 41)) rfl;have h1:v.oneCell'=true:=b2X hv
 obtain ⟨v',u5,hap,hown,hgr,-,hloc⟩:=run_append_own_at (P:=Tryz.prog) (u3.alloc (.cells #[v] 41)) B 69 69 41 i0 (.slice none 0 0) 1 24 Tryz.underlying69 hi hz0 hz1 hz2 rfl (by decide) _ _ _ hK.row ⟨u3.heap.size,0,none⟩ 1 1 [v] rfl (fun j y hy=>by
  have hj:j<1:=(List.getElem?_eq_some_iff.1 hy).1;obtain rfl:j=0:=by omega
  have hy:some v=some y:=hy;injection hy with hy;subst hy;exact hz) (fun y hy=>by
  rw [List.mem_singleton] at hy;subst hy;exact h1) (by unfold maxLen;omega) (by omega) hK.base
 obtain ⟨g,cap,rfl⟩:∃ g cap,v'=.slice (some ⟨g,0,none⟩) (us.length+1) cap:=by
  rcases hown.2 with ⟨rfl,h0⟩ | ⟨g,cap,cur,rfl,_⟩
  · omega
  · exact ⟨g,cap,rfl⟩
 have k3:=Kept.of_grown hgr;have hb:=h.bnd;have hsB:∀ k,sv.ownBlock=some k→B≤k:=fun k e=>(World.ownsRow.lt hK.row k e).1
 have hs5:=hgr.size;have hsu:=hu.size;have hsa:=hal.size;have hbb5:=k3.blk hK.blk (fun e=>by have:=hsB _ e;omega);have hvA:Own (u3.alloc (.cells #[v] 41)) u.heap.size v l:=j_ hv hal;have hg:B≤g:=(World.ownsRow.lt hown g rfl).1
 have hnum:∀ (x:Value) (X:List Int) (N:Nat),Own (u3.alloc (.cells #[v] 41)) N x X→B≤N→(∀ k,x.ownBlock=some k→sv.ownBlock≠some k)→Own (u5.setCell ⟨bb,5,none⟩ (.slice (some ⟨g,0,none⟩) (us.length+1) cap)) N x X:=fun x X N hx hN hd =>
  y_ hx fun k e=>by
   rw [Below.heap_setCell u5 ⟨bb,5,none⟩ _ k (fun e2=>by
    have:=(World.ownsRow.lt hx k e).1
    have e2:k=bb:=e2;omega)]
   exact k3.block k (World.ownsRow.lt hx k e).2 (hd k e)
 have hvd:∀ k,v.ownBlock=some k→sv.ownBlock≠some k:=fun k e e2=>by
  have h8:=(World.ownsRow.lt hv k e).1;have h9:=(World.ownsRow.lt h.row k e2).2;omega
 refine ⟨g,cap,u5,hap,a6C hbb5,⟨heap_setCell hbb5,?_,by rw [List.length_append,List.length_append,h.len];rfl,fun j j1 j2=>?_,fun p hp k e e2=>?_,?_,hb,?_,?_,?_⟩⟩
 · rw [List.length_append]
   exact a0z hown (fun e=>by have e:g=bb:=(by injection e);omega)
 · by_cases hj:j<us.length
   · simp only [List.getElem_append_left hj,List.getElem_append_left (show j<S.length by rw [← h.len];exact hj)]
     exact hnum _ _ _ (hK.num j hj (by rw [← h.len];exact hj)) (Nat.le_refl _) (h.off _ (List.getElem_mem hj))
   · obtain rfl:j=us.length:=by rw [List.length_append,List.length_singleton] at j1;omega
     simp only [List.getElem_concat_length,h.len];have h7:=a0o (hnum v l _ hvA h.base hvd) h.base;rw [h.len] at h7;exact h7
 · have e2:g=k:=by injection e2
   subst e2;rw [List.mem_append,List.mem_singleton] at hp;rcases hloc with e3 | e3
   · have e3:sv.ownBlock=some g:=e3.symm
     rcases hp with hp | rfl
     · exact h.off p hp g e e3
     · exact hvd g e e3
   · have e3:g=(u3.alloc (.cells #[v] 41)).heap.size:=by injection e3
     rcases hp with hp | rfl
     · obtain ⟨j,hj,rfl⟩:=List.getElem_of_mem hp
       have:=(World.ownsRow.lt (hK.num j hj (by rw [← h.len];exact hj)) g e).2
       omega
     · have:=(World.ownsRow.lt hvA g e).2
       omega
 · refine hK.map.at ?_
   rw [Below.heap_setCell u5 ⟨bb,5,none⟩ _ mm hb.2.2.1];exact k3.block mm hK.map.lt (fun e=>by have:=hsB _ e;omega)
 · have:(u5.setCell ⟨bb,5,none⟩ (.slice (some ⟨g,0,none⟩) (us.length+1) cap)).heap.size=u5.heap.size:=World.size_setCell ..
   have:=h.base
   omega
 · rw [Below.heap_setCell u5 ⟨bb,5,none⟩ _ q0 hb.2.2.2.2.1]
   exact k3.blk hK.box (fun e=>by have:=hsB _ e;omega)
 · exact (hK.low.grown hgr hK.low.size (fun k e=>by have:=hsB _ e;omega)).setCell (p:=⟨bb,5,none⟩) hb.2.2.2.2.2.1 _
end
def c4F (g:Gm) (n:Nat) (rv nv lv pv:Value) (w:World) (e:Ending) (w':World):Prop:=∃ (bb mm:Nat) (sv:Value) (F:Nat→Prop),e=.returned (.pointer (some ⟨bb,0,none⟩))∧BdO w.heap.size bb mm n rv nv lv pv g.start sv F w' (.slice none 0 0) [] []∧Stb F w' (Amb g rv nv lv pv sv w)
theorem SdB.done {B bb mm n q0:Nat} {rv nv lv pv:Value} {w0 u:World} {sv:Value} {us:List Value} {g:Gm} (h:SdB B bb mm n q0 rv nv lv pv g.start w0 u sv us (a4Z g)) (hV:GmV w0 rv nv lv pv g) (hT:Tab w0):c4F g n rv nv lv pv w0 (.returned (.pointer (some ⟨bb,0,none⟩))) u:=by
 have hb:=h.bnd;have hmm:=h.map.lt;have hbb:=u_ h.blk;have hF:∀ k,(k=bb∨k=mm)→w0.heap.size≤k:=fun k e=>by rcases e with rfl | rfl <;> omega
 refine ⟨bb,mm,sv,fun k=>k=bb∨k=mm,rfl,⟨h.blk,rfl,World.ownsRow_nil _ _ _ _,fun j hj=>absurd hj (Nat.not_lt_zero _),fun j hj=>absurd hj (Nat.not_lt_zero _),fun p hp=>(by cases hp),fun p hp=>(by cases hp),fun p hp=>(by cases hp),List.nodup_nil,h.map,fun k e=>(by cases e),⟨.inr rfl,hb.2.2.1⟩,.inl rfl,fun k e=>⟨by rcases e with rfl | rfl <;> omega,hF k e⟩⟩,fun x hx=>?_⟩;have hl:Below w0.heap.size w0 x:=h.low.trans (hx.below hF h.low.size)
 have hrow:x.ownsRow B 41 1 sv us.length us:=a0Y h.row hx fun k e e2=>by
  have:=(World.ownsRow.lt h.row k e).1
  rcases e2 with e2 | e2 <;> omega
 have hnum:∀ j (h1:j<us.length) (h2:j<(a4Z g).length),Nums x us[j] (a4Z g)[j]:=fun j h1 h2=>Nums.of_row (a0Y (h.num j h1 h2) hx fun k e e2=>by
  have:=(World.ownsRow.lt (h.num j h1 h2) k e).1
  rcases e2 with e2 | e2 <;> omega)
 refine ⟨hV.keep hl,?_,hT.keep hl,hl⟩;rcases hrow.2 with ⟨rfl,h0⟩ | ⟨gb,cap,cur,rfl,_,_,hc,_⟩
 · have:a4Z g=[]:=List.length_eq_zero_iff.1 (by rw [← h.len];exact h0)
   rw [this];exact Lst.nil x
 · have hlt:=(hrow.lt gb rfl).2
   have hcells:=hrow.cells (g:=gb) rfl;refine ⟨some ⟨gb,0,none⟩,cap,by rw [h.len],by rw [← h.len];exact hc,fun h=>(by cases h),fun j hj=>⟨gb,0,rfl,hlt,?_⟩⟩;have hjv:j<us.length:=by rw [h.len];exact hj
   have e1:=hcells j us[j] (by rw [List.getElem?_eq_getElem hjv]);rw [Go.WideShapes.add_plain] at e1;exact ⟨_,by rw [Nat.mul_one];exact e1,hnum j hjv hj⟩
theorem b4A {R F:World→Nat→Nat→Prop} {G:Prop} (h:(∀ V m b,F V m b→R V m b)→G) (pf:∀ V m b,F V m b→R V m b):G:=h pf
set_option maxRecDepth 20000 in
theorem a5a (w:World):(Instr.makeMap 70 none).run Tryz.prog w=.ok (.map (some w.heap.size)) (w.alloc (.map #[] 0)):=by
 simp [Instr.makeMap,Result.andThen]
 try rfl
theorem SdB.start {mm n q0:Nat} {rv nv lv pv:Value} {st:Int} {w0 V:World} (hm:OwnMi V mm 0 (fun _=>none)) (hmw:w0.heap.size≤mm) (hq:V.heap[q0]?=some (.cells #[rv,nv,lv,pv,.int .i64 st] 27 (0,0))) (hl:Below w0.heap.size w0 V) :
 SdB (V.heap.size+1) V.heap.size mm n q0 rv nv lv pv st w0 (V.alloc (.cells #[rv,nv,lv,pv,.int .i64 st,.slice none 0 0,.int .i64 (n:Int),.slice none 0 0,.map (some mm)] 72)) (.slice none 0 0) [] []:=by
 have hal:=al' V (.cells #[rv,nv,lv,pv,.int .i64 st,.slice none 0 0,.int .i64 (n:Int),.slice none 0 0,.map (some mm)] 72);have h1:=hm.lt;have h2:=u_ hq;have h3:=hl.size;exact ⟨b_ V _,World.ownsRow_nil _ _ _ _,rfl,fun j hj=>absurd hj (Nat.not_lt_zero _),fun p hp=>(by cases hp),hm.at (hal.block _ h1),⟨by omega,by omega,by omega,by omega,by omega,by omega,hmw⟩,by rw [World.size_alloc];omega,g_ hq hal,a_ hl hal⟩
theorem SdB.start1 {n q0:Nat} {rv nv lv pv:Value} {st:Int} {w0 u:World} (hq:u.heap[q0]?=some (.cells #[rv,nv,lv,pv,.int .i64 st] 27 (0,0))) (hl:Below w0.heap.size w0 u) :
 ∃ B,SdB B (u.heap.size+1) u.heap.size n q0 rv nv lv pv st w0 ((u.alloc (.map #[] 0)).alloc (.cells #[rv,nv,lv,pv,.int .i64 st,.slice none 0 0,.int .i64 (n:Int),.slice none 0 0,.map (some u.heap.size)] 72)) (.slice none 0 0) [] []:=by
 have h:=SdB.start (n:=n) (OwnMi.made u) hl.size (g_ hq (al' u (.map #[] 0))) (a_ hl (al' u (.map #[] 0)));have e:(u.alloc (.map #[] 0)).heap.size=u.heap.size+1:=World.size_alloc ..;rw [e] at h;exact ⟨_,h⟩
theorem SdB.start2 {W:World} {m:Nat} (hm:W.heap.size=m) {n q0:Nat} {rv nv lv pv:Value} {st:Int} {w0 u:World} (hc:Below (W.alloc (.map #[] 0)).heap.size (W.alloc (.map #[] 0)) u) (hW:w0.heap.size≤W.heap.size) (hq:u.heap[q0]?=some (.cells #[rv,nv,lv,pv,.int .i64 st] 27 (0,0))) (hl:Below w0.heap.size w0 u) :
 ∃ B,SdB B u.heap.size m n q0 rv nv lv pv st w0 (u.alloc (.cells #[rv,nv,lv,pv,.int .i64 st,.slice none 0 0,.int .i64 (n:Int),.slice none 0 0,.map (some m)] 72)) (.slice none 0 0) [] []:=by
 subst hm;exact ⟨_,SdB.start (n:=n) ((OwnMi.made W).at (hc.block _ (OwnMi.made W).lt)) hW hq hl⟩
set_option maxRecDepth 100000 in
set_option maxHeartbeats 32000000 in
theorem c4Q (g:Gm) (rv nv lv pv:Value) (n:Nat) (w:World) (hu:UsG g) (hf:Fits12 g) (hV:GmV w rv nv lv pv g) (hT:Tab w) (hn:n=g.all+1) :
 Calls Tryz.prog 24 #[gmA rv nv lv pv g.start] w (c4F g n rv nv lv pv w):=by
 obtain ⟨na,nc,rfl⟩:=hV.nonts.shape;obtain ⟨pa,pc,rfl⟩:=hV.prods.shape;have GT:=hid (fun u (hu:Below w.heap.size w u)=>b0m rv _ lv _ g g.start u (hV.keep hu) (by have:=hf.rules;omega));have GS:=hid (fun p hp u (hu':Below w.heap.size w u)=>c3z g rv _ lv _ p u hu hf (hV.keep hu') hp);have hdone:=hid (fun B bb mm u sv us (h:SdB B bb mm n w.heap.size rv (.slice na g.nonts.length nc) lv (.slice pa g.prods.length pc) g.start w u sv us (a4Z g))=>h.done hV hT);have hB1:=al' w (.cells #[rv,.slice na g.nonts.length nc,lv,.slice pa g.prods.length pc,.int .i64 g.start] 27);have k1:=b_ w (.cells #[rv,.slice na g.nonts.length nc,lv,.slice pa g.prods.length pc,.int .i64 g.start] 27);obtain ⟨W,hW⟩:∃ x,w.alloc (.cells #[rv,.slice na g.nonts.length nc,lv,.slice pa g.prods.length pc,.int .i64 g.start] 27)=x:=⟨_,rfl⟩;rw [hW] at hB1 k1;have hW1:w.heap.size+1=W.heap.size:=by rw [← hW,World.size_alloc]
 have hWs:=hid hW1;have hk1:=hid (fun u (hu:Below W.heap.size W u)=>g_ k1 hu);obtain ⟨y0,y1,y2,y3,y4⟩:=l_ k1;have hB:=hid hB1;have hall:g.all=g.terms+g.nonts.length:=rfl;have htl:g.terms≤40:=by have:=a0d g.rules g.rules.length;have:=hf.rules;have e:g.terms=a3z g.rules g.rules.length:=rfl;omega
 have hnl:g.nonts.length≤40:=hf.nonts;have hpl:g.prods.length≤60:=hf.prods;have hw1:IntKind.i64.wrap (1+(g.terms:Int))=1+(g.terms:Int):=by rw [IntKind.wrap_i64];omega
 have hw2:IntKind.i64.wrap (1+(g.terms:Int)+(g.nonts.length:Int))=(n:Int):=by rw [IntKind.wrap_i64];omega
 have hdr:=hid (show Below W.heap.size W W.drew from (Below.refl _ W).drew);have hat:=hid (fun k (hk:k<(a4Z g).length)=>b2v hk);have hlen:=hid (a9B g);clear hV hT hf hu hB1 k1 hW1;clear hall;generalize g.start=st at *;generalize g.terms=tm at *;generalize hnle:g.nonts.length=nl at *;generalize hple:g.prods.length=pl at *;clear hn hnle;have hmm:=a5a;go_enter Tryz.func24,Tryz.ntmps24
 go_wp2_with fail
 clear hW;apply b4A (F:=fun V mm bb=>∃ B,SdB B bb mm n w.heap.size rv (.slice na nl nc) lv (.slice pa pl pc) st w V (.slice none 0 0) [] [])
 case h =>
  intro rest
  go_region_held3 (fun w'=>w'.cell? ⟨w.heap.size,0,none⟩=some rv∧w'.cell? ⟨w.heap.size,1,none⟩=some (.slice na nl nc)∧w'.cell? ⟨w.heap.size,2,none⟩=some lv∧w'.cell? ⟨w.heap.size,3,none⟩=some (.slice pa pl pc)∧w'.cell? ⟨w.heap.size,4,none⟩=some (.int .i64 st)) (go_keep) ((first
   | (go_at_call 45;refine (GT.out W.drew (a_ hB.out hdr.out)).mono ?_;rintro e u ⟨rfl,hc⟩;have hcw:=hid (a_ hdr.out hc);obtain ⟨p0,p1,p2,p3,p4⟩:=l_ (hk1.out u hcw.out);have hS:=hid (SdB.start1 (n:=n) (hk1.out u hcw.out) (a_ hB.out hcw.out));skip)
   | (go_at_call 45;have hma:=hid (hdr.out.alloc (Nat.le_refl _) (.map #[] 0));refine (GT.out (W.drew.alloc (.map #[] 0)) (a_ hB.out hma.out)).mono ?_;rintro e u ⟨rfl,hc⟩;have hcw:=hid (a_ hma.out hc);obtain ⟨p0,p1,p2,p3,p4⟩:=l_ (hk1.out u hcw.out);have hS:=hid (SdB.start2 (W:=W.drew) (m:=W.heap.size) rfl (n:=n) hc hB.out.size (hk1.out u hcw.out) (a_ hB.out hcw.out));skip)))
  all_goals
   have hf:=hS.out
   first
    | (generalize (u.alloc (.map #[] 0)).alloc (.cells #[rv,.slice na nl nc,lv,.slice pa pl pc,.int .i64 st,.slice none 0 0,.int .i64 (n:Int),.slice none 0 0,.map (some u.heap.size)] 72)=V at hf ⊢;generalize u.heap.size+1=bq at hf ⊢;generalize u.heap.size=mq at hf ⊢;exact rest V mq bq hf)
    | (generalize u.alloc (.cells #[rv,.slice na nl nc,lv,.slice pa pl pc,.int .i64 st,.slice none 0 0,.int .i64 (n:Int),.slice none 0 0,.map (some W.heap.size)] 72)=V at hf ⊢;generalize u.heap.size=bq at hf ⊢;generalize W.heap.size=mq at hf ⊢;exact rest V mq bq hf)
 case pf =>
  rintro V mm bb ⟨B,hS⟩;have hS:=hid hS;clear GT hk1 hdr hmm y0 y1 y2 y3 y4 hw1 hw2 hWs hB;have y3:V.cell? ⟨w.heap.size,3,none⟩=some (.slice pa pl pc):=c_ hS.out.box rfl;go_wp2;go_loopw [4] (fun p u=>∃ (k:Nat) (z:Int) (sv:Value) (us:List Value),k≤pl+1∧p=.int .i64 z∧Hid (z=(k:Int) - 1)∧Hid (SdB B bb mm n w.heap.size rv (.slice na nl nc) lv (.slice pa pl pc) st w u sv us ((a4Z g).take k))) (fun p _=>((pl:Int) - intOf p).toNat)
  case atStart=>exact ⟨0,_,_,_,Nat.zero_le _,rfl,hid rfl,hS⟩
  case round =>
   clear hS y3;obtain ⟨k,z,sv,us,hk,rfl,hz,hS⟩:=hrel;have hbx:=hS.out.box;obtain ⟨y0,y1,y2,y3,y4⟩:=l_ hbx;obtain ⟨x5,f5⟩:=a6C hS.out.blk;by_cases hlt:k<pl+1
   · have hltz:z<(pl:Int):=by have:=hz.out;omega
     have hzp:-1≤z∧z<(pl:Int):=by have:=hz.out;omega
     have hkl:k<(a4Z g).length:=by rw [hlen.out];exact hlt
     have hsk:(a4Z g).take (k+1)=(a4Z g).take k++[a0e g z]:=by rw [List.take_succ_eq_append_getElem hkl,hat.out k hkl,← hz.out]
     have hbl:=hid (show Below w.heap.size w wr.drew from hS.out.low.drew);have G:=hid (GS.out z hzp wr.drew hbl.out);have hlus:us.length≤1000:=by rw [hS.out.len,List.length_take];omega
     have hmore:=hid (fun (u3:World) (hu:Below wr.heap.size wr u3) (v:Value) (hv:Own u3 wr.heap.size v (a0e g z))=>by
      have h1:=hS.out.more hu hv hlus;rw [← hsk] at h1;exact h1)
     have hblk:=hid hS.out.blk;have hbxH:=hid hbx;have hz1:=hid (show z+1=((k+1:Nat):Int) - 1 by have:=hz.out;omega);have hzw:IntKind.i64.wrap (z+1)=z+1:=by rw [IntKind.wrap_i64];omega
     obtain ⟨sa,sc,rfl⟩:=p_ hS.out.row;clear hS hsk hkl hdone GS hbl hbx hz;generalize us.length=ul at *;go_wp2_with fail
     go_region_law ((first
      | (refine M_ (by rfl) (.tmp 27) (.tmp 31) 69 (by rfl) _ _ (by rfl) (by rfl) hrun ?_;obtain ⟨c5,f9⟩:=h5.out)
      | (refine a2O (by rfl) 46 #[gmA rv (.slice na nl nc) lv (.slice pa pl pc) st,.int .i64 z] (by go_simp) G.out ?_;clear G;rintro e u3 ⟨v3,rfl,hv,hc⟩;refine ⟨_,rfl,?_⟩;obtain ⟨va,vc,rfl⟩:=p_ hv;obtain ⟨g9,cp,u5,hrun,h5,hfin⟩:=hmore.out u3 ((Below.refl wr.heap.size wr).drew.trans hc) _ hv;have hfin:=hid hfin;have h5:=hid h5;have hcw:Below wr.heap.size wr u3:=(Below.refl wr.heap.size wr).drew.trans hc;obtain ⟨a5,a9⟩:=a6C (g_ hblk.out hcw);obtain ⟨j5,j9⟩:=a6C (g_ (g_ hblk.out hcw) (al' u3 (.cells #[.slice va (a0e g z).length vc] 41)));clear hmore hv hc hcw)))
     all_goals
      go_wp2;go_roundw
      case rel=>exact ⟨k+1,_,_,_,by omega,rfl,hz1,hfin⟩
      case measure=>simp [intOf];omega
   · have hltz:¬ z<(pl:Int):=by have:=hz.out;omega
     have hfin:=hid (hdone.out B bb mm wr sv us (by have h:=hS.out;rw [List.take_of_length_le (by rw [hlen.out];omega)] at h;exact h));clear hS hdone;go_wp2;go_ret;exact hfin.out
theorem BdO.stsW {B bb mm n:Nat} {rv nv lv pv:Value} {st:Int} {sv:Value} {F:Nat→Prop} {w:World} {tv:Value} {vs:List (Value×Nat)} {L:List St} (h:BdO B bb mm n rv nv lv pv st sv F w tv vs L) {N:Nat} (hN:N≤B):c0T N w tv L:=fun u hu=>by
 have hO:=h.keep hu;refine ⟨hO.sts,fun i hi s hs=>?_⟩;have hiv:i<vs.length:=by rw [hO.len];exact hi
 obtain ⟨g,cap,e,c1,c2⟩:=hO.at hi hiv;have hl:=(hO.nxt i hi hiv).2;have hF:=hO.nF _ (List.getElem_mem hiv);have hb:=hO.lt _ hF.1;refine ⟨vs[i].2,0,g,0,cap,e,⟨n,by rw [Nat.zero_add,hl];exact c2⟩,by omega,?_,fun z=>?_⟩
 · rw [Nat.zero_add]
   exact (hO.nextCell hi hiv (by rw [← hl];exact hs)).2
 · rw [Nat.zero_add]
   exact (hO.put hi hiv s z).1.sts
theorem a9s (N:Nat) (w:World):c0T N w (.slice none 0 0) []:=fun u _=>⟨Lst.nil u,fun _i hi=>absurd hi (Nat.not_lt_zero _)⟩
theorem b1k (g:Gm):b5o (g.all+1) [] [((-1:Int),(0:Int))]=a3h g (m_ g 0) 0 (m_ g 0):=by
 rw [a6P (by simp)]
 show []++[([((-1:Int),(0:Int))],List.replicate (g.all+1) (-1))]=a3h g [[(-1,0)]] 0 [[(-1,0)]]
 unfold a3h;simp
set_option maxRecDepth 20000 in
theorem a8J {B bb mm:Nat} {rv nv lv pv:Value} {st:Int} {sv:Value} {F:Nat→Prop} {g:Gm} {w0 w:World} (h:BdO B bb mm (g.all+1) rv nv lv pv st sv F w (.slice none 0 0) [] []) (hP:Stb F w (Amb g rv nv lv pv sv w0)) (hal:g.all≤32) :
 Calls Tryz.prog 25 #[.pointer (some ⟨bb,0,none⟩),.slice (some ⟨w.heap.size,0,none⟩) 1 1] (w.alloc (.cells #[.int .i64 (-1),.int .i64 0] 49)) fun e w'=>∃ z,e=.returned (.int .i64 z)∧∃ F' tv' vs',BdO B bb mm (g.all+1) rv nv lv pv st sv F' w' tv' vs' (a3h g (m_ g 0) 0 (m_ g 0))∧Stb F' w' (Amb g rv nv lv pv sv w0):=by
 have hb:=al' w (.cells #[.int .i64 (-1),.int .i64 0] 49);have hP1:=hP.move (Mvd.of_below hb);refine (b3s (h.keep hb) (Its.lit1 w (-1) 0) rfl (fun k e=>?_) (by decide) (fun y hy=>?_) hP1.now.tab (by omega) (by omega) (by simp)).mono ?_
 · have e:w.heap.size=k:=by injection e
   subst e;exact ⟨fun e2=>by have:=(h.lt _ e2).1;omega,by rw [World.size_alloc];omega⟩
 · rw [List.mem_singleton] at hy
   subst hy;decide
 · rintro e w4 ⟨rfl,F',tv',vs',h1,h2,-⟩
   rw [b1k] at h1;exact ⟨_,rfl,F',tv',vs',h1,hP1.move h2⟩
set_option maxRecDepth 100000 in
set_option maxHeartbeats 32000000 in
theorem b8q (g:Gm) (rv nv lv pv:Value) (w:World) (hT:Tab w) (hH:FitsH g) (hV:GmV w rv nv lv pv g) :
 Calls Tryz.prog 10 #[gmA rv nv lv pv g.start] w fun e w'=>∃ v,e=.returned (.tuple #[v,.int .i64 (eB g)])∧c0T w.heap.size w' v (lB g)∧Below w.heap.size w w':=by
 have hf:=hH.fits;have hB1:=al' w (.cells #[rv,nv,lv,pv,.int .i64 g.start] 27);have k1:=b_ w (.cells #[rv,nv,lv,pv,.int .i64 g.start] 27);obtain ⟨W,hW⟩:∃ x,w.alloc (.cells #[rv,nv,lv,pv,.int .i64 g.start] 27)=x:=⟨_,rfl⟩;rw [hW] at hB1 k1;have GR:=hid (b2F g rv nv lv pv (.slice none 0 0) [] W hf (hV.keep hB1) (Lst.nil W) (by simp));obtain ⟨y0,y1,y2,y3,y4⟩:=l_ k1;have hB:=hid hB1;have hk1:=hid (fun u (hu:Below W.heap.size W u)=>l_ (g_ k1 hu));by_cases hu:UsG g
 · have hal:g.all≤32:=by
    have h1:=hu.snd.rules;have h2:=hu.snd.nonts;have h3:g.terms≤g.rules.length:=a0d g.rules g.rules.length;unfold Gm.all;omega
   rw [a9E ⟨hu,fun x hx=>by cases hx⟩] at GR;have GN:=hid (fun u (hu':Below W.heap.size W u)=>c4Q g rv nv lv pv (g.all+1) u hu hf (hV.keep (a_ hB.out hu')) (hT.keep (a_ hB.out hu')) rfl);have hf9:=hid hf;have hu9:=hid hu;have hNo:=hid (fun (h:¬ a0A g)=>(⟨a7J (fun h2=>h h2.2),a8Y hu h⟩:lB g=[]∧eB g=3));have hYes:=hid (fun (h:a0A g)=>(⟨a1S ⟨hu,h⟩,a2y ⟨hu,h⟩⟩:lB g=N_ g∧eB g=0));generalize lB g=LB at *;generalize eB g=EB at *;clear hV hT hH hB1 k1 hf hu;generalize hst:g.start=st at *;go_enter Tryz.func10,Tryz.ntmps10
   go_wp2_with (first
    | (go_at_call 23;refine GR.out.mono ?_;clear GR;rintro e w1 ⟨rfl,hc1⟩;have hc1:=hid hc1;clear y0 y1 y2 y3 y4;obtain ⟨y0,y1,y2,y3,y4⟩:=hk1.out w1 hc1.out)
    | (go_at_call 24;refine (GN.out w1 hc1.out).mono ?_;clear GN;rintro e w2 ⟨bb,mm,sv,F,rfl,hO,hP⟩;rw [hst] at hO;have hO:=hid hO;have hP:=hid hP)
    | (go_at_call 25;refine (a8J hO.out hP.out hal).mono ?_;rintro e w4 ⟨zz,rfl,F4,tv4,vs4,hO4,hP4⟩;have hO4:=hid hO4;have hP4:=hid hP4;clear hO hP))
   clear hW y0 y1 y2 y3 y4 hk1
   have hlen0:(m_ g 0).length≤240:=by
    show ([[((-1:Int),(0:Int))]]:List Kr).length≤240
    decide
   go_loopw [5] (fun c u=>∃ (i:Nat) (F':Nat→Prop) (tv':Value) (vs':List (Value×Nat)),i≤240∧c=.int .i64 (i:Int)∧i≤(m_ g i).length∧(m_ g i).length≤240∧Hid (BdO w1.heap.size bb mm (g.all+1) rv nv lv pv st sv F' u tv' vs' (a3h g (m_ g i) i (m_ g i)))∧Hid (Stb F' u (Amb g rv nv lv pv sv w1))) (fun c _=>241 - (intOf c).toNat)
   case atStart=>exact ⟨0,F4,tv4,vs4,by omega,rfl,Nat.zero_le _,hlen0,hO4,hP4⟩
   case round =>
    clear hO4 hP4 hlen0;obtain ⟨i,F',tv',vs',hi,rfl,hil,hl,hO,hP⟩:=hrel;obtain ⟨x5,x6,x7,x8,f7⟩:=a0O hO.out.blk;obtain ⟨ta,tc,rfl⟩:=hO.out.sts.shape;rw [F_] at x7;have hBs:=hid (show w.heap.size≤w1.heap.size from (a_ hB.out hc1.out).size);have hlow:=hid (show Below w.heap.size w wr from a_ (a_ hB.out hc1.out) hP.out.now.low);by_cases hlt:i<(m_ g i).length
    · have hltz:(i:Int)<((m_ g i).length:Int):=by omega
      have GL:=hid (c1S (g:=g) (i:=i) (by rw [hst];exact hO.out) hP.out hu9.out hf9.out rfl hlt hl);rw [hst] at GL;have hpre:=(a1A g i).length_le;clear hO;generalize hkl:(m_ g i).length=kl at *;by_cases h240:(m_ g (i+1)).length≤240
      · have hgz:¬ ((m_ g (i+1)).length:Int)>240:=by omega
        have hgz2:((m_ g (i+1)).length:Int)≤240:=by omega
        go_wp2_with (go_at_call 26;refine GL.out.mono ?_;clear GL;rintro e w5 ⟨rfl,F5,tv5,vs5,hO5,hM5⟩;obtain ⟨ta5,tc5,rfl⟩:=hO5.sts.shape;obtain ⟨z5,z6,z7,z8,g7⟩:=a0O hO5.blk;rw [F_] at z7;have hO5:=hid hO5;have hP5:=hid (hP.out.move hM5);clear hP)
        go_roundw
        case rel=>exact ⟨i+1,F5,_,vs5,by omega,by go_num,by omega,h240,hO5,hP5⟩
        case measure=>simp [intOf];omega
      · have hgz:((m_ g (i+1)).length:Int)>240:=by omega
        have hgz2:(240:Int)<((m_ g (i+1)).length:Int):=by omega
        have hnf:¬ a0A g:=b0t (i:=i+1) (by omega) (by omega);obtain ⟨rfl,rfl⟩:=hNo.out hnf;clear hnf hNo hYes;go_wp2_with (go_at_call 26;refine GL.out.mono ?_;clear GL;rintro e w5 ⟨rfl,F5,tv5,vs5,hO5,hM5⟩;obtain ⟨ta5,tc5,rfl⟩:=hO5.sts.shape;obtain ⟨z5,z6,z7,z8,g7⟩:=a0O hO5.blk;rw [F_] at z7;have hP5:=hid (hP.out.move hM5);clear hP hO5)
        go_ret2;exact ⟨_,rfl,a9s _ _,a_ (a_ hB.out hc1.out) hP5.out.now.low⟩
    · have hltz:¬ (i:Int)<((m_ g i).length:Int):=by omega
      have hei:(m_ g i).length=i:=by omega
      obtain ⟨hfin,hfk⟩:=b8f hei hi;have hS:=hO.out.stsW hBs.out
      have hl9:N_ g=a3h g (m_ g i) i (m_ g i):=by
       unfold N_;rw [← hfin]
       have:=b6e g (m_ g i)
       rw [hei] at this;rw [this,hei]
      obtain ⟨e1,rfl⟩:=hYes.out hfk;rw [hl9] at e1;have e9:LB.length=(m_ g i).length:=by rw [e1,F_]
      rw [← e1,e9] at hS;have hS:=hid hS;clear hO hP hl9 hfin hfk hei hNo hYes e1 e9;have hS:Hid (c0T w.heap.size wr (.slice ta (m_ g i).length tc) LB):=hS;generalize (m_ g i).length=kl at *;go_wp2;go_ret2;exact ⟨_,rfl,hS.out,hlow.out⟩
 · rw [b8U (fun h=>hu h.us)] at GR
   have hl:lB g=[]:=a7J (fun h=>hu h.1);rw [hl,b4q hu];clear hV hT hH hB1 k1 hf hl;generalize g.start=st at *;go_enter Tryz.func10,Tryz.ntmps10
   go_wp2_with (go_at_call 23;refine GR.out.mono ?_;clear GR;rintro e w1 ⟨rfl,hc1⟩;have hc1:=hid hc1)
   go_ret2;exact ⟨_,rfl,a9s _ _,a_ hB.out hc1.out⟩
end Go.Proofs.YtjgedijclkoemaaGreatDoor
namespace Go.Proofs.YtjgedijclkoemaaGreatDoor
open Go.RowKit Go.Maps
theorem a8V {α:Type} [DecidableEq α] {l l':List α} (h:l.length≠l'.length):decide (l=l')=false:=decide_eq_false fun e=>h (by rw [e])
theorem b4p {α:Type} [DecidableEq α] {l l':List α} {k:Nat} (h:k<l.length) (h':k<l'.length) (hn:l[k]≠l'[k]):decide (l=l')=false:=decide_eq_false fun e=>hn (by subst e;rfl)
theorem a8U {α:Type} [DecidableEq α] {l l':List α} (h:l.length=l'.length) (ha:∀ j (h:j<l.length) (h':j<l'.length),l[j]=l'[j]):decide (l=l')=true:=decide_eq_true (List.ext_getElem h ha)
set_option maxRecDepth 20000 in
theorem b6V : (Tryz.prog.fieldsOf 49).toList = [{ name := "Prod", type := 3, offset := 0, embedded := false, tag := "", pkgPath := "", byteOffset := 0 }, { name := "Dot", type := 3, offset := 1, embedded := false, tag := "", pkgPath := "", byteOffset := 8 }] := by kernel_rfl
set_option maxRecDepth 20000 in
theorem b7Z (x y:Int×Int) (w:World):(binOp .neq 49 (.agg #[.int .i64 x.1,.int .i64 x.2]) (.agg #[.int .i64 y.1,.int .i64 y.2])).run Tryz.prog w=.ok (.bool (!decide (x=y))) w:=by
 obtain ⟨a,b⟩:=x;obtain ⟨a',b'⟩:=y;have p0:∀ x0 x1:Int,(part 3 #[.int .i64 x0,.int .i64 x1] 0).run Tryz.prog w=.ok (.int .i64 x0) w:=fun _ _=>by simp [part,isAgg,run_underlying Tryz.underlying3]
 have p1:∀ x0 x1:Int,(part 3 #[.int .i64 x0,.int .i64 x1] 1).run Tryz.prog w=.ok (.int .i64 x1) w:=fun _ _=>by simp [part,isAgg,run_underlying Tryz.underlying3]
 have hi:=fun d x y=>run_equalIn_int (P:=Tryz.prog) w d 3 .i64 .i64 x y Tryz.underlying3
 rw [run_neq_struct,run_equalIn_struct w 9999 _ _ _ (by kernel_rfl) (by kernel_rfl),b6V];by_cases h0:a=a'
 · by_cases h1:b=b'
   · subst h0 h1;simp [Op.eqFields,p0,p1,hi]
   · subst h0;simp [Op.eqFields,p0,p1,hi,h1]
 · simp [Op.eqFields,p0,hi,h0]
set_option maxRecDepth 20000 in
set_option maxHeartbeats 4000000 in
theorem c2E (v v':Value) (l l':List Int) (w:World) (hA:Nums w v l) (hB:Nums w v' l') (hl:l.length≤1000000) (_:l'.length≤1000000) :
 Calls Tryz.prog 55 #[v,v'] w fun e w'=>e=.returned (.bool (decide (l=l')))∧Below w.heap.size w w':=by
 obtain ⟨aa,ca,rfl,_,_,hA⟩:=hA;obtain ⟨ab,cb,rfl,_,_,hB⟩:=hB;by_cases hlen:l.length=l'.length
 · have hy:=hid (fun h=>a8U hlen h)
   have hn:=hid (fun k h h' hne=>b4p (l:=l) (l':=l') (k:=k) h h' hne);have hlz:((l.length:Int) != (l'.length:Int))=false:=by rw [hlen];simp
   generalize decide (l=l')=R at *;go_enter Tryz.func55,Tryz.ntmps55
   go_wp2;clear hlz;go_loopw [13] (fun i wr=>∃ k:Nat,k≤l.length∧i=.int .i64 (k:Int)∧Hid (∀ j (h:j<l.length) (h':j<l'.length),j<k→l[j]=l'[j])∧Hid (Below w.heap.size w wr)) (fun i _=>l.length - (intOf i).toNat)
   case atStart=>exact ⟨0,Nat.zero_le _,rfl,hid (fun j _ _ h=>absurd h (Nat.not_lt_zero _)),hid (Below.refl _ w)⟩
   case round =>
    obtain ⟨k,hk,rfl,hal,hbl⟩:=hrel;by_cases hlt:k<l.length
    · have hltz:(k:Int)<(l.length:Int):=by omega
      have hlt2:k<l'.length:=by omega
      have hltz2:(k:Int)<(l'.length:Int):=by omega
      obtain ⟨b1,o1,rfl,hb1,hc1⟩:=hA k hlt;obtain ⟨b2,o2,rfl,hb2,hc2⟩:=hB k hlt2;have hd1:=(hbl.out.cell hb1).trans hc1;have hd2:=(hbl.out.cell hb2).trans hc2;clear hc1 hc2;clear hA hB;by_cases he:l[k]=l'[k]
      · have hnx:Hid (∀ j (h:j<l.length) (h':j<l'.length),j<k+1→l[j]=l'[j]):=hid (fun j h h' hj=>by
         rcases Nat.lt_or_ge j k with h9 | h9
         · exact hal.out j h h' h9
         · obtain rfl:j=k:=by omega
           exact he)
        clear hal hy hn;generalize l[k]=x at *;generalize l'[k]=y at *;have hne:(x != y)=false:=by rw [he];simp
        clear he;go_wp2_with fail
        go_quiet (fail)
        go_wp2;go_roundw
        case rel=>exact ⟨k+1,by omega,by go_num,hnx,hid (by first | exact q_ hbl.out | exact q_ (q_ hbl.out))⟩
        case measure=>simp [intOf];omega
      · obtain rfl:=hn.out k hlt hlt2 he
        clear hal hy hn;generalize l[k]=x at *;generalize l'[k]=y at *;have hne:(x != y)=true:=bne_iff_ne.2 he;clear he;go_wp2_with fail
        go_quiet (fail)
        go_wp2;go_ret;exact ⟨rfl,by first | exact q_ hbl.out | exact q_ (q_ hbl.out)⟩
    · have hltz:¬ (k:Int)<(l.length:Int):=by omega
      obtain rfl:=hy.out (fun j h h'=>hal.out j h h' (by omega));clear hA hB hy hn hal;go_wp2;go_ret;exact ⟨rfl,hbl.out⟩
 · have hlz:((l.length:Int) != (l'.length:Int))=true:=bne_iff_ne.2 (by omega)
   obtain h9:=a8V (l:=l) (l':=l') hlen;rw [h9];clear hA hB h9 hlen;go_enter Tryz.func55,Tryz.ntmps55
   go_wp2;go_ret;exact ⟨rfl,Below.refl _ _⟩
set_option maxRecDepth 20000 in
set_option maxHeartbeats 4000000 in
theorem c4f (v v':Value) (l l':List (Int×Int)) (w:World) (hA:Lst 2 b1N w v l) (hB:Lst 2 b1N w v' l') (hl:l.length≤1000000) (_:l'.length≤1000000) :
 Calls Tryz.prog 54 #[v,v'] w fun e w'=>e=.returned (.bool (decide (l=l')))∧Below w.heap.size w w':=by
 obtain ⟨aa,ca,rfl,_,_,hA⟩:=hA;obtain ⟨ab,cb,rfl,_,_,hB⟩:=hB;by_cases hlen:l.length=l'.length
 · have hy:=hid (fun h=>a8U hlen h)
   have hn:=hid (fun k h h' hne=>b4p (l:=l) (l':=l') (k:=k) h h' hne);have hlz:((l.length:Int) != (l'.length:Int))=false:=by rw [hlen];simp
   generalize decide (l=l')=R at *;go_enter Tryz.func54,Tryz.ntmps54
   go_wp2;clear hlz;go_loopw [13] (fun i wr=>∃ k:Nat,k≤l.length∧i=.int .i64 (k:Int)∧Hid (∀ j (h:j<l.length) (h':j<l'.length),j<k→l[j]=l'[j])∧Hid (Below w.heap.size w wr)) (fun i _=>l.length - (intOf i).toNat)
   case atStart=>exact ⟨0,Nat.zero_le _,rfl,hid (fun j _ _ h=>absurd h (Nat.not_lt_zero _)),hid (Below.refl _ w)⟩
   case round =>
    obtain ⟨k,hk,rfl,hal,hbl⟩:=hrel;by_cases hlt:k<l.length
    · have hltz:(k:Int)<(l.length:Int):=by omega
      have hlt2:k<l'.length:=by omega
      have hltz2:(k:Int)<(l'.length:Int):=by omega
      obtain ⟨b1,o1,rfl,hb1,hc1⟩:=hA k hlt;obtain ⟨b2,o2,rfl,hb2,hc2⟩:=hB k hlt2;have hd1:=(hbl.out.cell hb1).trans hc1.1;have he1:=(hbl.out.cell hb1).trans hc1.2;have hd2:=(hbl.out.cell hb2).trans hc2.1;have he2:=(hbl.out.cell hb2).trans hc2.2;clear hc1 hc2;clear hA hB;by_cases he:l[k]=l'[k]
      · have hnx:Hid (∀ j (h:j<l.length) (h':j<l'.length),j<k+1→l[j]=l'[j]):=hid (fun j h h' hj=>by
         rcases Nat.lt_or_ge j k with h9 | h9
         · exact hal.out j h h' h9
         · obtain rfl:j=k:=by omega
           exact he)
        clear hal hy hn;have hne:=fun u=>b7Z l[k] l'[k] u
        rw [decide_eq_true he] at hne;generalize l[k]=x at *;generalize l'[k]=y at *;clear he;go_wp2_with fail
        go_quiet (fail)
        go_wp2;go_roundw
        case rel=>exact ⟨k+1,by omega,by go_num,hnx,hid (by first | exact q_ hbl.out | exact q_ (q_ hbl.out))⟩
        case measure=>simp [intOf];omega
      · obtain rfl:=hn.out k hlt hlt2 he
        clear hal hy hn;have hne:=fun u=>b7Z l[k] l'[k] u
        rw [decide_eq_false he] at hne;generalize l[k]=x at *;generalize l'[k]=y at *;clear he;go_wp2_with fail
        go_quiet (fail)
        go_wp2;go_ret;exact ⟨rfl,by first | exact q_ hbl.out | exact q_ (q_ hbl.out)⟩
    · have hltz:¬ (k:Int)<(l.length:Int):=by omega
      obtain rfl:=hy.out (fun j h h'=>hal.out j h h' (by omega));clear hA hB hy hn hal;go_wp2;go_ret;exact ⟨rfl,hbl.out⟩
 · have hlz:((l.length:Int) != (l'.length:Int))=true:=bne_iff_ne.2 (by omega)
   obtain h9:=a8V (l:=l) (l':=l') hlen;rw [h9];clear hA hB h9 hlen;go_enter Tryz.func54,Tryz.ntmps54
   go_wp2;go_ret;exact ⟨rfl,Below.refl _ _⟩
end Go.Proofs.YtjgedijclkoemaaGreatDoor
namespace Go.Proofs.YtjgedijclkoemaaGreatDoor
open Go.RowKit Go.Maps Go.Sort
set_option maxRecDepth 20000 in
set_option maxHeartbeats 4000000 in
theorem b0Z (x y:St) (vk vn vk' vn':Value) (w:World) (h1:Its w vk x.1) (h2:Nums w vn x.2) (h3:Its w vk' y.1) (h4:Nums w vn' y.2) (l1:x.1.length≤1000000) (l2:x.2.length≤1000000) (l3:y.1.length≤1000000) (l4:y.2.length≤1000000) :
 Calls Tryz.prog 31 #[.agg #[vk,vn],.agg #[vk',vn']] w fun e w'=>e=.returned (.bool (decide (x=y)))∧Below w.heap.size w w':=by
 have hB1:=al' w (.cells #[vk,vn] 43);have k1:=b_ w (.cells #[vk,vn] 43);have hs1:(w.alloc (.cells #[vk,vn] 43)).heap.size=w.heap.size+1:=World.size_alloc _ _;have hB2:=al' (w.alloc (.cells #[vk,vn] 43)) (.cells #[vk',vn'] 43);have k2:=b_ (w.alloc (.cells #[vk,vn] 43)) (.cells #[vk',vn'] 43);rw [hs1] at hB2 k2;obtain ⟨W,hW⟩:∃ z,(w.alloc (.cells #[vk,vn] 43)).alloc (.cells #[vk',vn'] 43)=z:=⟨_,rfl⟩;rw [hW] at hB2 k2;have hWs:W.heap.size=w.heap.size+1+1:=by rw [← hW,World.size_alloc,hs1]
 have hB:Hid (Below w.heap.size w W):=hid (hB1.trans (hB2.mono (by omega)));have k1W:W.heap[w.heap.size]?=some (.cells #[vk,vn] 43):=by rw [hB2.block w.heap.size (by omega)];exact k1
 have hk1:=hid (fun u (hu:Below W.heap.size W u)=>w_ (show u.heap[w.heap.size]?=_ from (hu.block w.heap.size (by omega)).trans k1W));have hk2:=hid (fun u (hu:Below W.heap.size W u)=>w_ (show u.heap[w.heap.size+1]?=_ from (hu.block (w.heap.size+1) (by omega)).trans k2));have G1:=hid (c4f vk vk' x.1 y.1 W (h1.keep hB.out) (h3.keep hB.out) l1 l3);have G2:=hid (fun u (hu:Below W.heap.size W u)=>c2E vn vn' x.2 y.2 u ((h2.keep hB.out).keep hu) ((h4.keep hB.out).keep hu) l2 l4);clear h1 h2 h3 h4 hB1 hB2 k1 k2 k1W l1 l2 l3 l4;obtain ⟨y0,y1⟩:=hk1.out _ (Below.refl _ W);obtain ⟨z0,z1⟩:=hk2.out _ (Below.refl _ W);obtain ⟨xk,xn⟩:=x;obtain ⟨yk,yn⟩:=y;dsimp only at *;by_cases e1:xk=yk
 · rw [decide_eq_true e1] at G1
   have hR:decide ((xk,xn)=(yk,yn))=decide (xn=yn):=by
    subst e1;by_cases e3:xn=yn
    · subst e3;simp
    · rw [decide_eq_false e3];exact decide_eq_false (fun e=>e3 (by injection e))
   rw [hR];clear hR e1;generalize decide (xn=yn)=R at *;go_enter Tryz.func31,Tryz.ntmps31
   go_wp2_with (first
    | (go_at_call 54;refine G1.out.mono ?_;clear G1;rintro e w3 ⟨rfl,hc⟩;have hc:=hid hc;have G3:=hid (G2.out _ hc.out);clear G2 y0 y1 z0 z1;obtain ⟨y0,y1⟩:=hk1.out _ hc.out;obtain ⟨z0,z1⟩:=hk2.out _ hc.out)
    | (go_at_call 55;refine G3.out.mono ?_;clear G3;rintro e w4 ⟨rfl,hd⟩;have hd:=hid (a_ hc.out hd)))
   go_ret;exact ⟨by first | rfl | simp,a_ hB.out hd.out⟩
 · rw [decide_eq_false e1] at G1
   have hR:decide ((xk,xn)=(yk,yn))=false:=decide_eq_false (fun e=>e1 (by injection e));rw [hR];clear hR e1 G2;go_enter Tryz.func31,Tryz.ntmps31
   go_wp2_with (go_at_call 54;refine G1.out.mono ?_;clear G1;rintro e w3 ⟨rfl,hc⟩;have hc:=hid hc;clear y0 y1 z0 z1;obtain ⟨y0,y1⟩:=hk1.out _ hc.out;obtain ⟨z0,z1⟩:=hk2.out _ hc.out)
   go_ret;exact ⟨by first | rfl | simp,a_ hB.out hc.out⟩
set_option maxRecDepth 20000 in
set_option maxHeartbeats 4000000 in
theorem c2D (v v':Value) (l l':List St) (w:World) (hA:Sts w v l) (hB:Sts w v' l') (hl:l.length≤1000000) (_:l'.length≤1000000) (hr:∀ x:St,x∈l→x.1.length≤1000000∧x.2.length≤1000000) (hr':∀ x:St,x∈l'→x.1.length≤1000000∧x.2.length≤1000000) :
 Calls Tryz.prog 30 #[v,v',.func (.func 31) #[] #[]] w fun e w'=>e=.returned (.bool (decide (l=l')))∧Below w.heap.size w w':=by
 have hA0:=hid hA;have hB0:=hid hB;obtain ⟨aa,ca,rfl,_,_,hA⟩:=hA;obtain ⟨ab,cb,rfl,_,_,hB⟩:=hB;by_cases hlen:l.length=l'.length
 · have hy:=hid (fun h=>a8U hlen h)
   have hn:=hid (fun k h h' hne=>b4p (l:=l) (l':=l') (k:=k) h h' hne);have hlz:((l.length:Int) != (l'.length:Int))=false:=by rw [hlen];simp
   have hlenH:=hid hlen;clear hlen hA hB;generalize decide (l=l')=R at *;go_enter Tryz.func30,Tryz.ntmps30
   go_wp2;clear hlz;go_loopw [17] (fun i wr=>∃ k:Nat,k≤l.length∧i=.int .i64 (k:Int)∧Hid (∀ j (h:j<l.length) (h':j<l'.length),j<k→l[j]=l'[j])∧Hid (Below w.heap.size w wr)) (fun i _=>l.length - (intOf i).toNat)
   case atStart=>exact ⟨0,Nat.zero_le _,rfl,hid (fun j _ _ h=>absurd h (Nat.not_lt_zero _)),hid (Below.refl _ w)⟩
   case round =>
    obtain ⟨k,hk,rfl,hal,hbl⟩:=hrel;by_cases hlt:k<l.length
    · have hltz:(k:Int)<(l.length:Int):=by omega
      have hlt2:k<l'.length:=by have:=hlenH.out;omega
      have hltz2:(k:Int)<(l'.length:Int):=by omega
      obtain ⟨b1,o1,e1,hb1,u1,m1,x0,x1,hq1,hp1⟩:=Lst.at (Sts.keep hA0.out hbl.out) hlt;obtain ⟨b2,o2,e2,hb2,u2,m2,y0,y1,hq2,hp2⟩:=Lst.at (Sts.keep hB0.out hbl.out) hlt2;subst e1 e2;obtain ⟨a1,c1,rfl⟩:=hq1.shape;obtain ⟨a2,c2,rfl⟩:=hq2.shape;obtain ⟨a3,c3,rfl,-⟩:=id hp1;obtain ⟨a4,c4,rfl,-⟩:=id hp2;obtain ⟨V1,hV1⟩:∃ x,wr.alloc (.cells #[.slice a1 l[k].1.length c1,.slice a3 l[k].2.length c3] 43)=x:=⟨_,rfl⟩;have hD1:Below wr.heap.size wr V1:=by rw [← hV1];exact al' wr _
      have y0:=d_ hD1 y0;have y1:=d_ hD1 y1;obtain ⟨V2,hV2⟩:∃ x,V1.alloc (.cells #[.slice a2 l'[k].1.length c2,.slice a4 l'[k].2.length c4] 43)=x:=⟨_,rfl⟩;have hD2:Below V1.heap.size V1 V2:=by rw [← hV2];exact al' V1 _
      have hk1:V1.heap[wr.heap.size]?=some (.cells #[.slice a1 l[k].1.length c1,.slice a3 l[k].2.length c3] 43):=by rw [← hV1];exact b_ wr _
      have hk2:V2.heap[V1.heap.size]?=some (.cells #[.slice a2 l'[k].1.length c2,.slice a4 l'[k].2.length c4] 43):=by rw [← hV2];exact b_ V1 _
      obtain ⟨p0,p1⟩:=w_ (g_ hk1 hD2);obtain ⟨z0,z1⟩:=w_ hk2;have hD:=a_ hD1 hD2;have G:=hid (b0Z l[k] l'[k] _ _ _ _ V2 (hq1.keep hD) (hp1.keep hD) (hq2.keep hD) (hp2.keep hD) (hr _ (List.getElem_mem hlt)).1 (hr _ (List.getElem_mem hlt)).2 (hr' _ (List.getElem_mem hlt2)).1 (hr' _ (List.getElem_mem hlt2)).2);have hbl:=hid (a_ hbl.out hD);clear hk1 hk2 hq1 hq2 hp1 hp2 hb1 hb2 hD hD1 hD2;by_cases he:l[k]=l'[k]
      · have hnx:Hid (∀ j (h:j<l.length) (h':j<l'.length),j<k+1→l[j]=l'[j]):=hid (fun j h h' hj=>by
         rcases Nat.lt_or_ge j k with h9 | h9
         · exact hal.out j h h' h9
         · obtain rfl:j=k:=by omega
           exact he)
        rw [decide_eq_true he] at G;clear hal hy hn he;generalize l[k].1.length=q1 at *;generalize l'[k].1.length=q2 at *;generalize l[k].2.length=q3 at *;generalize l'[k].2.length=q4 at *;go_wp2_with (go_at_call 31;refine G.out.mono ?_;clear G;rintro e w3 ⟨rfl,hc⟩;have hc:=hid hc)
        go_roundw
        case rel=>exact ⟨k+1,by omega,by go_num,hnx,hid (a_ hbl.out hc.out)⟩
        case measure=>simp [intOf];omega
      · obtain rfl:=hn.out k hlt hlt2 he
        rw [decide_eq_false he] at G;clear hal hy hn he;generalize l[k].1.length=q1 at *;generalize l'[k].1.length=q2 at *;generalize l[k].2.length=q3 at *;generalize l'[k].2.length=q4 at *;go_wp2_with (go_at_call 31;refine G.out.mono ?_;clear G;rintro e w3 ⟨rfl,hc⟩;have hc:=hid hc)
        go_ret;exact ⟨rfl,a_ hbl.out hc.out⟩
    · have hltz:¬ (k:Int)<(l.length:Int):=by omega
      obtain rfl:=hy.out (fun j h h'=>hal.out j h h' (by omega));clear hy hn hal;go_wp2;go_ret;exact ⟨rfl,hbl.out⟩
 · have hlz:((l.length:Int) != (l'.length:Int))=true:=bne_iff_ne.2 (by omega)
   obtain h9:=a8V (l:=l) (l':=l') hlen;rw [h9];clear hA hB h9 hlen;go_enter Tryz.func30,Tryz.ntmps30
   go_wp2;go_ret;exact ⟨rfl,Below.refl _ _⟩
set_option maxRecDepth 100000 in
set_option maxHeartbeats 8000000 in
theorem a2k (g:Gm) (rv nv lv pv vl:Value) (L:List St) (w:World) (hT:Tab w) (hH:FitsH g) (hV:GmV w rv nv lv pv g) (hL:Sts w vl L) (hl:L.length≤240) (hlk:∀ x:St,x∈L→x.1.length≤1000∧x.2.length≤1000) :
 Calls Tryz.prog 13 #[gmA rv nv lv pv g.start,vl] w fun e w'=>e=.returned (.bool (a1s g L))∧Below w.heap.size w w':=by
 have hB1:=al' w (.cells #[rv,nv,lv,pv,.int .i64 g.start] 27);have k1:=b_ w (.cells #[rv,nv,lv,pv,.int .i64 g.start] 27);obtain ⟨W,hW⟩:∃ x,w.alloc (.cells #[rv,nv,lv,pv,.int .i64 g.start] 27)=x:=⟨_,rfl⟩;rw [hW] at hB1 k1;obtain ⟨y0,y1,y2,y3,y4⟩:=l_ k1;have hB:=hid hB1;have GB:=hid (b8q g rv nv lv pv W (hT.keep hB1) hH (hV.keep hB1));have GE:=hid (fun u va (hu:Below W.heap.size W u) (ha:Sts u va (lB g))=>c2D vl va L (lB g) u (Sts.keep hL (a_ hB1 hu)) ha (by omega) (by have:=a5j g;omega) (fun x hx=>by have:=hlk x hx;omega) (fun x hx=>by have:=a5k g x hx;omega));by_cases hc:UsG g∧a0A g
 · have e1:=a2y hc
   have e2:a1s g L=decide (L=lB g):=by rw [a9C hc.1 hc.2,a1S hc]
   rw [e1] at GB;rw [e2];clear hV hT hH hL hlk hl hB1 k1 e1 e2 hc;generalize decide (L=lB g)=R at *;generalize lB g=LB at *;generalize g.start=st at *;go_enter Tryz.func13,Tryz.ntmps13
   go_wp2_with (first
    | (go_at_call 10;refine GB.out.mono ?_;clear GB;rintro e w1 ⟨v1,rfl,hS,hc1⟩;have hS1:=(hS w1 (Below.refl _ _)).1;have GE1:=hid (GE.out w1 v1 hc1 hS1);obtain ⟨a1,c1,rfl⟩:=hS1.shape;have hc1:=hid hc1;clear GE hS hS1)
    | (go_at_call 30;refine GE1.out.mono ?_;clear GE1;rintro e w2 ⟨rfl,hc2⟩;have hc2:=hid (a_ hc1.out hc2)))
   go_ret;exact ⟨by first | rfl | simp,a_ hB.out hc2.out⟩
 · have e2:a1s g L=false:=a5X hc
   rw [e2];have e3:((eB g) == 0)=false:=beq_eq_false_iff_ne.2 (fun e=>hc (a8X.1 e));clear hV hT hH hL hlk hl hB1 k1 e2 hc GE;generalize eB g=ez at *;generalize lB g=LB at *;generalize g.start=st at *;go_enter Tryz.func13,Tryz.ntmps13
   go_wp2_with (go_at_call 10;refine GB.out.mono ?_;clear GB;rintro e w1 ⟨v1,rfl,hS,hc1⟩;have hc1:=hid hc1;clear hS)
   go_ret;exact ⟨by first | rfl | simp,a_ hB.out hc1.out⟩
end Go.Proofs.YtjgedijclkoemaaGreatDoor
