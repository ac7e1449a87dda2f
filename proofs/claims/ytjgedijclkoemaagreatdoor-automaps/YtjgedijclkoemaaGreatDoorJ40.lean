/- What the five laws of layer 17 share, part 40: no statement of its own. -/
import Derived.Test.YtjgedijclkoemaaGreatDoorJ39
namespace Go.Proofs.YtjgedijclkoemaaGreatDoor
open Go.RowKit Go.Maps Go.Sort
theorem a2O {P:Program} {ops:Array Oper} {o:Oper} {a:Act} {w:World} {K:Act→World→Prop} {Q:Exit→Act→World→Prop} {E:Prop} (hgd:o.guard=none) (f:FuncId) (args:Array Value)
 (hrun:(execOp a.eval o).run P w=.ok (.enter f args) w) {R:Ending→World→Prop} (hc:Calls P f args w R) (h:∀ e w',R e w'→∃ v,e=.returned v∧K (a.put o.dst v) w') :
 if Region.wanted o (yielded ops a.tmps)=true then Oper.wp P o a w K Q else E:=by
 have hw:Region.wanted o (yielded ops a.tmps)=true:=by simp [Region.wanted,hgd]
 rw [if_pos hw];unfold Oper.wp;rw [hrun,Oper.upon_enter];refine hc.mono fun e w' hr=>?_
 obtain ⟨v,rfl,hk⟩:=h e w' hr;exact hk
theorem a0O {w:World} {b:Nat} {x0 x1 x2 x3 x4 x5 x6 x7 x8:Value} {T:TypeId} (h:w.heap[b]?=some (.cells #[x0,x1,x2,x3,x4,x5,x6,x7,x8] T (0,0))) :
 w.cell? ⟨b,5,none⟩=some x5∧w.cell? ⟨b,6,none⟩=some x6∧w.cell? ⟨b,7,none⟩=some x7∧w.cell? ⟨b,8,none⟩=some x8∧w.frozen? ⟨b,7,none⟩=false:=
 ⟨c_ h rfl,c_ h rfl,c_ h rfl,c_ h rfl,i_ h 7⟩
section
variable {B bb mm n:Nat} {rv nv lv pv:Value} {st:Int} {sv:Value} {F:Nat→Prop} {w:World} {tv:Value} {vs:List (Value×Nat)} {L:List St}
set_option maxRecDepth 20000 in
theorem BdO.more (h:BdO B bb mm n rv nv lv pv st sv F w tv vs L) {u w3:World} {x:Kr} {kv:Value} {nb:Nat}
 (k1:Kept (f_ mm) w u) (hmap:OwnMi u mm (L.length+1) (idM (L.map Prod.fst++[x]))) (hb:Below u.heap.size u w3)
 (hnb:w3.heap[nb]?=some (.cells (k_ (List.replicate n (-1))).toArray 3 (0,0))) (hnew:u.heap.size≤nb)
 (hkv:Its w kv x) (h1:kv.oneCell'=true) (hkF:∀ k,kv.ownBlock=some k→¬ F k∧k<w.heap.size) (hL:L.length≤100000) :
 ∃ g cap w5,(Builtin.append_ #[30,30] 30 #[tv,.slice (some ⟨w3.heap.size,0,none⟩) 1 1]).run Tryz.prog (w3.alloc (.cells #[kv,.slice (some ⟨nb,0,none⟩) n n] 43))=.ok (.slice (some ⟨g,0,none⟩) (L.length+1) cap) w5 ∧
  (w5.cell? ⟨bb,5,none⟩=some sv∧w5.cell? ⟨bb,6,none⟩=some (.int .i64 (n:Int))∧w5.cell? ⟨bb,7,none⟩=some tv∧w5.cell? ⟨bb,8,none⟩=some (.map (some mm))∧w5.frozen? ⟨bb,7,none⟩=false) ∧
  ∃ F',BdO B bb mm n rv nv lv pv st sv F' (w5.setCell ⟨bb,7,none⟩ (.slice (some ⟨g,0,none⟩) (L.length+1) cap)) (.slice (some ⟨g,0,none⟩) (L.length+1) cap) (vs++[(kv,nb)]) (L++[(x,List.replicate n (-1))])∧Mvd F F' w (w5.setCell ⟨bb,7,none⟩ (.slice (some ⟨g,0,none⟩) (L.length+1) cap)):=by
 obtain ⟨i0,hi,hz0,hz1,hz2⟩:=info_parts b8a;have hal:=al' w3 (.cells #[kv,.slice (some ⟨nb,0,none⟩) n n] 43);have hb1:Below u.heap.size u (w3.alloc (.cells #[kv,.slice (some ⟨nb,0,none⟩) n n] 43)):=a_ hb hal;obtain ⟨z0,z1⟩:=w_ (b_ w3 (.cells #[kv,.slice (some ⟨nb,0,none⟩) n n] 43))
 have hrow:(w3.alloc (.cells #[kv,.slice (some ⟨nb,0,none⟩) n n] 43)).ownsRow B 43 2 tv vs.length (J_ (bdC n vs)):=
  j_ (a0Y h.row k1 fun k e e2=>(h.rF k e).2.2 e2) hb1
 have hBl:=(h.lt _ h.inF);have hsz:=k1.size;have hsz1:=hb1.size;rw [h.len] at hrow;have hnbA:(w3.alloc (.cells #[kv,.slice (some ⟨nb,0,none⟩) n n] 43)).heap[nb]?=some (.cells (k_ (List.replicate n (-1))).toArray 3 (0,0)):=g_ hnb hal;have hbbA:(w3.alloc (.cells #[kv,.slice (some ⟨nb,0,none⟩) n n] 43)).heap[bb]?=_:=(hb1.block bb (by omega)).trans ((k1.block bb hBl.1 (fun e=>h.mF.2 e.symm)).trans h.blk)
 obtain ⟨v',w5,hap,hown,hgr,-,hloc⟩:=run_append_own_at (P:=Tryz.prog) (w3.alloc (.cells #[kv,.slice (some ⟨nb,0,none⟩) n n] 43)) B 30 30 43 i0 (.agg #[.slice none 0 0,.slice none 0 0]) 2 48 Tryz.underlying30 hi hz0 hz1 hz2 rfl (by decide) _ _ _ hrow ⟨w3.heap.size,0,none⟩ 1 1 (J_ [(kv,.slice (some ⟨nb,0,none⟩) n n)]) rfl (fun j y hy=>by
  have hj:j<2:=(List.getElem?_eq_some_iff.1 hy).1;rcases (by omega:j=0∨j=1) with rfl | rfl
  · have hy:some kv=some y:=hy
    injection hy with hy;subst hy;exact z0
  · have hy:some (Value.slice (some ⟨nb,0,none⟩) n n)=some y:=hy
    injection hy with hy;subst hy;exact z1) (fun y hy=>by
  have hy:y∈[kv,Value.slice (some ⟨nb,0,none⟩) n n]:=hy;simp only [List.mem_cons,List.not_mem_nil,or_false] at hy;rcases hy with rfl | rfl
  · exact h1
  · rfl) (by unfold maxLen;omega) (by omega) (by omega)
 have hv:∃ g cap,v'=.slice (some ⟨g,0,none⟩) (L.length+1) cap:=by
  rcases hown.2 with ⟨rfl,h0⟩ | ⟨g,cap,cur,rfl,_⟩
  · omega
  · exact ⟨g,cap,rfl⟩
 obtain ⟨g,cap,rfl⟩:=hv;have htb:¬ tv.ownBlock=some bb:=fun e=>(h.rF _ e).2.1 rfl
 have hbb5:=(Kept.of_grown hgr).blk hbbA htb;refine ⟨g,cap,w5,hap,a0O hbb5,?_⟩;exact h.add k1 hmap hb1 hnbA hnew hkv h1 hkF hown hgr (hloc.imp (fun e=>e.symm) (fun e=>by injection e))
set_option maxRecDepth 100000 in
set_option maxHeartbeats 32000000 in
theorem b3s (h:BdO B bb mm n rv nv lv pv st sv F w tv vs L) {x:Kr} {kv:Value} (hkv:Its w kv x) (h1:kv.oneCell'=true) (hkF:∀ k,kv.ownBlock=some k→¬ F k∧k<w.heap.size) (hx:x.length≤1000) (hF:c3l x) (hT:Tab w) (h0:0<n) (hn:n≤1000) (hL:L.length≤1000) :
 Calls Tryz.prog 25 #[.pointer (some ⟨bb,0,none⟩),kv] w fun e w'=>e=.returned (.int .i64 ((b1R (L.map Prod.fst) x).idxOf x:Int))∧∃ F' tv' vs',BdO B bb mm n rv nv lv pv st sv F' w' tv' vs' (b5o n L x)∧Mvd F F' w w'∧vs <+: vs':=by
 have GK:=hid (c3Y kv x w hx hF hkv hT);obtain ⟨ka,kc,rfl⟩:=hkv.shape;obtain ⟨xl,hxl⟩:∃ q,Hid (List.length x=q):=⟨_,hid rfl⟩;have hkl:=a6o x hF;by_cases hm:x∈L.map Prod.fst
 · rw [b0b hm,a6O hm]
   have hP:=hid (fun u (hu:Below w.heap.size w u)=>by
    have hO:=h.keep hu;have hlk:=hO.map.look (a0T x) (by omega);rw [b3S hm] at hlk;exact (⟨a0O hO.blk,hlk⟩:(u.cell? ⟨bb,5,none⟩=some sv∧u.cell? ⟨bb,6,none⟩=some (.int .i64 (n:Int))∧u.cell? ⟨bb,7,none⟩=some tv∧u.cell? ⟨bb,8,none⟩=some (.map (some mm))∧u.frozen? ⟨bb,7,none⟩=false)∧(Instr.lookup 70 (.map (some mm)) (.string (e_ (a0T x))) true).run Tryz.prog u=.ok (.tuple #[.int .i64 ((L.map Prod.fst).idxOf x:Int),.bool true]) u))
   have hres:=hid (fun u (hu:Below w.heap.size w u)=>(⟨F,tv,vs,h.keep hu,Mvd.of_below hu,List.prefix_refl _⟩:∃ F' tv' vs',BdO B bb mm n rv nv lv pv st sv F' u tv' vs' L∧Mvd F F' w u∧vs <+: vs'));clear h hkv hT hkF hm hL;generalize e_ (a0T x)=T at *;generalize (L.map Prod.fst).idxOf x=ix at *;go_enter Tryz.func25,Tryz.ntmps25
   go_wp2_with (go_at_call 47;refine GK.out.mono ?_;clear GK;rintro e w1 ⟨rfl,hb1⟩;obtain ⟨⟨x5,x6,x7,x8,f7⟩,hlk⟩:=hP.out w1 hb1;clear hP;have hb1:=hid hb1)
   go_ret;exact ⟨rfl,hres.out _ hb1.out⟩
 · rw [b3C hm,a6P hm,List.idxOf_append,if_neg hm,List.idxOf_cons_self,List.length_map,Nat.zero_add]
   obtain ⟨ta,tc,rfl⟩:∃ ta tc,tv=.slice ta L.length tc:=by
    obtain ⟨a,c,e⟩:=h.sts.shape;exact ⟨a,c,e⟩
   have hP:=hid (fun u (hu:Below w.heap.size w u)=>by
    have hO:=h.keep hu;have hlk:=hO.map.look (a0T x) (by omega);rw [c2d hm] at hlk;obtain ⟨u2,hup,hM,hk⟩:=hO.map.put (a0T x) (L.length:Int) (by omega) (by omega);rw [show (L.length:Int)=((L.map Prod.fst).length:Int) by rw [List.length_map],b6N hm] at hM;have hz:=hk.blk hO.blk (fun e=>hO.mF.2 e.symm);have hnx:∀ w3 nb,Below u2.heap.size u2 w3→w3.heap[nb]?=some (.cells (k_ (List.replicate n (-1))).toArray 3 (0,0))→u2.heap.size≤nb→_:=fun w3 nb q1 q2 q3=>hO.more hk hM q1 q2 q3 (hkv.keep hu) h1 (fun k e=>⟨(hkF k e).1,Nat.lt_of_lt_of_le (hkF k e).2 hu.size⟩) (by omega)
    exact (⟨a0O hO.blk,hlk,u2,hup,hz,hnx⟩:(u.cell? ⟨bb,5,none⟩=some sv∧u.cell? ⟨bb,6,none⟩=some (.int .i64 (n:Int))∧u.cell? ⟨bb,7,none⟩=some (.slice ta L.length tc)∧u.cell? ⟨bb,8,none⟩=some (.map (some mm))∧u.frozen? ⟨bb,7,none⟩=false)∧(Instr.lookup 70 (.map (some mm)) (.string (e_ (a0T x))) true).run Tryz.prog u=.ok (.tuple #[.int .i64 0,.bool false]) u∧∃ u2,(Instr.mapUpdate 70 (.map (some mm)) (.string (e_ (a0T x))) (.int .i64 (L.length:Int))).run Tryz.prog u=.ok () u2∧u2.heap[bb]?=some (.cells #[rv,nv,lv,pv,.int .i64 st,sv,.int .i64 (n:Int),.slice ta L.length tc,.map (some mm)] 72 (0,0)) ∧
     ∀ w3 nb,Below u2.heap.size u2 w3→w3.heap[nb]?=some (.cells (k_ (List.replicate n (-1))).toArray 3 (0,0))→u2.heap.size≤nb→∃ g cap w5,(Builtin.append_ #[30,30] 30 #[.slice ta L.length tc,.slice (some ⟨w3.heap.size,0,none⟩) 1 1]).run Tryz.prog (w3.alloc (.cells #[.slice ka x.length kc,.slice (some ⟨nb,0,none⟩) n n] 43))=.ok (.slice (some ⟨g,0,none⟩) (L.length+1) cap) w5 ∧
      (w5.cell? ⟨bb,5,none⟩=some sv∧w5.cell? ⟨bb,6,none⟩=some (.int .i64 (n:Int))∧w5.cell? ⟨bb,7,none⟩=some (.slice ta L.length tc)∧w5.cell? ⟨bb,8,none⟩=some (.map (some mm))∧w5.frozen? ⟨bb,7,none⟩=false) ∧
      ∃ F',BdO B bb mm n rv nv lv pv st sv F' (w5.setCell ⟨bb,7,none⟩ (.slice (some ⟨g,0,none⟩) (L.length+1) cap)) (.slice (some ⟨g,0,none⟩) (L.length+1) cap) (vs++[(.slice ka x.length kc,nb)]) (L++[(x,List.replicate n (-1))])∧Mvd F F' u (w5.setCell ⟨bb,7,none⟩ (.slice (some ⟨g,0,none⟩) (L.length+1) cap))))
   clear h hkv hT hkF hm;have hkc:=h1;generalize e_ (a0T x)=T at *;obtain ⟨ln,hl9⟩:∃ q,Hid (L.length=q):=⟨_,hid rfl⟩;rw [hl9.out] at hP hL;rw [hxl.out] at hP GK;rw [hl9.out,hxl.out];clear h1 hkl hkc;go_enter Tryz.func25,Tryz.ntmps25
   go_wp2_with (go_at_call 47;refine GK.out.mono ?_;clear GK;rintro e w1 ⟨rfl,hb1⟩;obtain ⟨⟨x5,x6,x7,x8,f7⟩,hlk,u,hup,hbk,hmo⟩:=hP.out w1 hb1;clear hP;have hmo:=hid hmo;have hb1:=hid hb1;obtain ⟨y5,y6,y7,y8,g7⟩:=a0O hbk;have hbk:=hid hbk)
   clear x5 x6 x7 x8 f7 hlk hup;have hal:Below u.heap.size u (u.alloc (.cells #[.int .i64 (-1)] 3)):=al' u _
   have GR:Hid (∀ v,v.heap=(u.alloc (.cells #[.int .i64 (-1)] 3)).heap→Below u.heap.size u v→Calls Tryz.prog 48 #[.slice (some ⟨u.heap.size,0,none⟩) 1 1,.int .i64 (n:Int)] v fun e w'=>∃ nb,e=.returned (.slice (some ⟨nb,0,none⟩) n n)∧w'.heap[nb]?=some (.cells (k_ (List.replicate n (-1))).toArray 3 (0,0))∧u.heap.size≤nb∧Below u.heap.size u w'):=
    hid (fun v hv hb=>(b8V u.heap.size n (-1) v h0 (by omega) (by rw [hv];exact b_ u _)).mono fun e w' ⟨nb,e1,e2,e3,e4⟩=>⟨nb,e1,e2,Nat.le_trans hb.size e3,a_ hb e4⟩)
   have z6:=d_ hal y6;have z7:=d_ hal y7;have hal:=hid hal
   go_region_law ((first
    | (refine M_ (by rfl) (.tmp 36) (.tmp 45) 30 (by rfl) _ _ (by rfl) (by rfl) hrun ?_;obtain ⟨c5,c6,c7,c8,f9⟩:=h5.out)
    | (refine a2O (by rfl) 48 #[.slice (some ⟨u.heap.size,0,none⟩) 1 1,.int .i64 (n:Int)] (by go_simp) (GR.out _ rfl (by first | exact hal.out | exact hal.out.drew | exact hal.out.drew.drew)) ?_;clear GR;rintro e w3 ⟨nb,rfl,hnb,hge,hc⟩;refine ⟨_,rfl,?_⟩;obtain ⟨g,cap,w5,hrun,h5,hfin⟩:=hmo.out w3 nb hc hnb hge;have hfin:=hid hfin;have h5:=hid h5;obtain ⟨a5,a6,a7,a8,a9⟩:=a0O (g_ hbk.out hc);obtain ⟨j5,j6,j7,j8,j9⟩:=a0O (g_ (g_ hbk.out hc) (al' w3 (.cells #[.slice ka xl kc,.slice (some ⟨nb,0,none⟩) n n] 43)));clear hmo hnb hge hc)))
   all_goals
    go_wp2;go_ret;obtain ⟨F',q1,q2⟩:=hfin.out;exact ⟨rfl,F',_,_,q1,(Mvd.of_below hb1.out).trans q2,List.prefix_append _ _⟩
end
def c3d (w:World) (b o:Nat) (l:List Int):Prop:=∃ v,w.cell? ⟨b,o,none⟩=some v∧Nums w v l
abbrev Sds (w:World) (v:Value) (L:List (List Int)):Prop:=Lst 1 c3d w v L
theorem Sds.keep {w u:World} {v:Value} {L:List (List Int)} (h:Sds w v L) (hu:Below w.heap.size w u):Sds u v L:=
 Lst.keepR h hu.size fun _b _o _x _hb ⟨vv,h1,h2⟩=>⟨vv,d_ hu h1,h2.keep hu⟩
def a4Z (g:Gm):List (List Int):=(List.range (g.prods.length+1)).map fun (k:Nat)=>a0e g ((k:Int) - 1)
theorem a9B (g:Gm):(a4Z g).length=g.prods.length+1:=by unfold a4Z;rw [List.length_map,List.length_range]
theorem b2v {g:Gm} {k:Nat} (h:k<(a4Z g).length):(a4Z g)[k]=a0e g ((k:Int) - 1):=by
 simp only [a4Z,List.getElem_map,List.getElem_range]
theorem b5C {g:Gm} (hu:UsG g) {p:Int} (hp:p<(g.prods.length:Int)):∀ s∈a0e g p,1≤s∧s≤(g.all:Int):=fun s hs=>by
 have hs0:=hu.snd;by_cases hn:p<0
 · rw [a3D hn,List.mem_singleton] at hs
   subst hs
   have:=hs0.start hu.some
   omega
 · have hk:p.toNat<g.prods.length:=by omega
   rw [a2i hn hk] at hs
   have:=hs0.prod _ (List.getElem_mem hk)
   unfold pdB at this;simp only [Bool.and_eq_true,decide_eq_true_eq,List.all_eq_true] at this;exact this.2 s hs
def byS (g:Gm) (n:Nat) (l:List It):List (List It):=(List.range n).map fun (s:Nat)=>if s=0 then [] else mv0 g l (s:Int)
theorem a2c (g:Gm) (n:Nat) (l:List It):(byS g n l).length=n:=by unfold byS;rw [List.length_map,List.length_range]
theorem a8d {g:Gm} {n:Nat} {l:List It} {s:Nat} (h:s<(byS g n l).length):(byS g n l)[s]=if s=0 then [] else mv0 g l (s:Int):=by
 simp only [byS,List.getElem_map,List.getElem_range]
theorem c0y (g:Gm) (n:Nat):byS g n []=List.replicate n []:=by
 apply List.ext_getElem
 · rw [a2c,List.length_replicate]
 · intro i h1 h2
   rw [a8d,List.getElem_replicate];split
   · rfl
   · rfl
theorem b7t {g:Gm} {n:Nat} {l:List It} {k:Nat} (h:k<l.length) (hn:a0k g l[k]=0):byS g n (l.take (k+1))=byS g n (l.take k):=by
 unfold byS;refine List.map_congr_left fun s _=>?_
 by_cases e:s=0
 · rw [if_pos e,if_pos e]
 · rw [if_neg e,if_neg e,a6j h,if_neg (by rw [hn];omega)]
theorem b7s {g:Gm} {n:Nat} {l:List It} {k s:Nat} (h:k<l.length) (_hs:s<n) (h0:0<s) (hn:a0k g l[k]=(s:Int)) :
 byS g n (l.take (k+1))=(byS g n (l.take k)).set s (mv0 g (l.take k) (s:Int)++[(l[k].1,l[k].2+1)]):=by
 apply List.ext_getElem
 · rw [List.length_set,a2c,a2c]
 · intro i h1 h2
   rw [List.getElem_set,a8d,a8d];by_cases e:s=i
   · subst e
     rw [if_neg (by omega),if_pos rfl,a6j h,if_pos hn]
   · rw [if_neg e]
     by_cases e0:i=0
     · rw [if_pos e0,if_pos e0]
     · rw [if_neg e0,if_neg e0,a6j h,if_neg (by rw [hn];omega)]
theorem Kept.more {F:Nat→Prop} {w u v:World} (h:Kept F w u) (hb:Below u.heap.size u v):Kept F w v:=h.step (Kept.of_below hb (F:=a7z)) (fun _ _ e=>False.elim e)
structure ToV (B tb:Nat) (w:World) (ts:List Value) (G:List (List It)):Prop where
 blk:w.heap[tb]?=some (.cells ts.toArray 40 (0,0))
 len:ts.length=G.length
 own:∀ s (h:s<ts.length) (h':s<G.length),OwnIt w B ts[s] G[s]
 dis:∀ s t (h:s<ts.length) (h':t<ts.length),s≠t→∀ k,ts[s].ownBlock=some k→ts[t].ownBlock≠some k
 tb:tb<B
 base:B≤w.heap.size
section
variable {B tb:Nat} {w:World} {ts:List Value} {G:List (List It)}
theorem ToV.keep (h:ToV B tb w ts G) {u:World} (hu:Below w.heap.size w u):ToV B tb u ts G:=
 ⟨g_ h.blk hu,h.len,fun s h1 h2=>j_ (h.own s h1 h2) hu,h.dis,h.tb,Nat.le_trans h.base hu.size⟩
set_option maxRecDepth 20000 in
theorem ToV.add (h:ToV B tb w ts G) {s:Nat} (hs:s<ts.length) (hs':s<G.length) (p d:Int) (hl:G[s].length≤100000) :
 ∃ v' u',(Builtin.append_ #[40,40] 40 #[ts[s],.slice (some ⟨w.heap.size,0,none⟩) 1 1]).run Tryz.prog (w.alloc (.cells #[.int .i64 p,.int .i64 d] 49))=.ok v' u' ∧
  (∃ g c,v'=.slice (some ⟨g,0,none⟩) (G[s].length+1) c)∧(u'.cell? ⟨tb,s,none⟩=some ts[s]∧u'.frozen? ⟨tb,s,none⟩=false) ∧
  ToV B tb (u'.setCell ⟨tb,s,none⟩ v') (ts.set s v') (G.set s (G[s]++[(p,d)]))∧∀ w0,Kept (f_ tb) w0 w→w0.heap.size≤B→Kept (f_ tb) w0 (u'.setCell ⟨tb,s,none⟩ v'):=by
 obtain ⟨i0,hi,hz0,hz1,hz2⟩:=info_parts b0j;have hal:=al' w (.cells #[.int .i64 p,.int .i64 d] 49);have hk:=h.keep hal;obtain ⟨z0,z1⟩:=w_ (b_ w (.cells #[.int .i64 p,.int .i64 d] 49));have hown:=hk.own s hs hs';have hsz:=hal.size
 obtain ⟨v',u',hap,hO,hgr,-,hloc⟩:=run_append_own_at (P:=Tryz.prog) (w.alloc (.cells #[.int .i64 p,.int .i64 d] 49)) B 40 40 49 i0 (.agg #[.int .i64 0,.int .i64 0]) 2 16 Tryz.underlying40 hi hz0 hz1 hz2 rfl (by decide) _ _ _ hown ⟨w.heap.size,0,none⟩ 1 1 (z_ [(p,d)]) rfl (fun j y hy=>by
  have hj:j<2:=(List.getElem?_eq_some_iff.1 hy).1;rcases (by omega:j=0∨j=1) with rfl | rfl
  · have hy:some (Value.int .i64 p)=some y:=hy
    injection hy with hy;subst hy;exact z0
  · have hy:some (Value.int .i64 d)=some y:=hy
    injection hy with hy;subst hy;exact z1) (a2a _) (by unfold maxLen;omega) (by omega) hk.base
 have hO':OwnIt u' B v' (G[s]++[(p,d)]):=by
  unfold OwnIt;rw [a1e,List.length_append];exact hO
 have hv:∃ g c,v'=.slice (some ⟨g,0,none⟩) (G[s].length+1) c:=by
  rcases hO.2 with ⟨rfl,h0⟩ | ⟨g,cap,cur,rfl,_⟩
  · omega
  · exact ⟨g,cap,rfl⟩
 have htb:=h.tb
 have hnt:∀ t (h9:t<ts.length) (h8:t<G.length) k,ts[t].ownBlock=some k→k≠tb:=fun t h9 h8 k e=>by
  have:=(World.ownsRow.lt (h.own t h9 h8) k e).1
  omega
 have hlen:=h.len;have k3:=Kept.of_grown hgr;have hb2:=k3.blk (g_ h.blk hal) (fun e=>hnt s hs hs' tb e rfl)
 have hoth:∀ k,k<w.heap.size→k≠tb→ts[s].ownBlock≠some k→(u'.setCell ⟨tb,s,none⟩ v').heap[k]?=w.heap[k]?:=fun k h1 h2 h3=>by
  rw [Below.heap_setCell u' ⟨tb,s,none⟩ v' k h2,k3.block k (by omega) h3,hal.block k h1]
 have hOs:OwnIt (u'.setCell ⟨tb,s,none⟩ v') B v' (G[s]++[(p,d)]):=a0z hO' (fun e=>by
  have:=(World.ownsRow.lt hO' tb e).1
  omega)
 have hfr:∀ t (h9:t<ts.length) (h8:t<G.length),t≠s→∀ k,v'.ownBlock=some k→ts[t].ownBlock≠some k:=fun t h9 h8 hne k e1 e2=>by
  rcases hloc with e | e
  · rw [e] at e1
    exact h.dis s t hs h9 (fun e=>hne e.symm) k e1 e2
  · rw [e] at e1
    injection e1 with e1
    have:=(World.ownsRow.lt (h.own t h9 h8) k e2).2
    omega
 refine ⟨v',u',hap,hv,⟨c_ hb2 (by simp),i_ hb2 s⟩,⟨?_,by rw [List.length_set,List.length_set];exact hlen,fun t h1 h2=>?_,fun t t' h1 h2 hne k e1 e2=>?_,htb,?_⟩,fun w0 h1 h2=>?_⟩
 · have h9:=heap_setCell (o:=s) (v:=v') hb2
   rw [List.setIfInBounds_toArray] at h9;exact h9
 · have h1':t<ts.length:=by simpa using h1
   have h2':t<G.length:=by simpa using h2
   by_cases e:s=t
   · subst e
     simp only [List.getElem_set_self];exact hOs
   · rw [List.getElem_set_ne e,List.getElem_set_ne e]
     exact y_ (h.own t h1' h2') fun k hk9=>hoth k (World.ownsRow.lt (h.own t h1' h2') k hk9).2 (hnt t h1' h2' k hk9) (fun e9=>h.dis s t hs h1' e k e9 hk9)
 · have h1':t<ts.length:=by simpa using h1
   have h2':t'<ts.length:=by simpa using h2
   by_cases e:s=t
   · subst e
     rw [List.getElem_set_self] at e1;rw [List.getElem_set_ne hne] at e2;exact hfr t' h2' (by omega) (fun e=>hne e.symm) k e1 e2
   · rw [List.getElem_set_ne e] at e1
     by_cases e':s=t'
     · subst e'
       rw [List.getElem_set_self] at e2;exact hfr t h1' (by omega) hne k e2 e1
     · rw [List.getElem_set_ne e'] at e2
       exact h.dis t t' h1' h2' hne k e1 e2
 · have h9:(u'.setCell ⟨tb,s,none⟩ v').heap.size=u'.heap.size:=World.size_setCell ..
   have:=hgr.size
   have:=h.base
   omega
 · have k4:Kept (fun k=>ts[s].ownBlock=some k) w u':=(Kept.of_below hal).step k3 (fun k _ e=>e)
   refine Kept.setCell (h1.step k4 (fun k hk e=>?_)) (fun _=>rfl)
   have:=(World.ownsRow.lt (h.own s hs hs') k e).1
   omega
end
set_option maxRecDepth 20000 in
theorem Tryz.infoIs:(Tryz.prog.info? 40).map (fun i=>(i.zero,i.size,i.bytes))=some (some (.slice none 0 0),1,24):=by kernel_rfl
set_option maxRecDepth 20000 in
theorem b1r (n:Nat) (w:World) (hn:n≤1000000):(Instr.makeSlice 114 (.int .i64 (n:Int)) (.int .i64 (n:Int))).run Tryz.prog w=.ok (.slice (some ⟨w.heap.size,0,none⟩) n n) (w.alloc (.cells (List.replicate n (.slice none 0 0)).toArray 40)):=by
 obtain ⟨i0,hi,hz0,hz1,hz2⟩:=info_parts Tryz.infoIs;have hr:=run_make (P:=Tryz.prog) w 114 40 i0 (.slice none 0 0) Tryz.underlying114 hi hz0 .i64 .i64 (n:Int) (n:Int) (by omega) (by omega) (by rw [hz2];omega) (by omega);rw [hz1,Int.toNat_natCast,Nat.mul_one] at hr
 have e:madeCells (Value.slice none 0 0).cells n=(List.replicate n (Value.slice none 0 0)).toArray:=by
  apply Array.toList_inj.1
  exact toList_madeCells_one _ _
 rw [e] at hr;exact hr
def c5f (g:Gm) (n:Nat) (x:Kr) (w:World) (e:Ending) (w':World):Prop:=∃ (tb:Nat) (ts:List Value),e=.returned (.slice (some ⟨tb,0,none⟩) n n)∧ts.length=n∧w'.heap[tb]?=some (.cells ts.toArray 40 (0,0)) ∧
 (∀ s (h:s<ts.length),Its w' ts[s] (I_ g x (s:Int))∧ts[s].oneCell'=true∧∀ k,ts[s].ownBlock=some k→w.heap.size≤k∧k<w'.heap.size)∧w.heap.size≤tb∧Below w.heap.size w w'
theorem ToV.start {w4:World} {tb n:Nat} {g:Gm} (h:w4.heap[tb]?=some (.cells (List.replicate n (.slice none 0 0)).toArray 40 (0,0))):ToV w4.heap.size tb w4 (List.replicate n (.slice none 0 0)) (byS g n []) where
 blk:=h
 len:=by rw [List.length_replicate,a2c]
 own s h1 h2:=by
  simp only [c0y,List.getElem_replicate];exact OwnIt.nil0 w4 w4.heap.size
 dis s t h1 h2 _ k e:=by
  rw [List.getElem_replicate] at e;cases e
 tb:=u_ h
 base:=Nat.le_refl _
theorem b2X {w:World} {B size n:Nat} {e:TypeId} {v:Value} {xs:List Value} (h:w.ownsRow B e size v n xs):v.oneCell'=true:=by
 rcases h.2 with ⟨rfl,h0⟩ | ⟨g,cap,cur,rfl,_⟩
 · rfl
 · rfl
set_option maxRecDepth 100000 in
set_option maxHeartbeats 32000000 in
theorem c2h (g:Gm) (rv nv lv pv sv tv kv:Value) (bb mm n:Nat) (x:Kr) (w:World) (hf:Fits12 g) (hr:RgtI g x) (hV:GmV w rv nv lv pv g) (hb:w.heap[bb]?=some (.cells #[rv,nv,lv,pv,.int .i64 g.start,sv,.int .i64 (n:Int),tv,.map (some mm)] 72 (0,0)))
 (hS:Sds w sv (a4Z g)) (hn:n=g.all+1) (hn1:n≤1000) (hI:Its w kv x) (hl:x.length≤1000) :
 Calls Tryz.prog 49 #[.pointer (some ⟨bb,0,none⟩),kv] w (c5f g n x w):=by
 have hmk:=b1r n w (by omega);obtain ⟨W,hW⟩:∃ z,w.alloc (.cells (List.replicate n (.slice none 0 0)).toArray 40)=z:=⟨_,rfl⟩;have hB1:Below w.heap.size w W:=by rw [← hW];exact al' w _
 have htb:W.heap[w.heap.size]?=some (.cells (List.replicate n (.slice none 0 0)).toArray 40 (0,0)):=by rw [← hW];exact b_ w _
 have hWs:W.heap.size=w.heap.size+1:=by rw [← hW];exact World.size_alloc ..
 rw [hW] at hmk;have GC:=hid (b1G g rv nv lv pv kv x W hf hr (hV.keep hB1) (hI.keep hB1) hl);have hbbl:=u_ hb;have hcb:=hid (fun u (hu:Below w.heap.size w u)=>(⟨c_ (g_ hb hu) rfl,c_ (g_ hb hu) rfl,c_ (g_ hb hu) rfl,c_ (g_ hb hu) rfl,c_ (g_ hb hu) rfl,c_ (g_ hb hu) rfl,c_ (g_ hb hu) rfl⟩:u.cell? ⟨bb,0,none⟩=some rv∧u.cell? ⟨bb,1,none⟩=some nv∧u.cell? ⟨bb,2,none⟩=some lv∧u.cell? ⟨bb,3,none⟩=some pv∧u.cell? ⟨bb,4,none⟩=some (.int .i64 g.start)∧u.cell? ⟨bb,5,none⟩=some sv∧u.cell? ⟨bb,6,none⟩=some (.int .i64 (n:Int))));have hln:(a3q g x).length≤369:=b0C hr.us.snd x;have hit:=hid (fun y (hy:y∈a3q g x)=>a0f hr.all ((a1h hr.all).1 hy));have hsd:=hid (fun p (hp:p<(g.prods.length:Int))=>a0X hr.us.snd hp);have hsy:=hid (fun p (hp:p<(g.prods.length:Int))=>b5C hr.us hp);have hfin:=hid (fun s=>(fun hs=>b9C hr hs:(s:Int)≠0→mv0 g (a3q g x) s=I_ g x s));have hS:=hid hS;have hB1:=hid hB1;have hpl:g.prods.length≤60:=hf.prods;obtain ⟨sa,sc,rfl⟩:=hS.out.shape;have hsl:(a4Z g).length=g.prods.length+1:=a9B g;rw [hsl] at hcb;have hS:Hid (Sds w (.slice sa (g.prods.length+1) sc) (a4Z g)):=hid (by have h:=hS.out;rw [hsl] at h;exact h);obtain ⟨y0,y1,y2,y3,y4,y5,y6⟩:=hcb.out w (Below.refl _ w);obtain ⟨Y0,Y1,Y2,Y3,Y4,Y5,Y6⟩:=hcb.out W hB1.out;clear hV hI hb hl hr hf;have hnH:=hid hn;have hall:Hid (g.all=n - 1):=hid (by omega);clear hn;generalize hst:g.start=st at *
 generalize a3q g x=LC at *;obtain ⟨ln,hl9⟩:∃ n,Hid (LC.length=n):=⟨_,hid rfl⟩;rw [hl9.out] at hln;obtain ⟨pl,hpl9⟩:∃ q,Hid (g.prods.length=q):=⟨_,hid rfl⟩;rw [hpl9.out] at hpl hsl hcb hsd hsy hS;go_enter Tryz.func49,Tryz.ntmps49
 go_wp2_with (go_at_call 73;refine GC.out.mono ?_;clear GC;rintro e w4 ⟨v4,rfl,hO4,hc4⟩;obtain ⟨ca,cc,rfl⟩:=(Its.of_row hO4).shape;have hO4:=hid hO4)
 obtain ⟨tb,htb9⟩:∃ q,w.heap.size=q:=⟨_,rfl⟩;have htl4:=g_ htb hc4;have hT0:=hid (ToV.start (g:=g) htl4);rw [htb9] at hT0;have hk0:=hid (Kept.refl (f_ w.heap.size) w4);rw [htb9] at hk0;have hW4:=hid (a_ hB1.out hc4);have hB4:tb<w4.heap.size:=by have:=hc4.size;omega
 rw [htb9];rw [hl9.out] at hO4
 try rw [hl9.out]
 have hO4w:Hid (∀ u,Kept (f_ tb) w4 u→Its u (.slice ca ln cc) LC):=hid (fun u hk=>Its.of_row (a0Y hO4.out hk (fun j e (e2:j=tb)=>by
  have:=(World.ownsRow.lt hO4.out j e).1
  omega)))
 clear hO4 hWs;clear hmk hW htb htl4 y0 y1 y2 y3 y4 y5 y6 Y0 Y1 Y2 Y3 Y4 Y5 Y6;go_loopw [22] (fun i u=>∃ (k:Nat) (ts:List Value),k≤ln∧i=.int .i64 (k:Int)∧Hid (ToV w4.heap.size tb u ts (byS g n (LC.take k)))∧Hid (Kept (f_ tb) w4 u)) (fun i _=>ln - (intOf i).toNat)
 case atStart=>exact ⟨0,_,Nat.zero_le _,rfl,hT0,hk0⟩
 case round =>
  clear hT0 hk0;obtain ⟨k,ts,hk,rfl,hT,hkb⟩:=hrel;have hbw:Hid (Below w.heap.size w wr):=hid (hW4.out.trans (hkb.out.below (fun j (e:j=tb)=>by omega) (hW4.out.size)));have hlen:ts.length=n:=by rw [hT.out.len,a2c]
  by_cases hlt:k<ln
  · have hltz:(k:Int)<(ln:Int):=by omega
    have hkl:k<LC.length:=by rw [hl9.out];exact hlt
    obtain ⟨b1,o1,e,-,z0,z1⟩:=Lst.at (hO4w.out wr hkb.out) hkl;subst e;have hx:=hit.out _ (List.getElem_mem hkl);obtain ⟨i1,i2,i3,i4⟩:=T_.1 hx;rw [hpl9.out] at i2;have i5:=hsd.out _ i2;have hsyk:=hsy.out _ i2;obtain ⟨kk,hkk⟩:∃ kk:Nat,LC[k].1=(kk:Int) - 1:=⟨(LC[k].1+1).toNat,by omega⟩;obtain ⟨d,hd⟩:∃ d:Nat,LC[k].2=(d:Int):=⟨LC[k].2.toNat,by omega⟩;have hkp:kk<(a4Z g).length:=by omega
    have hkp1:(kk:Int)<((pl+1:Nat):Int):=by omega
    obtain ⟨b2,o2,e,-,sdv,s0,sN⟩:=Lst.at (Sds.keep hS.out hbw.out) hkp;subst e;rw [Nat.mul_one] at s0;rw [b2v,← hkk] at sN;obtain ⟨sda,sdc,rfl,-,-,hsda⟩:=sN;have hal:=al' wr (.cells #[.int .i64 LC[k].1,.int .i64 (d:Int)] 49);obtain ⟨q0,q1⟩:=w_ (b_ wr (.cells #[.int .i64 LC[k].1,.int .i64 (d:Int)] 49));obtain ⟨U,hU⟩:∃ z,wr.alloc (.cells #[.int .i64 LC[k].1,.int .i64 (d:Int)] 49)=z:=⟨_,rfl⟩;rw [hU] at hal q0 q1;obtain ⟨y0,y1,y2,y3,y4,y5,y6⟩:=hcb.out U (a_ hbw.out hal);have s1:=d_ hal s0;rw [hd] at z1 i3 i4;have hwr:IntKind.i64.wrap (LC[k].1 - -1)=(kk:Int):=by rw [IntKind.wrap_i64];omega
    have hwr2:IntKind.i64.wrap (LC[k].1+1)=(kk:Int):=by rw [IntKind.wrap_i64];omega
    by_cases hdl:d<(a0e g LC[k].1).length
    · have hdlz:(d:Int)<((a0e g LC[k].1).length:Int):=by omega
      have hnx:a0k g LC[k]=(a0e g LC[k].1)[d]:=by
       have h9:LC[k].2.toNat<(a0e g LC[k].1).length:=by rw [hd,Int.toNat_natCast];exact hdl
       rw [a8I h9];congr 1
       rw [hd,Int.toNat_natCast]
      obtain ⟨sq1,sq2⟩:=hsyk _ (List.getElem_mem hdl);obtain ⟨sy,hsyq⟩:∃ sy:Nat,(a0e g LC[k].1)[d]=(sy:Int):=⟨(a0e g LC[k].1)[d].toNat,by omega⟩;rw [hsyq] at hnx sq1 sq2;have hsn:sy<n:=by have:=hall.out;omega
      obtain ⟨b3,o3,e,-,t0⟩:=hsda d hdl;subst e;rw [hsyq] at t0;have t1:=d_ hal t0;have hby:=hid (b7s (g:=g) hkl hsn (by omega) hnx);have hst:sy<ts.length:=by omega
      have hsb:sy<(byS g n (LC.take k)).length:=by rw [a2c];exact hsn
      have hTU:=hT.out.keep hal;have hml:(byS g n (LC.take k))[sy]=mv0 g (LC.take k) (sy:Int):=by rw [a8d,if_neg (by omega)]
      have hmln:(mv0 g (LC.take k) (sy:Int)).length≤369:=Nat.le_trans (b9B _ _ _) (by rw [List.length_take];omega);have hty:=hTU.own sy hst hsb;obtain ⟨ta,tc,hte⟩:=p_ hty;have htc:U.cell? ⟨tb,sy,none⟩=some ts[sy]:=c_ hTU.blk (by rw [List.getElem?_toArray];exact List.getElem?_eq_getElem hst);rw [hd] at hby
      have hadd:=hid (fun (m:Nat)=>by
       have hTd:=hTU.keep (show Below U.heap.size U (U.drewN m) from q_ (Below.refl _ U));obtain ⟨v',u',hrun,⟨g9,c9,hv9⟩,⟨c0,f0⟩,hT9,hk9⟩:=hTd.add hst hsb LC[k].1 ((d:Int)+1) (by rw [hml];omega);subst hv9;rw [hte,hml] at hrun c0;rw [hml] at hT9 hk9;rw [← hby.out] at hT9;have hcA:=d_ (al' (U.drewN m) (.cells #[.int .i64 LC[k].1,.int .i64 ((d:Int)+1)] 49)) (show (U.drewN m).cell? ⟨tb,sy,none⟩=some ts[sy] from htc);rw [hte,hml] at hcA
       exact (⟨g9,c9,u',hrun,hcA,⟨c0,f0⟩,_,hT9,hk9 w4 ((hkb.out.more hal).more (q_ (Below.refl _ U))) (Nat.le_refl _)⟩:∃ g9 c9 u',(Builtin.append_ #[40,40] 40 #[.slice ta (mv0 g (LC.take k) (sy:Int)).length tc,.slice (some ⟨U.heap.size,0,none⟩) 1 1]).run Tryz.prog ((U.drewN m).alloc (.cells #[.int .i64 LC[k].1,.int .i64 ((d:Int)+1)] 49))=.ok (.slice (some ⟨g9,0,none⟩) ((mv0 g (LC.take k) (sy:Int)).length+1) c9) u' ∧
        ((U.drewN m).alloc (.cells #[.int .i64 LC[k].1,.int .i64 ((d:Int)+1)] 49)).cell? ⟨tb,sy,none⟩=some (.slice ta (mv0 g (LC.take k) (sy:Int)).length tc)∧(u'.cell? ⟨tb,sy,none⟩=some (.slice ta (mv0 g (LC.take k) (sy:Int)).length tc)∧u'.frozen? ⟨tb,sy,none⟩=false)∧∃ ts',ToV w4.heap.size tb (u'.setCell ⟨tb,sy,none⟩ (.slice (some ⟨g9,0,none⟩) ((mv0 g (LC.take k) (sy:Int)).length+1) c9)) ts' (byS g n (LC.take (k+1)))∧Kept (f_ tb) w4 (u'.setCell ⟨tb,sy,none⟩ (.slice (some ⟨g9,0,none⟩) ((mv0 g (LC.take k) (sy:Int)).length+1) c9))))
      rw [hte,hml] at htc;have hsyz:(sy:Int)<(n:Int):=by omega
      have hsyz0:(0:Int)≤(sy:Int):=by omega
      have hwd:IntKind.i64.wrap ((d:Int)+1)=(d:Int)+1:=by rw [IntKind.wrap_i64];omega
      clear i1 i2 i3 i4 i5 hsyk hsda hdl hx hT hkb hkk hd hkp hTU hte hml hmln hty hst hsb hnx hsyq sq1 sq2;generalize (a0e g LC[k].1).length=sl at *;generalize (mv0 g (LC.take k) (sy:Int)).length=ml at *;generalize hp:LC[k].1=p at *;clear hp;go_wp2_with fail
      go_quiet (fail)
      go_wp2_with fail
      obtain ⟨g9,c9,u',hrun,hcA,⟨c0,f0⟩,ts',hT9,hk9⟩:=hadd.out (nq+1);have hT9:=hid hT9;have hk9:=hid hk9;go_region_law ((refine M_ (by rfl) (.tmp 50) (.tmp 57) 40 (by rfl) _ _ (by rfl) (by rfl) hrun ?_))
      all_goals
       go_wp2;go_roundw
       case rel=>exact ⟨k+1,_,by omega,by go_num,hT9,hk9⟩
       case measure=>simp [intOf];omega
    · have hdlz:¬ (d:Int)<((a0e g LC[k].1).length:Int):=by omega
      have hby:=hid (b7t (g:=g) (n:=n) hkl (by
       rw [a6g];rw [hd,Int.toNat_natCast];exact hdl))
      have hT9:=hid (hT.out.keep hal);have hk9:=hid (hkb.out.more hal);clear i1 i2 i3 i4 i5 hsyk hsda hdl hx hT hkb hkk hd hkp;generalize (a0e g LC[k].1).length=sl at *;generalize hp:LC[k].1=p at *;clear hp;go_wp2_with fail
      go_quiet (fail)
      go_wp2;go_roundw
      case rel=>exact ⟨k+1,ts,by omega,by go_num,by rw [hby.out];exact hid (by first | exact hT9.out | exact hT9.out.keep (Below.refl _ _).drew | exact hT9.out.keep (q_ (Below.refl _ _))),hid (by first | exact hk9.out | exact hk9.out.more (Below.refl _ _).drew | exact hk9.out.more (q_ (Below.refl _ _)))⟩
      case measure=>simp [intOf];omega
  · have hltz:¬ (k:Int)<(ln:Int):=by omega
    obtain rfl:k=ln:=by omega
    have hfinal:Hid (∀ s (h:s<ts.length),Its wr ts[s] (I_ g x (s:Int))∧ts[s].oneCell'=true∧∀ k,ts[s].ownBlock=some k→tb≤k∧k<wr.heap.size):=hid (fun s h=>by
     have hs':s<(byS g n (LC.take k)).length:=by rw [a2c,← hlen];exact h
     have ho:=hT.out.own s h hs'
     have e:(byS g n (LC.take k))[s]=I_ g x (s:Int):=by
      rw [a8d,← hl9.out,List.take_length];by_cases e0:s=0
      · subst e0
        rw [if_pos rfl];exact (a7P g x).symm
      · rw [if_neg e0]
        exact hfin.out _ (by omega)
     rw [e] at ho;exact ⟨Its.of_row ho,b2X ho,fun j hj=>⟨by have:=(World.ownsRow.lt ho j hj).1;omega,(World.ownsRow.lt ho j hj).2⟩⟩)
    have hblk:=hid hT.out.blk;clear hT;go_wp2;go_ret;exact ⟨tb,ts,rfl,hlen,hblk.out,by rw [htb9];exact hfinal.out,by omega,hbw.out⟩
def Stb (F:Nat→Prop) (w:World) (P:World→Prop):Prop:=∀ u,Kept F w u→P u
theorem Stb.move {F F':Nat→Prop} {w w':World} {P:World→Prop} (h:Stb F w P) (m:Mvd F F' w w'):Stb F' w' P:=
 fun u hu=>h u (m.kept.step hu fun k hk hf=>(m.new k hf).resolve_right (by omega))
theorem Stb.now {F:Nat→Prop} {w:World} {P:World→Prop} (h:Stb F w P):P w:=h w (Kept.refl _ _)
structure Amb (g:Gm) (rv nv lv pv sv:Value) (w0 u:World):Prop where
 gm:GmV u rv nv lv pv g
 sd:Sds u sv (a4Z g)
 tab:Tab u
 low:Below w0.heap.size w0 u
section
variable {B bb mm n:Nat} {rv nv lv pv:Value} {st:Int} {sv:Value} {F:Nat→Prop} {w:World} {tv:Value} {vs:List (Value×Nat)} {L:List St}
theorem BdO.at (h:BdO B bb mm n rv nv lv pv st sv F w tv vs L) {i:Nat} (_hi:i<L.length) (hi':i<vs.length):∃ g cap,tv=.slice (some ⟨g,0,none⟩) L.length cap∧w.cell? ⟨g,i * 2,none⟩=some vs[i].1∧w.cell? ⟨g,i * 2+1,none⟩=some (.slice (some ⟨vs[i].2,0,none⟩) n n):=by
 have hr:=h.row;rcases hr.2 with ⟨rfl,h0⟩ | ⟨g,cap,cur,rfl,_,_,hc,_⟩
 · omega
 · have hcells:=hr.cells (g:=g) rfl
   obtain ⟨h1,h2⟩:=a0E (bdC n vs) i (by rw [b4X];exact hi');have e1:=hcells _ _ h1;have e2:=hcells _ _ h2;rw [Go.WideShapes.add_plain,Nat.zero_add] at e1 e2;refine ⟨g,cap,by rw [h.len],?_,?_⟩
   · simp only [bdC,List.getElem_map] at e1
     exact e1
   · simp only [bdC,List.getElem_map] at e2
     exact e2
theorem BdO.nextCell (h:BdO B bb mm n rv nv lv pv st sv F w tv vs L) {i s:Nat} (hi:i<L.length) (hi':i<vs.length) (hs:s<n):(∃ z,w.cell? ⟨vs[i].2,s,none⟩=some (.int .i64 z))∧w.frozen? ⟨vs[i].2,s,none⟩=false:=by
 obtain ⟨h5,h6⟩:=h.nxt i hi hi';exact ⟨⟨_,c_ h5 (by rw [List.getElem?_toArray];exact a1a (by rw [h6];exact hs))⟩,i_ h5 s⟩
end
theorem b4b {g:Gm} (hs:SndG g) {l:Kr} (h:∀ y∈l,itB g y=true):c3l l:=fun y hy=>by
 obtain ⟨h1,h2,h3,h4⟩:=T_.1 (h y hy)
 have:=a0X hs h2
 have:=hs.prods
 omega
theorem b3K {B bb mm n:Nat} {rv nv lv pv:Value} {st:Int} {sv:Value} {F:Nat→Prop} {w:World} {tv:Value} {vs:List (Value×Nat)} {g:Gm} {i t pn:Nat} {x:Kr}
 (h:BdO B bb mm n rv nv lv pv st sv F w tv vs (b5o n (lvY g i t) x)) (hx:I_ g ((m_ g i)[i]?.getD []) ((t+1:Nat):Int)=x) (hne:x≠[]) (hi:i<(m_ g i).length) (hn:n=g.all+1) (ht:t+1<n) (hp:vs[i]?.map Prod.snd=some pn) :
 (∃ z,w.cell? ⟨pn,t+1,none⟩=some (.int .i64 z))∧w.frozen? ⟨pn,t+1,none⟩=false∧BdO B bb mm n rv nv lv pv st sv F (w.setCell ⟨pn,t+1,none⟩ (.int .i64 ((b1R ((lvY g i t).map Prod.fst) x).idxOf x:Int))) tv vs (lvY g i (t+1))∧Mvd F F w (w.setCell ⟨pn,t+1,none⟩ (.int .i64 ((b1R ((lvY g i t).map Prod.fst) x).idxOf x:Int))):=by
 rw [List.getElem?_eq_getElem hi,Option.getD_some] at hx;have hpre:=b7D n (lvY g i t) x
 have hl1:i<(lvY g i t).length:=by
  rw [a8P hi]
  have:=(a0B g (m_ g i) (m_ g i)[i] t).length_le
  omega
 have hl2:i<(b5o n (lvY g i t) x).length:=by have:=hpre.length_le;omega
 have hlv:i<vs.length:=by rw [h.len];exact hl2
 rw [List.getElem?_eq_getElem hlv] at hp;have hp:vs[i].2=pn:=by injection hp
 have hrow:(b5o n (lvY g i t) x)[i]=((m_ g i)[i],a7T g (m_ g i) (m_ g i)[i] t):=by
  rw [← hpre.getElem hl1];exact b9G hi t
 obtain ⟨h1,h2⟩:=h.nextCell hl2 hlv ht;obtain ⟨h3,h4⟩:=h.put hl2 hlv (t+1) ((b1R ((lvY g i t).map Prod.fst) x).idxOf x:Int);rw [hp] at h1 h2 h3 h4;rw [hrow] at h3;subst hn;rw [← b6y hi hx hne] at h3;exact ⟨h1,h2,h3,h4⟩
set_option maxRecDepth 100000 in
set_option maxHeartbeats 32000000 in
theorem c1S {B bb mm n:Nat} {rv nv lv pv sv:Value} {F:Nat→Prop} {w0 w:World} {tv:Value} {vs:List (Value×Nat)} {g:Gm} {i:Nat}
 (h:BdO B bb mm n rv nv lv pv g.start sv F w tv vs (a3h g (m_ g i) i (m_ g i))) (hP:Stb F w (Amb g rv nv lv pv sv w0)) (hu:UsG g) (hf:Fits12 g) (hn:n=g.all+1) (hi:i<(m_ g i).length) (hi2:(m_ g i).length≤240) :
 Calls Tryz.prog 26 #[.pointer (some ⟨bb,0,none⟩),.int .i64 (i:Int)] w fun e w'=>e=.returned (.tuple #[])∧∃ F' tv' vs',BdO B bb mm n rv nv lv pv g.start sv F' w' tv' vs' (a3h g (m_ g (i+1)) (i+1) (m_ g (i+1)))∧Mvd F F' w w':=by
 have hal:g.all≤32:=by
  have h1:=hu.snd.rules;have h2:=hu.snd.nonts;have h3:g.terms≤g.rules.length:=a0d g.rules g.rules.length;unfold Gm.all;omega
 have hiL:i<(a3h g (m_ g i) i (m_ g i)).length:=by rw [F_];exact hi
 have hiv:i<vs.length:=by rw [h.len];exact hiL
 obtain ⟨gb,cap,rfl,c1,c2⟩:=h.at hiL hiv;have hker:=h.ker i hiL hiv;have hxe:(a3h g (m_ g i) i (m_ g i))[i].1=(m_ g i)[i]:=by rw [a2Q hi]
 rw [hxe] at hker;obtain ⟨ka,kc,hke⟩:=hker.shape;have hrt:=(KrI.build hu.snd i).right _ (List.getElem_mem hi);have hfw:=(KrI.build hu.snd i).few _ (List.getElem_mem hi);have GG:=hid (c2h g rv nv lv pv sv (.slice (some ⟨gb,0,none⟩) (a3h g (m_ g i) i (m_ g i)).length cap) vs[i].1 bb mm n (m_ g i)[i] w hf ⟨hu,hrt⟩ hP.now.gm h.blk hP.now.sd hn (by omega) hker (by omega));rw [hke] at c1 GG;obtain ⟨x5,x6,x7,x8,f7⟩:=a0O h.blk;rw [F_] at x7;have h0:=hid (show BdO B bb mm n rv nv lv pv g.start sv F w _ vs (lvY g i 0) by rw [b6x hi];exact h);obtain ⟨pn,hpn⟩:∃ q,vs[i].2=q:=⟨_,rfl⟩;rw [hpn] at c2;have hFl:=hid (fun k hk=>(h.lt k hk).1);have hiz:(i:Int)<((m_ g i).length:Int):=by omega
 clear h;obtain ⟨kl,hkl⟩:∃ q,Hid ((m_ g i).length=q):=⟨_,hid rfl⟩;obtain ⟨xl,hxl⟩:∃ q,Hid ((m_ g i)[i].length=q):=⟨_,hid rfl⟩;rw [hkl.out] at x7 hiz hi2;rw [hxl.out] at c1 GG;rw [F_,hkl.out] at h0;go_enter Tryz.func26,Tryz.ntmps26
 go_wp2_with (go_at_call 49;refine GG.out.mono ?_;clear GG;rintro e w1 ⟨tb,ts,rfl,hlen,htb,hts,hge,hb1⟩)
 have hF1:Hid (∀ k,F k→k<w.heap.size):=hFl
 have hS1:Hid (Stb F w1 (fun u=>u.heap[tb]?=some (.cells ts.toArray 40 (0,0))∧∀ s (h:s<ts.length),Its u ts[s] (I_ g (m_ g i)[i] (s:Int)))):=hid (fun u hk=>⟨hk.blk htb (fun e=>by have:=hFl.out _ e;omega),fun s h=>(hts s h).1.stepB hk.size fun k e hl=>hk.block k hl fun e2=>by
  have h8:=((hts s h).2.2 k e).1;have h9:=hFl.out _ e2;omega⟩)
 have hone:Hid (∀ s (h:s<ts.length),ts[s].oneCell'=true∧∀ k,ts[s].ownBlock=some k→w.heap.size≤k∧k<w1.heap.size):=hid (fun s h=>(hts s h).2);have hP1:Hid (Stb F w1 (Amb g rv nv lv pv sv w0)):=hid (hP.move (Mvd.of_below hb1));have h1:=hid (h0.out.keep hb1);have hm1:=hid (Mvd.of_below (F:=F) (Below.refl w1.heap.size w1));have hb1:=hid hb1;clear htb hts hge hP h0 x5 x6 x7 x8 f7 c1 c2 hker hke;go_loopw [26] (fun c u=>∃ (s:Nat) (F':Nat→Prop) (tv':Value) (vs':List (Value×Nat)),s≤n∧c=.int .i64 (s:Int)∧Hid (BdO B bb mm n rv nv lv pv g.start sv F' u tv' vs' (lvY g i (s - 1)))∧Hid (Mvd F F' w1 u)∧Hid (vs'[i]?.map Prod.snd=some pn)) (fun c _=>n - (intOf c).toNat)
 case atStart=>exact ⟨0,F,_,vs,Nat.zero_le _,rfl,h1,hm1,hid (by rw [List.getElem?_eq_getElem hiv,← hpn];rfl)⟩
 case round =>
  clear h1 hm1;obtain ⟨s,F',tv',vs',hs,rfl,hO,hM,hpi⟩:=hrel;by_cases hlt:s<n
  · have hltz:(s:Int)<(n:Int):=by omega
    have hst:s<ts.length:=by omega
    obtain ⟨hrow,hIts⟩:=hS1.out _ hM.out.kept;have hIs:=hIts s hst;obtain ⟨ta,tc,hte⟩:=hIs.shape;have z0:wr.cell? ⟨tb,s,none⟩=some ts[s]:=c_ hrow (by rw [List.getElem?_toArray];exact List.getElem?_eq_getElem hst);rw [hte] at z0;have hx9:Hid (lvY g i (s - 1)=lvY g i (s - 1)):=hid rfl;by_cases hgz:I_ g (m_ g i)[i] (s:Int)=[]
    · have hsk:Hid (lvY g i (s+1 - 1)=lvY g i (s - 1)):=hid (by
       cases s with
       | zero=>rfl
       | succ t=>exact b6z hi hgz)
      rw [hgz] at z0;have z0:wr.cell? ⟨tb,s,none⟩=some (.slice ta 0 tc):=z0;clear hIts hrow hIs hte hgz;go_wp2;go_roundw
      case rel=>exact ⟨s+1,F',tv',vs',by omega,by go_num,by rw [hsk.out];exact hO,hM,hpi⟩
      case measure=>simp [intOf];omega
    · have hs0:s≠0:=fun e=>hgz (by subst e;exact a7P g _)
      obtain ⟨t,rfl⟩:∃ t,s=t+1:=⟨s - 1,by omega⟩;have hst1:t+1 - 1=t:=by omega
      rw [hst1] at hO;have hIs9:=hIs
      have hLl:(lvY g i t).length≤1000:=by
       rw [a8P hi]
       have:=a5T g (m_ g i) (m_ g i)[i] t
       have:=hkl.out
       omega
      have hfw9:=a6y hu.snd (m_ g i)[i] ((t+1:Nat):Int);have hgr:=a5s (g:=g) (x:=(m_ g i)[i]) hrt (s:=((t+1:Nat):Int))
      have GN:=hid (b3s hO.out hIs (hone.out _ hst).1 (fun k e=>by
       have h7:=(hone.out _ hst).2 k e;refine ⟨fun e2=>?_,Nat.lt_of_lt_of_le h7.2 hM.out.kept.size⟩;rcases hM.out.new k e2 with h8 | h8
       · have:=hFl.out _ h8
         omega
       · omega) (by omega) (b4b hu.snd hgr) (hP1.out.move hM.out).now.tab (by omega) (by omega) hLl)
      rw [hte] at GN;have hput:=hid (fun (F2:Nat→Prop) (w2:World) (tv2:Value) (vs2:List (Value×Nat)) (hO2:BdO B bb mm n rv nv lv pv g.start sv F2 w2 tv2 vs2 (b5o n (lvY g i t) (I_ g (m_ g i)[i] ((t+1:Nat):Int)))) (hp2:vs2[i]?.map Prod.snd=some pn)=>b3K (B:=B) (bb:=bb) (mm:=mm) (rv:=rv) (nv:=nv) (lv:=lv) (pv:=pv) (st:=g.start) (sv:=sv) (F:=F2) (w:=w2) (tv:=tv2) (vs:=vs2) (pn:=pn) (x:=I_ g (m_ g i)[i] ((t+1:Nat):Int)) hO2 (by rw [List.getElem?_eq_getElem hi,Option.getD_some]) hgz hi hn hlt hp2);have hnn:0<(I_ g (m_ g i)[i] ((t+1:Nat):Int)).length:=List.length_pos_iff.2 hgz;have hnz:(0:Int)<((I_ g (m_ g i)[i] ((t+1:Nat):Int)).length:Int):=by omega
      have hpre9:=hid (fun (vs2:List (Value×Nat)) (hpre:vs' <+: vs2)=>(by
       have hil:i<vs'.length:=by
        apply Classical.byContradiction
        intro hc
        have:=hpi.out
        rw [List.getElem?_eq_none (by omega)] at this;cases this
       have h5:=hpi.out;rw [List.getElem?_eq_getElem hil] at h5;rw [List.getElem?_eq_getElem (Nat.lt_of_lt_of_le hil hpre.length_le),← hpre.getElem hil];exact h5:vs2[i]?.map Prod.snd=some pn))
      clear hIts hrow hIs hIs9 hte hgz hs0 hgr hfw9 hLl hnn hst;generalize (b1R ((lvY g i t).map Prod.fst) (I_ g (m_ g i)[i] ((t+1:Nat):Int))).idxOf (I_ g (m_ g i)[i] ((t+1:Nat):Int))=ix at *;generalize (I_ g (m_ g i)[i] ((t+1:Nat):Int)).length=gl at *;go_wp2_with (go_at_call 25;refine GN.out.mono ?_;clear GN;rintro e w2 ⟨rfl,F2,tv2,vs2,hO2,hM2,hpr⟩;have hp2:=hpre9.out vs2 hpr;obtain ⟨⟨zz,c9⟩,f9,hO3,hM3⟩:=hput.out F2 w2 tv2 vs2 hO2 hp2;have hp2:=hid hp2;have hO3:=hid hO3;have hM3:=hid ((hM.out.trans hM2).trans hM3);clear hO2 hM2 hpr hput)
      go_roundw
      case rel=>exact ⟨t+1+1,F2,tv2,vs2,by omega,by go_num,by rw [show t+1+1 - 1=t+1 by omega];exact hO3,hM3,hp2⟩
      case measure=>simp [intOf];omega
  · have hltz:¬ (s:Int)<(n:Int):=by omega
    obtain rfl:s=n:=by omega
    have hO9:=hO.out;rw [show s - 1=g.all by omega,b6A hi,hn] at hO9;have hO9:=hid hO9;clear hO;go_wp2;go_end0
    exact ⟨rfl,F',⟨tv',vs',hO9.out⟩,(Mvd.of_below hb1.out).trans hM.out⟩
end Go.Proofs.YtjgedijclkoemaaGreatDoor
