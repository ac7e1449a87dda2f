/- What AutoRight alone needs of layer 17: no statement of its own. -/
import Derived.Test.YtjgedijclkoemaaGreatDoorJ41
namespace Go.Proofs.YtjgedijclkoemaaGreatDoor
open Go.RowKit Go.Maps Go.Sort
structure AutR (w0:World):Prop where
 right:∀ (g:Gm) (rv nv lv pv vl:Value) (L:List St) (u:World),Below w0.heap.size w0 u→FitsH g→GmV u rv nv lv pv g→Sts u vl L→L.length≤240→(∀ x:St,x∈L→x.1.length≤1000∧x.2.length≤1000)→Calls Tryz.prog 13 #[gmA rv nv lv pv g.start,vl] u fun e w'=>e=.returned (.bool (a1s g L))∧Below u.heap.size u w'
end Go.Proofs.YtjgedijclkoemaaGreatDoor
namespace Go.Proofs.YtjgedijclkoemaaGreatDoor
open Go.ChangeShapes Go.WideShapes Go.ChangeAt Go.RowKit
section
variable {H:Type} {enc:TypeId×Value→H} {W:World}
set_option maxRecDepth 20000 in
theorem Tryz.cellsOfTn:Tryz.prog.cellsOf 38=3:=by kernel_rfl
set_option maxRecDepth 20000 in
theorem b3n {v:Value} {d:DataW H} {q:List MemPlace} {base:Nat} (hv:Value.okWide Tryz.prog W .any base 38 v) (h:DataW.Trod enc Tryz.prog W 0 (fun _=>true) true 38 v d q):∃ x1 x2 x3:Int,v=.agg #[.int .i64 x1,.int .i64 x2,.int .i64 x3]:=by
 obtain ⟨cs,rfl,hcs⟩:=okWide_struct Tryz.underlying38 hv;obtain ⟨a1M,hf⟩:=h;rw [Tryz.cellsOfTn] at hcs;obtain ⟨y0,y1,y2,m,_,_,t0,t1,t2⟩:=Deep.trod_struct3 Tryz.underlying38 hf;obtain ⟨cl⟩:=cs
 match cl,hcs with
 | [c0,c1,c2],_ =>
  obtain ⟨p,e0,_,_⟩:=DataW.trod_int Tryz.underlying3 t0;obtain ⟨q,e1,_,_⟩:=DataW.trod_int Tryz.underlying3 t1;obtain ⟨r,e2,_,_⟩:=DataW.trod_int Tryz.underlying3 t2;simp [Tryz.cellsOf3,Value.cells] at e0 e1 e2
  subst e0 e1 e2;exact ⟨p,q,r,rfl⟩
end
end Go.Proofs.YtjgedijclkoemaaGreatDoor
namespace Go.Proofs.YtjgedijclkoemaaGreatDoor
open Go.RowKit Go.Maps Go.Sort
theorem c5a {w:World} (hT:Tab w):AutR w:=⟨fun g rv nv lv pv vl L u hu hf hV hL hl hlk=>a2k g rv nv lv pv vl L u (hT.keep hu) hf hV hL hl hlk⟩
theorem a4g {g:Gm} (h:UsG g∧a0A g):a1s g (N_ g)=true:=R_.2 ⟨h.1,h.2,rfl⟩
theorem a3B {g:Gm} (h:UsG g∧a0A g):0<(N_ g).length:=by
 unfold N_;rw [a0i];exact (FinI.fin h.1.snd h.2).pos
theorem a4f {g:Gm} (h:UsG g∧a0A g):a1s g ((N_ g).drop 1)=false:=Bool.eq_false_iff.2 fun e=>by
 have e3:=congrArg List.length (R_.1 e).2.2
 have:=a3B h
 rw [List.length_drop] at e3;omega
theorem a9D {g:Gm} (h:UsG g∧a0A g) {L:List St} (hL:N_ g=L) {i:Nat} (hi:i<L.length) {s:Nat} (hs:s<L[i].2.length) (z:Int):a1s g (L.set i (L[i].1,L[i].2.set s z))=decide (z=L[i].2[s]):=by
 rw [Bool.eq_iff_iff,R_,decide_eq_true_eq,hL]
 constructor
 · rintro ⟨-,-,e⟩
   have h1:(L.set i (L[i].1,L[i].2.set s z))[i]'(by rw [List.length_set];exact hi)=L[i]:=by simp only [e]
   rw [List.getElem_set_self] at h1;have h2:L[i].2.set s z=L[i].2:=congrArg Prod.snd h1;have h3:(L[i].2.set s z)[s]'(by rw [List.length_set];exact hs)=L[i].2[s]:=by simp only [h2]
   rwa [List.getElem_set_self] at h3
 · rintro rfl
   refine ⟨h.1,h.2,?_⟩;rw [List.set_getElem_self];exact List.set_getElem_self hi
theorem b2t {L:List St} {i:Nat} (hi:i<L.length) {s:Nat} (z:Int) {a b:Nat} (h:∀ x:St,x∈L→x.1.length≤a∧x.2.length≤b):∀ x:St,x∈L.set i (L[i].1,L[i].2.set s z)→x.1.length≤a∧x.2.length≤b:=fun x hx=>by
 rcases List.mem_or_eq_of_mem_set hx with h1 | rfl
 · exact h x h1
 · have:=h _ (List.getElem_mem hi)
   exact ⟨this.1,by show (L[i].2.set s z).length≤b;rw [List.length_set];exact this.2⟩
theorem Sts.tail {u:World} {a:Option Addr} {c:Nat} {L:List St} (h:Sts u (.slice a L.length c) L) (h0:0<L.length) (s:Nat) (hs:s=2):Sts u (sliced a 1 L.length c s) (L.drop 1):=by
 subst hs;obtain ⟨a',c',e,hc,hn,hat⟩:=h;injection e with e1 e2 e3;subst e1 e3;have hl:(L.drop 1).length=L.length - 1:=List.length_drop;refine ⟨if c=1 then a else a.map (·.add (1 * 2)),c - 1,by unfold sliced;rw [hl],by omega,fun e=>?_,fun j hj=>?_⟩
 · by_cases hz:c=1
   · omega
   · rw [if_neg hz] at e
     cases a with
     | none=>have h9:=hn rfl;omega
     | some a=>cases e
 · obtain ⟨b,o,e,h1,h2⟩:=hat (1+j) (by omega)
   subst e;refine ⟨b,o+2,?_,h1,?_⟩
   · rw [if_neg (by omega)];simp [Addr.add]
   · rw [List.getElem_drop,show o+2+j * 2=o+(1+j) * 2 by omega];exact h2
set_option maxRecDepth 100000 in
set_option maxHeartbeats 8000000 in
theorem a9e (rv nv lv pv:Value) (g:Gm) (x1 x2 x3:Int) (w:World) (HA:AutOK w) (HR:AutR w) (HW:WkOK17 w) (h:GmV w rv nv lv pv g) (hn:¬ (FitsH g∧UsG g∧a0A g)):Calls Tryz.prog 4 #[gmA rv nv lv pv g.start,.agg #[.int .i64 x1,.int .i64 x2,.int .i64 x3]] w fun e w'=>e=.returned (.bool true)∧Below w.heap.size w w':=by
 have hKp:=hid (fun u (hu:Below w.heap.size w u)=>h.keep hu);have hB1:=al' w (.cells #[rv,nv,lv,pv,.int .i64 g.start] 27);have k1:=b_ w (.cells #[rv,nv,lv,pv,.int .i64 g.start] 27);have hB2:=al' (w.alloc (.cells #[rv,nv,lv,pv,.int .i64 g.start] 27)) (.cells #[.int .i64 x1,.int .i64 x2,.int .i64 x3] 38);have hs1:(w.alloc (.cells #[rv,nv,lv,pv,.int .i64 g.start] 27)).heap.size=w.heap.size+1:=World.size_alloc _ _;rw [hs1] at hB2;obtain ⟨W,hW⟩:∃ x,(w.alloc (.cells #[rv,nv,lv,pv,.int .i64 g.start] 27)).alloc (.cells #[.int .i64 x1,.int .i64 x2,.int .i64 x3] 38)=x:=⟨_,rfl⟩;rw [hW] at hB2;have hB:Hid (Below w.heap.size w W):=hid (hB1.trans (hB2.mono (by omega)));have hWs:W.heap.size=w.heap.size+1+1:=by rw [← hW,World.size_alloc,hs1]
 have k1W:W.heap[w.heap.size]?=some (.cells #[rv,nv,lv,pv,.int .i64 g.start] 27):=by rw [hB2.block w.heap.size (by omega)];exact k1
 have hk1:=hid (fun u (hu:Below W.heap.size W u)=>l_ (show u.heap[w.heap.size]?=_ from (hu.block w.heap.size (by omega)).trans k1W));have GW:=hid (HW.wakes W hB.out);by_cases hf:FitsH g
 · have GL:=hid (fun u (hu:Below w.heap.size w u)=>a0N _ _ _ _ g u (hKp.out u hu) hf)
   have hno:¬ (UsG g∧a0A g):=fun h9=>hn ⟨hf,h9⟩
   have GA:=hid (fun u (hu:Below w.heap.size w u)=>HA.build g rv nv lv pv u hu hf (hKp.out u hu));have GR:=hid (fun u (hu:Below w.heap.size w u)=>HR.right g rv nv lv pv _ [] u hu hf (hKp.out u hu) (Lst.nil u) (Nat.zero_le _) (fun x hx=>by cases hx));rw [a5X hno] at GR;have hez:eB g≠0:=fun e=>hno (a8X.1 e)
   rw [a7J hno] at GA;clear h hB1 hB2 k1 k1W HA HR HW hf hno hn hWs;generalize eB g=ez at *;generalize g.start=st at *;go_enter Tryz.func4,Tryz.ntmps4
   go_wp2_with (first
    | (go_at_call 8;refine GW.out.mono ?_;clear GW;rintro e w1 ⟨rfl,hc1⟩;have h1:=hid hc1;obtain ⟨x0,x1,x2,x3,x4⟩:=hk1.out w1 h1.out;clear hc1)
    | (go_at_call 9;refine (GL.out _ (a_ hB.out h1.out)).mono ?_;clear GL;rintro e w2 ⟨rfl,hc2⟩;have h2:=hid (a_ h1.out hc2);clear hc2;clear x0 x1 x2 x3 x4;obtain ⟨x0,x1,x2,x3,x4⟩:=hk1.out w2 h2.out)
    | (go_at_call 10;refine (GA.out _ (a_ hB.out h2.out)).mono ?_;clear GA;rintro e w3 ⟨va,rfl,hS,hc3⟩;have h3:=hid (a_ h2.out hc3);have hS:=hid (hS w3 (Below.refl _ _)).1;clear hc3;clear x0 x1 x2 x3 x4;obtain ⟨x0,x1,x2,x3,x4⟩:=hk1.out w3 h3.out;obtain ⟨sa,sc,hsh⟩:=hS.out.shape;subst hsh)
    | (go_at_call 13;refine (GR.out _ (a_ hB.out h3.out)).mono ?_;clear GR;rintro e w4 ⟨rfl,hc4⟩;have h4:=hid (a_ h3.out hc4);clear hc4))
   go_ret;exact ⟨rfl,a_ hB.out h4.out⟩
 · have GL:=hid (fun u (hu:Below w.heap.size w u)=>a1L _ _ _ _ g u (hKp.out u hu) hf)
   clear h hB1 hB2 k1 k1W HA HR HW hf hn hWs;generalize g.start=st at *;go_enter Tryz.func4,Tryz.ntmps4
   go_wp2_with (first
    | (go_at_call 8;refine GW.out.mono ?_;clear GW;rintro e w1 ⟨rfl,hc1⟩;have h1:=hid hc1;obtain ⟨x0,x1,x2,x3,x4⟩:=hk1.out w1 h1.out;clear hc1)
    | (go_at_call 9;refine (GL.out _ (a_ hB.out h1.out)).mono ?_;clear GL;rintro e w2 ⟨rfl,hc2⟩;have h2:=hid (a_ h1.out hc2);clear hc2;clear x0 x1 x2 x3 x4))
   go_ret;exact ⟨rfl,a_ hB.out h2.out⟩
set_option maxRecDepth 100000 in
set_option maxHeartbeats 8000000 in
theorem a8k (rv nv lv pv:Value) (g:Gm) (x1 x2 x3:Int) (w:World) (HA:AutOK w) (HR:AutR w) (HW:WkOK17 w) (h:GmV w rv nv lv pv g) (hf:FitsH g) (hu:UsG g∧a0A g) (hout:x1<0∨((N_ g).length:Int)≤x1):Calls Tryz.prog 4 #[gmA rv nv lv pv g.start,.agg #[.int .i64 x1,.int .i64 x2,.int .i64 x3]] w fun e w'=>e=.returned (.bool true)∧Below w.heap.size w w':=by
 have hKp:=hid (fun u (hu:Below w.heap.size w u)=>h.keep hu);have hB1:=al' w (.cells #[rv,nv,lv,pv,.int .i64 g.start] 27);have k1:=b_ w (.cells #[rv,nv,lv,pv,.int .i64 g.start] 27);have hB2:=al' (w.alloc (.cells #[rv,nv,lv,pv,.int .i64 g.start] 27)) (.cells #[.int .i64 x1,.int .i64 x2,.int .i64 x3] 38);have k2:=b_ (w.alloc (.cells #[rv,nv,lv,pv,.int .i64 g.start] 27)) (.cells #[.int .i64 x1,.int .i64 x2,.int .i64 x3] 38);have hs1:(w.alloc (.cells #[rv,nv,lv,pv,.int .i64 g.start] 27)).heap.size=w.heap.size+1:=World.size_alloc _ _;rw [hs1] at hB2 k2;obtain ⟨W,hW⟩:∃ x,(w.alloc (.cells #[rv,nv,lv,pv,.int .i64 g.start] 27)).alloc (.cells #[.int .i64 x1,.int .i64 x2,.int .i64 x3] 38)=x:=⟨_,rfl⟩;rw [hW] at hB2 k2;have hB:Hid (Below w.heap.size w W):=hid (hB1.trans (hB2.mono (by omega)));have hWs:W.heap.size=w.heap.size+1+1:=by rw [← hW,World.size_alloc,hs1]
 have k1W:W.heap[w.heap.size]?=some (.cells #[rv,nv,lv,pv,.int .i64 g.start] 27):=by rw [hB2.block w.heap.size (by omega)];exact k1
 have hk1:=hid (fun u (hu:Below W.heap.size W u)=>l_ (show u.heap[w.heap.size]?=_ from (hu.block w.heap.size (by omega)).trans k1W));have hk2:=hid (fun u (hu:Below W.heap.size W u)=>a1i (show u.heap[w.heap.size+1]?=_ from (hu.block (w.heap.size+1) (by omega)).trans k2));have GW:=hid (HW.wakes W hB.out);have GL:=hid (fun u (hu:Below w.heap.size w u)=>a0N _ _ _ _ g u (hKp.out u hu) hf);have GA:=hid (fun u (hu:Below w.heap.size w u)=>HA.build g rv nv lv pv u hu hf (hKp.out u hu));have q1:∀ x:St,x∈N_ g→x.1.length≤1000∧x.2.length≤1000:=fun x hx=>by have:=a0W hu.1 x hx;omega
 have n1:=a1C hu.2;have n0:=a3B hu;have GR:=hid (fun u vl (hu':Below w.heap.size w u) (hl:Sts u vl (N_ g))=>HR.right g rv nv lv pv vl (N_ g) u hu' hf (hKp.out u hu') hl n1 q1);have GT:=hid (fun u vl (hu':Below w.heap.size w u) (hl:Sts u vl ((N_ g).drop 1))=>HR.right g rv nv lv pv vl ((N_ g).drop 1) u hu' hf (hKp.out u hu') hl (by rw [List.length_drop];omega) (fun x hx=>q1 x (List.mem_of_mem_drop hx)));rw [a4g hu] at GR;rw [a4f hu] at GT;rw [a1S hu,a2y hu] at GA;clear h hB1 hB2 k1 k2 k1W HA HR HW hf hu hWs q1;generalize N_ g=L at *;obtain ⟨n,hn⟩:∃ n,Hid (L.length=n):=⟨_,hid rfl⟩;rw [hn.out] at hout n1 n0;generalize g.start=st at *;go_enter Tryz.func4,Tryz.ntmps4
 go_wp2_with (first
  | (go_at_call 8;refine GW.out.mono ?_;clear GW;rintro e w1 ⟨rfl,hc1⟩;have h1:=hid hc1;obtain ⟨x0,x1,x2,x3,x4⟩:=hk1.out w1 h1.out;clear hc1)
  | (go_at_call 9;refine (GL.out _ (a_ hB.out h1.out)).mono ?_;clear GL;rintro e w2 ⟨rfl,hc2⟩;have h2:=hid (a_ h1.out hc2);clear hc2;clear x0 x1 x2 x3 x4;obtain ⟨x0,x1,x2,x3,x4⟩:=hk1.out w2 h2.out)
  | (go_at_call 10;refine (GA.out _ (a_ hB.out h2.out)).mono ?_;clear GA;rintro e w3 ⟨va,rfl,hS,hc3⟩;have h3:=hid (a_ h2.out hc3);have hQ:=hid (fun u hu=>(hS u hu).1);clear hS hc3;clear x0 x1 x2 x3 x4;obtain ⟨sa,sc,hsh⟩:=(hQ.out w3 (Below.refl _ _)).shape;subst hsh))
 have hcl:n≤sc:=by
  obtain ⟨a',c',e,hc,-⟩:=(hQ.out w3 (Below.refl _ _));injection e with e1 e2 e3;rw [e3,← hn.out];exact hc
 obtain ⟨sb,so,rfl⟩:∃ sb so,sa=some ⟨sb,so,none⟩:=by
  obtain ⟨b',o,e,-⟩:=(hQ.out w3 (Below.refl _ _)).at (show 0<L.length by rw [hn.out];exact n0);exact ⟨b',o,e⟩
 have hTl:=hid (fun (u:World) (hu:Below w3.heap.size w3 u)=>Sts.tail (hQ.out u hu) (by rw [hn.out];exact n0) 2 rfl);rw [hn.out] at hQ hTl ⊢
 have hsl:sliced (some ⟨sb,so,none⟩) 1 n sc 2=.slice (if sc=1 then some ⟨sb,so,none⟩ else some ⟨sb,so+2,none⟩) (n - 1) (sc - 1):=by
  unfold sliced;simp [Addr.add]
 rw [hsl] at hTl;obtain ⟨y0,y1,y2,y3,y4⟩:=hk1.out w3 h3.out;have e0:=cell_regrown y0;have e1:=cell_regrown y1;have e2:=cell_regrown y2;have e3:=cell_regrown y3;have e4:=cell_regrown y4;have cA:Hid (∀ d os,Calls Tryz.prog 13 #[gmA rv nv lv pv st,.slice (some ⟨sb,so,none⟩) n sc] (grow (redrawn w3 d) os) fun e w''=>e=.returned (.bool true)∧∃ p:Regrown,w''=grow (redrawn w3 p.d) p.os):=hid (fun d os=>Calls.regrown_of (GR.out _ _ (a_ hB.out (a_ h3.out (below_regrown w3 d os))) (hQ.out _ (below_regrown w3 d os))));have cB:Hid (∀ d os,Calls Tryz.prog 13 #[gmA rv nv lv pv st,.slice (if sc=1 then some ⟨sb,so,none⟩ else some ⟨sb,so+2,none⟩) (n - 1) (sc - 1)] (grow (redrawn w3 d) os) fun e w''=>e=.returned (.bool false)∧∃ p:Regrown,w''=grow (redrawn w3 p.d) p.os):=hid (fun d os=>Calls.regrown_of (GT.out _ _ (a_ hB.out (a_ h3.out (below_regrown w3 d os))) (hTl.out _ (below_regrown w3 d os))));have hnz:(1:Int)≤(n:Int):=by omega
 clear y0 y1 y2 y3 y4 hQ hTl GR GT;refine wp_region_quiet_below (by kernel_rfl) (by kernel_rfl) ?_
 repeat (first | go_big_quiet_step (first | with_reducible exact cA.out _ _ | with_reducible exact cB.out _ _) | quiet_step (first | with_reducible exact cA.out _ _ | with_reducible exact cB.out _ _))
 refine wpQuiet_nil ?_;intro _ hw';obtain ⟨⟨dq,osq⟩,hw''⟩:=hw';subst hw'';have hq:=hid (a_ h3.out (below_regrown w3 dq osq));generalize grow (redrawn w3 dq) osq=wz at *;clear e0 e1 e2 e3 e4 cA cB hsl;generalize (if sc=1 then some (⟨sb,so,none⟩:Addr) else some ⟨sb,so+2,none⟩)=at9;obtain ⟨⟨z1,-⟩,⟨z2,-⟩,⟨z3,-⟩⟩:=hk2.out wz hq.out;rcases hout with hx | hx
 · go_wp2_with fail
   have g1:=cell_regrown z1;have g2:=cell_regrown z2;clear z1 z2 z3;refine wp_region_quiet_below (by kernel_rfl) (by kernel_rfl) ?_
   repeat (first | go_big_quiet_step (fail) | quiet_step (fail))
   refine wpQuiet_nil ?_;intro _ hw';obtain ⟨⟨dq2,osq2⟩,hw''⟩:=hw';subst hw'';have hq2:=hid (a_ hq.out (below_regrown wz dq2 osq2));generalize grow (redrawn wz dq2) osq2=wy at *;go_wp2;go_ret;exact ⟨rfl,a_ hB.out hq2.out⟩
 · have hx0:¬ x1<0:=by omega
   go_wp2_with fail
   have g1:=cell_regrown z1;have g2:=cell_regrown z2;clear z1 z2 z3;refine wp_region_quiet_below (by kernel_rfl) (by kernel_rfl) ?_
   repeat (first | go_big_quiet_step (fail) | quiet_step (fail))
   refine wpQuiet_nil ?_;intro _ hw';obtain ⟨⟨dq2,osq2⟩,hw''⟩:=hw';subst hw'';have hq2:=hid (a_ hq.out (below_regrown wz dq2 osq2));generalize grow (redrawn wz dq2) osq2=wy at *;go_wp2;go_ret;exact ⟨rfl,a_ hB.out hq2.out⟩
theorem c0C {B:Nat} {w u:World} (h:Below B w u) {b k:Nat} {v:Value} (hb:B≤b):Below B w (u.setCell ⟨b,k,none⟩ v):=by
 have kk:Kept (f_ b) u (u.setCell ⟨b,k,none⟩ v):=a3E;refine ⟨kk.os.trans h.os,kk.tape.trans h.tape,kk.output.trans h.output,Nat.le_trans h.size kk.size,fun j hj=>?_⟩;rw [← h.block j hj];exact Below.heap_setCell _ _ _ j (fun e=>by have e:j=b:=e;omega)
theorem b0V {B:Nat} {w u:World} {v:Value} {L:List St} (h:c0T B w v L) (hu:Below w.heap.size w u) {i:Nat} (hi:i<L.length) {s:Nat} (hs:s<L[i].2.length):∃ b o sb so cap nc,v=.slice (some ⟨sb,so,none⟩) L.length cap∧u.cell? ⟨sb,so+i * 2+1,none⟩=some (.slice (some ⟨b,o,none⟩) L[i].2.length nc)∧u.cell? ⟨b,o+s,none⟩=some (.int .i64 L[i].2[s])∧B≤b∧u.frozen? ⟨b,o+s,none⟩=false∧∀ z,Sts (u.setCell ⟨b,o+s,none⟩ (.int .i64 z)) v (L.set i (L[i].1,L[i].2.set s z)):=by
 obtain ⟨h1,h2⟩:=h u hu;obtain ⟨b,o,sb,so,cap,e,⟨nc,hc⟩,hb,hf,hp⟩:=h2 i hi s hs;subst e;refine ⟨b,o,sb,so,cap,nc,rfl,hc,?_,hb,hf,hp⟩;obtain ⟨b',o',e,-,vk,vn,y1,y2,y3,y4⟩:=h1.at hi;injection e with e;injection e with e1 e2;subst e1 e2;rw [hc] at y2;injection y2 with y2;subst y2;obtain ⟨b5,o5,c5,e,-,-,hq⟩:=y4.at (by omega);injection e with e;injection e with e;injection e with e1 e2;subst e1 e2;exact hq s hs
set_option maxRecDepth 100000 in
set_option maxHeartbeats 16000000 in
theorem a8i (rv nv lv pv:Value) (g:Gm) (i:Nat) (x2 x3:Int) (w:World) (HA:AutOK w) (HR:AutR w) (HW:WkOK17 w) (h:GmV w rv nv lv pv g) (hf:FitsH g) (hu:UsG g∧a0A g) (hi:i<(N_ g).length) (hsym:x2<0∨(((N_ g)[i].2.length:Nat):Int)≤x2):Calls Tryz.prog 4 #[gmA rv nv lv pv g.start,.agg #[.int .i64 (i:Int),.int .i64 x2,.int .i64 x3]] w fun e w'=>e=.returned (.bool true)∧Below w.heap.size w w':=by
 have hKp:=hid (fun u (hu:Below w.heap.size w u)=>h.keep hu);have hB1:=al' w (.cells #[rv,nv,lv,pv,.int .i64 g.start] 27);have k1:=b_ w (.cells #[rv,nv,lv,pv,.int .i64 g.start] 27);have hB2:=al' (w.alloc (.cells #[rv,nv,lv,pv,.int .i64 g.start] 27)) (.cells #[.int .i64 (i:Int),.int .i64 x2,.int .i64 x3] 38);have k2:=b_ (w.alloc (.cells #[rv,nv,lv,pv,.int .i64 g.start] 27)) (.cells #[.int .i64 (i:Int),.int .i64 x2,.int .i64 x3] 38);have hs1:(w.alloc (.cells #[rv,nv,lv,pv,.int .i64 g.start] 27)).heap.size=w.heap.size+1:=World.size_alloc _ _;rw [hs1] at hB2 k2;obtain ⟨W,hW⟩:∃ x,(w.alloc (.cells #[rv,nv,lv,pv,.int .i64 g.start] 27)).alloc (.cells #[.int .i64 (i:Int),.int .i64 x2,.int .i64 x3] 38)=x:=⟨_,rfl⟩;rw [hW] at hB2 k2;have hB:Hid (Below w.heap.size w W):=hid (hB1.trans (hB2.mono (by omega)));have hWs:W.heap.size=w.heap.size+1+1:=by rw [← hW,World.size_alloc,hs1]
 have k1W:W.heap[w.heap.size]?=some (.cells #[rv,nv,lv,pv,.int .i64 g.start] 27):=by rw [hB2.block w.heap.size (by omega)];exact k1
 have hk1:=hid (fun u (hu:Below W.heap.size W u)=>l_ (show u.heap[w.heap.size]?=_ from (hu.block w.heap.size (by omega)).trans k1W));have hk2:=hid (fun u (hu:Below W.heap.size W u)=>a1i (show u.heap[w.heap.size+1]?=_ from (hu.block (w.heap.size+1) (by omega)).trans k2));have GW:=hid (HW.wakes W hB.out);have GL:=hid (fun u (hu:Below w.heap.size w u)=>a0N _ _ _ _ g u (hKp.out u hu) hf);have GA:=hid (fun u (hu:Below w.heap.size w u)=>HA.build g rv nv lv pv u hu hf (hKp.out u hu));have q1:∀ x:St,x∈N_ g→x.1.length≤1000∧x.2.length≤1000:=fun x hx=>by have:=a0W hu.1 x hx;omega
 have n1:=a1C hu.2;have n0:=a3B hu;have GR:=hid (fun u vl (hu':Below w.heap.size w u) (hl:Sts u vl (N_ g))=>HR.right g rv nv lv pv vl (N_ g) u hu' hf (hKp.out u hu') hl n1 q1);have GT:=hid (fun u vl (hu':Below w.heap.size w u) (hl:Sts u vl ((N_ g).drop 1))=>HR.right g rv nv lv pv vl ((N_ g).drop 1) u hu' hf (hKp.out u hu') hl (by rw [List.length_drop];omega) (fun x hx=>q1 x (List.mem_of_mem_drop hx)))
 have GZ:=hid (fun u vl (i:Nat) (hi:i<(N_ g).length) (s:Nat) (hs:s<(N_ g)[i].2.length) (z:Int) (hu':Below w.heap.size w u) (hl:Sts u vl ((N_ g).set i ((N_ g)[i].1,(N_ g)[i].2.set s z)))=>(by
  have h9:=HR.right g rv nv lv pv vl _ u hu' hf (hKp.out u hu') hl (by rw [List.length_set];exact n1) (b2t hi z q1);rw [a9D hu rfl hi hs z] at h9;exact h9:Calls Tryz.prog 13 #[gmA rv nv lv pv g.start,vl] u fun e w'=>e=.returned (.bool (decide (z=(N_ g)[i].2[s])))∧Below u.heap.size u w'))
 rw [a4g hu] at GR;rw [a4f hu] at GT;rw [a1S hu,a2y hu] at GA;clear h hB1 hB2 k1 k2 k1W HA HR HW hf hu hWs q1;generalize N_ g=L at *;obtain ⟨n,hn⟩:∃ n,Hid (L.length=n):=⟨_,hid rfl⟩;have hi':=hid hi;rw [hn.out] at hi n1 n0;generalize g.start=st at *;go_enter Tryz.func4,Tryz.ntmps4
 go_wp2_with (first
  | (go_at_call 8;refine GW.out.mono ?_;clear GW;rintro e w1 ⟨rfl,hc1⟩;have h1:=hid hc1;obtain ⟨x0,x1,x2,x3,x4⟩:=hk1.out w1 h1.out;clear hc1)
  | (go_at_call 9;refine (GL.out _ (a_ hB.out h1.out)).mono ?_;clear GL;rintro e w2 ⟨rfl,hc2⟩;have h2:=hid (a_ h1.out hc2);clear hc2;clear x0 x1 x2 x3 x4;obtain ⟨x0,x1,x2,x3,x4⟩:=hk1.out w2 h2.out)
  | (go_at_call 10;refine (GA.out _ (a_ hB.out h2.out)).mono ?_;clear GA;rintro e w3 ⟨va,rfl,hS,hc3⟩;have h3:=hid (a_ h2.out hc3);have hQ:=hid (fun u hu=>(hS u hu).1);have hSW:=hid hS;have hc2':=hid (a_ hB.out h2.out).size;clear hS hc3;clear x0 x1 x2 x3 x4;obtain ⟨sa,sc,hsh⟩:=(hQ.out w3 (Below.refl _ _)).shape;subst hsh))
 have hcl:n≤sc:=by
  obtain ⟨a',c',e,hc,-⟩:=(hQ.out w3 (Below.refl _ _));injection e with e1 e2 e3;rw [e3,← hn.out];exact hc
 obtain ⟨sb,so,rfl⟩:∃ sb so,sa=some ⟨sb,so,none⟩:=by
  obtain ⟨b',o,e,-⟩:=(hQ.out w3 (Below.refl _ _)).at (show 0<L.length by rw [hn.out];exact n0);exact ⟨b',o,e⟩
 have hTl:=hid (fun (u:World) (hu:Below w3.heap.size w3 u)=>Sts.tail (hQ.out u hu) (by rw [hn.out];exact n0) 2 rfl);have hQ0:=hid hQ.out;rw [hn.out] at hQ hTl ⊢
 have hsl:sliced (some ⟨sb,so,none⟩) 1 n sc 2=.slice (if sc=1 then some ⟨sb,so,none⟩ else some ⟨sb,so+2,none⟩) (n - 1) (sc - 1):=by
  unfold sliced;simp [Addr.add]
 rw [hsl] at hTl;obtain ⟨y0,y1,y2,y3,y4⟩:=hk1.out w3 h3.out;have e0:=cell_regrown y0;have e1:=cell_regrown y1;have e2:=cell_regrown y2;have e3:=cell_regrown y3;have e4:=cell_regrown y4;have cA:Hid (∀ d os,Calls Tryz.prog 13 #[gmA rv nv lv pv st,.slice (some ⟨sb,so,none⟩) n sc] (grow (redrawn w3 d) os) fun e w''=>e=.returned (.bool true)∧∃ p:Regrown,w''=grow (redrawn w3 p.d) p.os):=hid (fun d os=>Calls.regrown_of (GR.out _ _ (a_ hB.out (a_ h3.out (below_regrown w3 d os))) (hQ.out _ (below_regrown w3 d os))));have cB:Hid (∀ d os,Calls Tryz.prog 13 #[gmA rv nv lv pv st,.slice (if sc=1 then some ⟨sb,so,none⟩ else some ⟨sb,so+2,none⟩) (n - 1) (sc - 1)] (grow (redrawn w3 d) os) fun e w''=>e=.returned (.bool false)∧∃ p:Regrown,w''=grow (redrawn w3 p.d) p.os):=hid (fun d os=>Calls.regrown_of (GT.out _ _ (a_ hB.out (a_ h3.out (below_regrown w3 d os))) (hTl.out _ (below_regrown w3 d os))));have hnz:(1:Int)≤(n:Int):=by omega
 clear y0 y1 y2 y3 y4 hTl GR GT GZ;refine wp_region_quiet_below (by kernel_rfl) (by kernel_rfl) ?_
 repeat (first | go_big_quiet_step (first | with_reducible exact cA.out _ _ | with_reducible exact cB.out _ _) | quiet_step (first | with_reducible exact cA.out _ _ | with_reducible exact cB.out _ _))
 refine wpQuiet_nil ?_;intro _ hw';obtain ⟨⟨dq,osq⟩,hw''⟩:=hw';subst hw'';have hq:=hid (a_ h3.out (below_regrown w3 dq osq));have hqz:=hid (below_regrown w3 dq osq);generalize grow (redrawn w3 dq) osq=wz at *;clear e0 e1 e2 e3 e4 cA cB hsl;generalize (if sc=1 then some (⟨sb,so,none⟩:Addr) else some ⟨sb,so+2,none⟩)=at9;obtain ⟨⟨z1,-⟩,⟨z2,-⟩,⟨z3,-⟩⟩:=hk2.out wz hq.out;obtain ⟨b',o',e,-,vk,vn,p1,p2,p3,p4⟩:=(hQ0.out wz hqz.out).at hi'.out;injection e with e;injection e with e1 e2;subst e1 e2;obtain ⟨na,nc,rfl,-⟩:=id p4;have hx0:¬ (i:Int)<0:=by omega
 have hx1:¬ (n:Int)≤(i:Int):=by omega
 have hx2:(i:Int)<(n:Int):=by omega
 generalize L[i].2.length=sl at *;rcases hsym with hx | hx
 · go_wp2_with fail
   have g1:=cell_regrown z1;have g2:=cell_regrown z2;have g3:=cell_regrown p2;clear z1 z2 z3 p1 p2 p3 p4;refine wp_region_quiet_below (by kernel_rfl) (by kernel_rfl) ?_
   repeat (first | go_big_quiet_step (fail) | quiet_step (fail))
   refine wpQuiet_nil ?_;intro _ hw';obtain ⟨⟨dq2,osq2⟩,hw''⟩:=hw';subst hw'';have hq2:=hid (a_ hq.out (below_regrown wz dq2 osq2));generalize grow (redrawn wz dq2) osq2=wy at *;go_wp2;go_ret;exact ⟨rfl,a_ hB.out hq2.out⟩
 · have hx3:¬ x2<0:=by omega
   go_wp2_with fail
   have g1:=cell_regrown z1;have g2:=cell_regrown z2;have g3:=cell_regrown p2;clear z1 z2 z3 p1 p2 p3 p4;refine wp_region_quiet_below (by kernel_rfl) (by kernel_rfl) ?_
   repeat (first | go_big_quiet_step (fail) | quiet_step (fail))
   refine wpQuiet_nil ?_;intro _ hw';obtain ⟨⟨dq2,osq2⟩,hw''⟩:=hw';subst hw'';have hq2:=hid (a_ hq.out (below_regrown wz dq2 osq2));generalize grow (redrawn wz dq2) osq2=wy at *;go_wp2;go_ret;exact ⟨rfl,a_ hB.out hq2.out⟩
set_option maxRecDepth 100000 in
set_option maxHeartbeats 16000000 in
theorem a8j (rv nv lv pv:Value) (g:Gm) (i:Nat) (x2 x3:Int) (w:World) (HA:AutOK w) (HR:AutR w) (HW:WkOK17 w) (h:GmV w rv nv lv pv g) (hf:FitsH g) (hu:UsG g∧a0A g) (hi:i<(N_ g).length) (s:Nat) (hs:s<(N_ g)[i].2.length) (hx2:x2=(s:Int)):Calls Tryz.prog 4 #[gmA rv nv lv pv g.start,.agg #[.int .i64 (i:Int),.int .i64 x2,.int .i64 x3]] w fun e w'=>e=.returned (.bool true)∧Below w.heap.size w w':=by
 subst hx2;have hKp:=hid (fun u (hu:Below w.heap.size w u)=>h.keep hu);have hB1:=al' w (.cells #[rv,nv,lv,pv,.int .i64 g.start] 27);have k1:=b_ w (.cells #[rv,nv,lv,pv,.int .i64 g.start] 27);have hB2:=al' (w.alloc (.cells #[rv,nv,lv,pv,.int .i64 g.start] 27)) (.cells #[.int .i64 (i:Int),.int .i64 (s:Int),.int .i64 x3] 38);have k2:=b_ (w.alloc (.cells #[rv,nv,lv,pv,.int .i64 g.start] 27)) (.cells #[.int .i64 (i:Int),.int .i64 (s:Int),.int .i64 x3] 38);have hs1:(w.alloc (.cells #[rv,nv,lv,pv,.int .i64 g.start] 27)).heap.size=w.heap.size+1:=World.size_alloc _ _;rw [hs1] at hB2 k2;obtain ⟨W,hW⟩:∃ x,(w.alloc (.cells #[rv,nv,lv,pv,.int .i64 g.start] 27)).alloc (.cells #[.int .i64 (i:Int),.int .i64 (s:Int),.int .i64 x3] 38)=x:=⟨_,rfl⟩;rw [hW] at hB2 k2;have hB:Hid (Below w.heap.size w W):=hid (hB1.trans (hB2.mono (by omega)));have hWs:W.heap.size=w.heap.size+1+1:=by rw [← hW,World.size_alloc,hs1]
 have k1W:W.heap[w.heap.size]?=some (.cells #[rv,nv,lv,pv,.int .i64 g.start] 27):=by rw [hB2.block w.heap.size (by omega)];exact k1
 have hk1:=hid (fun u (hu:Below W.heap.size W u)=>l_ (show u.heap[w.heap.size]?=_ from (hu.block w.heap.size (by omega)).trans k1W));have hk2:=hid (fun u (hu:Below W.heap.size W u)=>a1i (show u.heap[w.heap.size+1]?=_ from (hu.block (w.heap.size+1) (by omega)).trans k2));have GW:=hid (HW.wakes W hB.out);have GL:=hid (fun u (hu:Below w.heap.size w u)=>a0N _ _ _ _ g u (hKp.out u hu) hf);have GA:=hid (fun u (hu:Below w.heap.size w u)=>HA.build g rv nv lv pv u hu hf (hKp.out u hu));have q1:∀ x:St,x∈N_ g→x.1.length≤1000∧x.2.length≤1000:=fun x hx=>by have:=a0W hu.1 x hx;omega
 have n1:=a1C hu.2;have n0:=a3B hu;have GR:=hid (fun u vl (hu':Below w.heap.size w u) (hl:Sts u vl (N_ g))=>HR.right g rv nv lv pv vl (N_ g) u hu' hf (hKp.out u hu') hl n1 q1);have GT:=hid (fun u vl (hu':Below w.heap.size w u) (hl:Sts u vl ((N_ g).drop 1))=>HR.right g rv nv lv pv vl ((N_ g).drop 1) u hu' hf (hKp.out u hu') hl (by rw [List.length_drop];omega) (fun x hx=>q1 x (List.mem_of_mem_drop hx)))
 have GZ:=hid (fun u vl (i:Nat) (hi:i<(N_ g).length) (s:Nat) (hs:s<(N_ g)[i].2.length) (z:Int) (hu':Below w.heap.size w u) (hl:Sts u vl ((N_ g).set i ((N_ g)[i].1,(N_ g)[i].2.set s z)))=>(by
  have h9:=HR.right g rv nv lv pv vl _ u hu' hf (hKp.out u hu') hl (by rw [List.length_set];exact n1) (b2t hi z q1);rw [a9D hu rfl hi hs z] at h9;exact h9:Calls Tryz.prog 13 #[gmA rv nv lv pv g.start,vl] u fun e w'=>e=.returned (.bool (decide (z=(N_ g)[i].2[s])))∧Below u.heap.size u w'))
 rw [a4g hu] at GR;rw [a4f hu] at GT;rw [a1S hu,a2y hu] at GA;clear h hB1 hB2 k1 k2 k1W HA HR HW hf hu hWs q1;generalize N_ g=L at *;obtain ⟨n,hn⟩:∃ n,Hid (L.length=n):=⟨_,hid rfl⟩;have hi':=hid hi;have hs':=hid hs;rw [hn.out] at hi n1 n0;generalize g.start=st at *;go_enter Tryz.func4,Tryz.ntmps4
 go_wp2_with (first
  | (go_at_call 8;refine GW.out.mono ?_;clear GW;rintro e w1 ⟨rfl,hc1⟩;have h1:=hid hc1;obtain ⟨x0,x1,x2,x3,x4⟩:=hk1.out w1 h1.out;clear hc1)
  | (go_at_call 9;refine (GL.out _ (a_ hB.out h1.out)).mono ?_;clear GL;rintro e w2 ⟨rfl,hc2⟩;have h2:=hid (a_ h1.out hc2);clear hc2;clear x0 x1 x2 x3 x4;obtain ⟨x0,x1,x2,x3,x4⟩:=hk1.out w2 h2.out)
  | (go_at_call 10;refine (GA.out _ (a_ hB.out h2.out)).mono ?_;clear GA;rintro e w3 ⟨va,rfl,hS,hc3⟩;have h3:=hid (a_ h2.out hc3);have hQ:=hid (fun u hu=>(hS u hu).1);have hSW:=hid hS;have hc2':=hid (a_ hB.out h2.out).size;clear hS hc3;clear x0 x1 x2 x3 x4;obtain ⟨sa,sc,hsh⟩:=(hQ.out w3 (Below.refl _ _)).shape;subst hsh))
 have hcl:n≤sc:=by
  obtain ⟨a',c',e,hc,-⟩:=(hQ.out w3 (Below.refl _ _));injection e with e1 e2 e3;rw [e3,← hn.out];exact hc
 obtain ⟨sb,so,rfl⟩:∃ sb so,sa=some ⟨sb,so,none⟩:=by
  obtain ⟨b',o,e,-⟩:=(hQ.out w3 (Below.refl _ _)).at (show 0<L.length by rw [hn.out];exact n0);exact ⟨b',o,e⟩
 have hTl:=hid (fun (u:World) (hu:Below w3.heap.size w3 u)=>Sts.tail (hQ.out u hu) (by rw [hn.out];exact n0) 2 rfl);have hQ0:=hid hQ.out;rw [hn.out] at hQ hTl ⊢
 have hsl:sliced (some ⟨sb,so,none⟩) 1 n sc 2=.slice (if sc=1 then some ⟨sb,so,none⟩ else some ⟨sb,so+2,none⟩) (n - 1) (sc - 1):=by
  unfold sliced;simp [Addr.add]
 rw [hsl] at hTl;obtain ⟨y0,y1,y2,y3,y4⟩:=hk1.out w3 h3.out;have e0:=cell_regrown y0;have e1:=cell_regrown y1;have e2:=cell_regrown y2;have e3:=cell_regrown y3;have e4:=cell_regrown y4;have cA:Hid (∀ d os,Calls Tryz.prog 13 #[gmA rv nv lv pv st,.slice (some ⟨sb,so,none⟩) n sc] (grow (redrawn w3 d) os) fun e w''=>e=.returned (.bool true)∧∃ p:Regrown,w''=grow (redrawn w3 p.d) p.os):=hid (fun d os=>Calls.regrown_of (GR.out _ _ (a_ hB.out (a_ h3.out (below_regrown w3 d os))) (hQ.out _ (below_regrown w3 d os))));have cB:Hid (∀ d os,Calls Tryz.prog 13 #[gmA rv nv lv pv st,.slice (if sc=1 then some ⟨sb,so,none⟩ else some ⟨sb,so+2,none⟩) (n - 1) (sc - 1)] (grow (redrawn w3 d) os) fun e w''=>e=.returned (.bool false)∧∃ p:Regrown,w''=grow (redrawn w3 p.d) p.os):=hid (fun d os=>Calls.regrown_of (GT.out _ _ (a_ hB.out (a_ h3.out (below_regrown w3 d os))) (hTl.out _ (below_regrown w3 d os))));have hnz:(1:Int)≤(n:Int):=by omega
 clear y0 y1 y2 y3 y4 hTl GR GT;refine wp_region_quiet_below (by kernel_rfl) (by kernel_rfl) ?_
 repeat (first | go_big_quiet_step (first | with_reducible exact cA.out _ _ | with_reducible exact cB.out _ _) | quiet_step (first | with_reducible exact cA.out _ _ | with_reducible exact cB.out _ _))
 refine wpQuiet_nil ?_;intro _ hw';obtain ⟨⟨dq,osq⟩,hw''⟩:=hw';subst hw'';have hq:=hid (a_ h3.out (below_regrown w3 dq osq));have hqz:=hid (below_regrown w3 dq osq);generalize grow (redrawn w3 dq) osq=wz at *;clear e0 e1 e2 e3 e4 cA cB hsl;generalize (if sc=1 then some (⟨sb,so,none⟩:Addr) else some ⟨sb,so+2,none⟩)=at9;obtain ⟨⟨z1,-⟩,⟨z2,-⟩,⟨z3,-⟩⟩:=hk2.out wz hq.out
 have hcell:=hid (fun u (hu:Below w3.heap.size w3 u)=>(by
  obtain ⟨b,o,sb',so',cap,nc,e,c1,c2,c3,c4,c5⟩:=b0V hSW.out hu hi'.out hs'.out;injection e with e _ e3;injection e with e;injection e with e1 e2;subst e1 e2;exact ⟨b,o,nc,c1,c2,c3,c4,c5⟩:∃ b o nc,u.cell? ⟨sb,so+i * 2+1,none⟩=some (.slice (some ⟨b,o,none⟩) L[i].2.length nc)∧u.cell? ⟨b,o+s,none⟩=some (.int .i64 L[i].2[s])∧w2.heap.size≤b∧u.frozen? ⟨b,o+s,none⟩=false∧∀ z,Sts (u.setCell ⟨b,o+s,none⟩ (.int .i64 z)) (.slice (some ⟨sb,so,none⟩) L.length sc) (L.set i (L[i].1,L[i].2.set s z))))
 have hGZ:=hid (fun u (hu':Below w.heap.size w u) (hl:Sts u (.slice (some ⟨sb,so,none⟩) L.length sc) (L.set i (L[i].1,L[i].2.set s x3)))=>GZ.out u _ i hi'.out s hs'.out x3 hu' hl)
 have hall:∃ b o nc,Hid (∀ u,Below w3.heap.size w3 u→u.cell? ⟨sb,so+i * 2+1,none⟩=some (.slice (some ⟨b,o,none⟩) L[i].2.length nc)∧u.cell? ⟨b,o+s,none⟩=some (.int .i64 L[i].2[s])∧w2.heap.size≤b∧u.frozen? ⟨b,o+s,none⟩=false∧Sts (u.setCell ⟨b,o+s,none⟩ (.int .i64 x3)) (.slice (some ⟨sb,so,none⟩) L.length sc) (L.set i (L[i].1,L[i].2.set s x3))):=by
  obtain ⟨b,o,nc,c1,-,-,-,-⟩:=hcell.out w3 (Below.refl _ _);refine ⟨b,o,nc,hid (fun u hu=>?_)⟩;obtain ⟨b',o',nc',d1,d2,d3,d4,d5⟩:=hcell.out u hu;have h9:=d_ hu c1;rw [d1] at h9;injection h9 with h9;injection h9 with e _ e3;injection e with e;injection e with e1 e2;subst e1 e2 e3;exact ⟨d1,d2,d3,d4,d5 x3⟩
 clear hcell;obtain ⟨b,o,nc,hcl⟩:=hall;have hx0:¬ (i:Int)<0:=by omega
 have hx1:¬ (n:Int)≤(i:Int):=by omega
 have hx2:(i:Int)<(n:Int):=by omega
 have hs2:=hs'.out;clear GZ hQ hQ0 hSW;generalize L.set i (L[i].1,L[i].2.set s x3)=L3 at *;generalize L[i].2[s]=z0 at *;clear hs hs';generalize L[i].2.length=sl at *;rw [hn.out] at hcl hGZ;have hs0:¬ (s:Int)<0:=by omega
 have hs1:¬ (sl:Int)≤(s:Int):=by omega
 have hs3:(s:Int)<(sl:Int):=by omega
 obtain ⟨p1,p2,-⟩:=hcl.out wz hqz.out;go_wp2_with fail
 have g1:=cell_regrown z1;have g2:=cell_regrown z2;have g3:=cell_regrown p1;clear z1 z2 z3 p1 p2;refine wp_region_quiet_below (by kernel_rfl) (by kernel_rfl) ?_
 repeat (first | go_big_quiet_step (fail) | quiet_step (fail))
 refine wpQuiet_nil ?_;intro _ hw';obtain ⟨⟨dq2,osq2⟩,hw''⟩:=hw';subst hw'';have hq2:=hid (a_ hqz.out (below_regrown wz dq2 osq2));have hqW:=hid (a_ hq.out (below_regrown wz dq2 osq2));generalize grow (redrawn wz dq2) osq2=wy at *;clear g1 g2 g3;obtain ⟨⟨z1,-⟩,⟨z2,-⟩,⟨z3,-⟩⟩:=hk2.out wy hqW.out;obtain ⟨p1,p2,-⟩:=hcl.out wy hq2.out;go_wp2_with fail
 have g1:=cell_regrown z1;have g2:=cell_regrown z2;have g3:=cell_regrown p1;have g4:=cell_regrown p2;clear z1 z2 z3 p1 p2;refine wp_region_quiet_below (by kernel_rfl) (by kernel_rfl) ?_
 repeat (first | go_big_quiet_step (fail) | quiet_step (fail))
 refine wpQuiet_nil ?_;intro _ hw';obtain ⟨⟨dq3,osq3⟩,hw''⟩:=hw';subst hw'';have hq3:=hid (a_ hq2.out (below_regrown wy dq3 osq3));have hqX:=hid (a_ hqW.out (below_regrown wy dq3 osq3));generalize grow (redrawn wy dq3) osq3=wx at *;clear g1 g2 g3 g4;obtain ⟨⟨z1,-⟩,⟨z2,-⟩,⟨z3,-⟩⟩:=hk2.out wx hqX.out;obtain ⟨p1,p2,p3,p4,p5⟩:=hcl.out wx hq3.out;go_wp2_with fail
 go_region
 all_goals
  obtain ⟨wv,hwv⟩:∃ x,(wx.setCell ⟨b,o+s,none⟩ (.int .i64 x3)).drew=x:=⟨_,rfl⟩;rw [hwv];have hlv:=hid (show Below W.heap.size W wv by rw [← hwv];exact (c0C hqX.out (by have:=h2.out.size;omega)).drew);have hSv:=hid (show Sts wv (.slice (some ⟨sb,so,none⟩) n sc) L3 by rw [← hwv];exact Sts.keep p5 (Below.refl _ _).drew);clear hwv p1 p2 p3 p4 p5 z1 z2 z3;obtain ⟨-,-,⟨z3,-⟩⟩:=hk2.out wv hlv.out;obtain ⟨y0,y1,y2,y3,y4⟩:=hk1.out wv hlv.out;have e0:=cell_regrown y0;have e1:=cell_regrown y1;have e2:=cell_regrown y2;have e3:=cell_regrown y3;have e4:=cell_regrown y4;have g3:=cell_regrown z3;have cA:Hid (∀ d os,Calls Tryz.prog 13 #[gmA rv nv lv pv st,.slice (some ⟨sb,so,none⟩) n sc] (grow (redrawn wv d) os) fun e w''=>e=.returned (.bool (decide (x3=z0)))∧∃ p:Regrown,w''=grow (redrawn wv p.d) p.os):=hid (fun d os=>Calls.regrown_of (hGZ.out _ (a_ hB.out (a_ hlv.out (below_regrown wv d os))) (Sts.keep hSv.out (below_regrown wv d os))));clear y0 y1 y2 y3 y4 z3;by_cases hz:x3=z0
  · subst hz
    rw [decide_eq_true rfl] at cA;go_wp2_with fail
    refine wp_region_quiet_below (by kernel_rfl) (by kernel_rfl) ?_
    repeat (first | go_big_quiet_step (with_reducible exact cA.out _ _) | quiet_step (fail))
    refine wpQuiet_nil ?_;intro _ hw';obtain ⟨⟨dq4,osq4⟩,hw''⟩:=hw';subst hw'';have hq4:=hid (a_ hlv.out (below_regrown wv dq4 osq4));generalize grow (redrawn wv dq4) osq4=wu at *;go_wp2;go_ret;exact ⟨by first | rfl | simp,a_ hB.out hq4.out⟩
  · rw [decide_eq_false hz] at cA
    have hzd:decide (x3=z0)=false:=decide_eq_false hz;go_wp2_with fail
    refine wp_region_quiet_below (by kernel_rfl) (by kernel_rfl) ?_
    repeat (first | go_big_quiet_step (with_reducible exact cA.out _ _) | quiet_step (fail))
    refine wpQuiet_nil ?_;intro _ hw';obtain ⟨⟨dq4,osq4⟩,hw''⟩:=hw';subst hw'';have hq4:=hid (a_ hlv.out (below_regrown wv dq4 osq4));generalize grow (redrawn wv dq4) osq4=wu at *;go_wp2;go_ret;exact ⟨by first | rfl | simp [hz],a_ hB.out hq4.out⟩
set_option maxRecDepth 20000 in
theorem a6H (rv nv lv pv:Value) (g:Gm) (x1 x2 x3:Int) (w:World) (HA:AutOK w) (HR:AutR w) (HW:WkOK17 w) (h:GmV w rv nv lv pv g):Calls Tryz.prog 4 #[gmA rv nv lv pv g.start,.agg #[.int .i64 x1,.int .i64 x2,.int .i64 x3]] w fun e w'=>e=.returned (.bool true)∧Below w.heap.size w w':=by
 by_cases hn:FitsH g∧UsG g∧a0A g
 · by_cases h1:x1<0∨((N_ g).length:Int)≤x1
   · exact a8k rv nv lv pv g x1 x2 x3 w HA HR HW h hn.1 hn.2 h1
   · obtain ⟨i,rfl⟩:∃ i:Nat,x1=(i:Int):=⟨x1.toNat,by omega⟩
     have hi:i<(N_ g).length:=by omega
     by_cases h2:x2<0∨(((N_ g)[i].2.length:Nat):Int)≤x2
     · exact a8i rv nv lv pv g i x2 x3 w HA HR HW h hn.1 hn.2 hi h2
     · obtain ⟨s,rfl⟩:∃ s:Nat,x2=(s:Int):=⟨x2.toNat,by omega⟩
       exact a8j rv nv lv pv g i (s:Int) x3 w HA HR HW h hn.1 hn.2 hi s (by omega) rfl
 · exact a9e rv nv lv pv g x1 x2 x3 w HA HR HW h hn
end Go.Proofs.YtjgedijclkoemaaGreatDoor
