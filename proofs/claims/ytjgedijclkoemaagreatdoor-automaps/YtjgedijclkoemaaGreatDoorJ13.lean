/- What the five laws of layer 17 share, part 13: no statement of its own. -/
import Derived.Test.YtjgedijclkoemaaGreatDoorJ12
import Derived.Deep.Strs
namespace Go.Proofs.YtjgedijclkoemaaGreatDoor
open Go.RowKit Go.Maps
def Lst {α:Type} (sz:Nat) (R:World→Nat→Nat→α→Prop) (w:World) (v:Value) (l:List α):Prop:=∃ a cap,v=.slice a l.length cap∧l.length≤cap∧(a=none→cap=0)∧∀ j (h:j<l.length),∃ b o,a=some ⟨b,o,none⟩∧b<w.heap.size∧R w b (o+j * sz) l[j]
theorem Lst.keepR {α:Type} {sz:Nat} {R:World→Nat→Nat→α→Prop} {w u:World} {v:Value} {l:List α} (h:Lst sz R w v l) (hs:w.heap.size≤u.heap.size) (hR:∀ b o x,b<w.heap.size→R w b o x→R u b o x):Lst sz R u v l:=by
 obtain ⟨a,cap,e,hc,hn,hat⟩:=h;refine ⟨a,cap,e,hc,hn,fun j hj=>?_⟩;obtain ⟨b,o,e1,h1,h2⟩:=hat j hj;exact ⟨b,o,e1,Nat.lt_of_lt_of_le h1 hs,hR _ _ _ h1 h2⟩
theorem Lst.shape {α:Type} {sz:Nat} {R:World→Nat→Nat→α→Prop} {w:World} {v:Value} {l:List α} (h:Lst sz R w v l):∃ a c,v=.slice a l.length c:=by obtain ⟨a,c,e,_⟩:=h;exact ⟨a,c,e⟩
theorem Lst.at {α:Type} {sz:Nat} {R:World→Nat→Nat→α→Prop} {w:World} {a:Option Addr} {n c:Nat} {l:List α} (h:Lst sz R w (.slice a n c) l) {j:Nat} (hj:j<l.length):∃ b o,a=some ⟨b,o,none⟩∧b<w.heap.size∧R w b (o+j * sz) l[j]:=by
 obtain ⟨a',c',e,_,_,hat⟩:=h;injection e with e1 _ _;subst e1;exact hat j hj
theorem Lst.nil {α:Type} {sz:Nat} {R:World→Nat→Nat→α→Prop} (w:World):Lst sz R w (.slice none 0 0) []:=⟨none,0,rfl,Nat.le_refl _,fun _=>rfl,fun _ hj=>absurd hj (Nat.not_lt_zero _)⟩
structure Rl where
 name:Txt
 re:List Cel
 skip:Bool
structure Pd where
 left:Int
 right:List Int
 prec:Int
structure Gm where
 rules:List Rl
 nonts:List Txt
 levels:List (Int×Int)
 prods:List Pd
 start:Int
def RuleAt (w:World) (b o:Nat) (r:Rl):Prop:=∃ v,w.cell? ⟨b,o,none⟩=some (.string (e_ r.name))∧w.cell? ⟨b,o+1,none⟩=some v∧w.cell? ⟨b,o+2,none⟩=some (.bool r.skip)∧Cels w v r.re
def a4F (w:World) (b o:Nat) (t:Txt):Prop:=w.cell? ⟨b,o,none⟩=some (.string (e_ t))
def b1N (w:World) (b o:Nat) (p:Int×Int):Prop:=w.cell? ⟨b,o,none⟩=some (.int .i64 p.1)∧w.cell? ⟨b,o+1,none⟩=some (.int .i64 p.2)
def ProdAt (w:World) (b o:Nat) (p:Pd):Prop:=∃ v,w.cell? ⟨b,o,none⟩=some (.int .i64 p.left)∧w.cell? ⟨b,o+1,none⟩=some v∧w.cell? ⟨b,o+2,none⟩=some (.int .i64 p.prec)∧Nums w v p.right
theorem RuleAt.keep {w u:World} {b o:Nat} {r:Rl} (h:RuleAt w b o r) (hu:Below w.heap.size w u):RuleAt u b o r:=by
 obtain ⟨v,h0,h1,h2,h3⟩:=h;exact ⟨v,d_ hu h0,d_ hu h1,d_ hu h2,h3.keep hu⟩
theorem ProdAt.keep {w u:World} {b o:Nat} {p:Pd} (h:ProdAt w b o p) (hu:Below w.heap.size w u):ProdAt u b o p:=by
 obtain ⟨v,h0,h1,h2,h3⟩:=h;exact ⟨v,d_ hu h0,d_ hu h1,d_ hu h2,h3.keep hu⟩
structure GmV (w:World) (rv nv lv pv:Value) (g:Gm):Prop where
 rules:Lst 3 RuleAt w rv g.rules
 nonts:Lst 1 a4F w nv g.nonts
 levels:Lst 2 b1N w lv g.levels
 prods:Lst 3 ProdAt w pv g.prods
theorem GmV.keep {w u:World} {rv nv lv pv:Value} {g:Gm} (h:GmV w rv nv lv pv g) (hu:Below w.heap.size w u):GmV u rv nv lv pv g:=
 ⟨h.rules.keepR hu.size fun _ _ _ _ h=>h.keep hu,h.nonts.keepR hu.size fun _ _ _ _ h=>d_ hu h,h.levels.keepR hu.size fun _ _ _ _ h=>⟨d_ hu h.1,d_ hu h.2⟩,h.prods.keepR hu.size fun _ _ _ _ h=>h.keep hu⟩
def a3z (l:List Rl) (k:Nat):Nat:=((l.take k).filter fun r=>!r.skip).length
theorem a3T {l:List Rl} {k:Nat} (hk:k<l.length):a3z l (k+1)=a3z l k+(if l[k].skip then 0 else 1):=by
 unfold a3z;rw [List.take_add_one,List.getElem?_eq_getElem hk,Option.toList_some,List.filter_append,List.length_append];cases h:l[k].skip <;> simp [h]
theorem a0d (l:List Rl) (k:Nat):a3z l k≤k:=Nat.le_trans (List.length_filter_le _ _) (by rw [List.length_take];omega)
def Gm.terms (g:Gm):Nat:=a3z g.rules g.rules.length
def a2S (l:List Rl) (k:Nat):List Txt:=[36] :: ((l.take k).filter fun r=>!r.skip).map Rl.name
def Gm.names (g:Gm):List Txt:=a2S g.rules g.rules.length++g.nonts
def Gm.name (g:Gm) (s:Int):Txt:=if s<0 then [] else g.names.getD s.toNat []
abbrev gmA (rv nv lv pv:Value) (s:Int):Value:=.agg #[rv,nv,lv,pv,.int .i64 s]
set_option maxRecDepth 20000 in
set_option maxHeartbeats 1000000 in
theorem a4h (rv nv lv pv:Value) (g:Gm) (w:World) (h:GmV w rv nv lv pv g) (hl:g.rules.length≤1000000) :
 Calls Tryz.prog 18 #[gmA rv nv lv pv g.start] w fun e w'=>e=.returned (.int .i64 (g.terms:Int))∧Below w.heap.size w w':=by
 have hR:=hid h.rules;obtain ⟨a,c,rfl⟩:=h.rules.shape;obtain ⟨na,nc,rfl⟩:=h.nonts.shape;obtain ⟨la,lc,rfl⟩:=h.levels.shape;obtain ⟨pa,pc,rfl⟩:=h.prods.shape;unfold Gm.terms;clear h;obtain ⟨st,hst⟩:∃ x,g.start=x:=⟨_,rfl⟩;rw [hst];generalize g.nonts.length=nn;generalize g.levels.length=ll;generalize g.prods.length=pp;generalize g.rules=R at *;obtain ⟨n,hnn⟩:∃ n,Hid (R.length=n):=⟨_,hid rfl⟩;obtain ⟨RR,hRR⟩:∃ x,Hid (a3z R R.length=x):=⟨_,hid rfl⟩;rw [hRR.out];rw [hnn.out] at hl hR hRR ⊢;obtain ⟨W1,hW1⟩:∃ x,w.alloc (.cells #[.slice a n c,.slice na nn nc,.slice la ll lc,.slice pa pp pc,.int .i64 st] 27)=x:=⟨_,rfl⟩;have hB1:Hid (Below w.heap.size w W1):=by rw [← hW1];exact hid (al' w _)
 have hk1:Hid (W1.heap[w.heap.size]?=some (.cells #[.slice a n c,.slice na nn nc,.slice la ll lc,.slice pa pp pc,.int .i64 st] 27)):=by rw [← hW1];exact hid (b_ w _)
 have y0:W1.cell? ⟨w.heap.size,0,none⟩=some (.slice a n c):=c_ hk1.out rfl;have hR1:=hid (hR.out.keepR hB1.out.size fun _ _ _ _ h=>h.keep hB1.out);clear hR hk1;go_enter Tryz.func18,Tryz.ntmps18
 go_wp2;clear hW1;go_loopw [3,4] (fun x i wr=>∃ k:Nat,k≤n∧i=.int .i64 (k:Int)∧x=.int .i64 (a3z R k:Int)∧wr=W1) (fun _ i _=>n - (intOf i).toNat)
 case atStart=>exact ⟨0,Nat.zero_le _,rfl,rfl,rfl⟩
 case round =>
  obtain ⟨k,hk,rfl,rfl,rfl⟩:=hrel;by_cases hlt:k<n
  · have hltz:(k:Int)<(n:Int):=by omega
    have hkl:k<R.length:=by rw [hnn.out];exact hlt
    obtain ⟨b,o,he,-,v,-,-,x2,-⟩:=hR1.out.at hkl;subst he;have hs:=a3T hkl;have hle:=a0d R k;obtain ⟨t0,ht0⟩:∃ x,a3z R k=x:=⟨_,rfl⟩;rw [ht0] at hs hle ⊢;clear ht0;cases hsk:R[k].skip with
    | true =>
     rw [hsk] at x2 hs;rw [if_pos rfl,Nat.add_zero] at hs;have hsH:=hid hs;clear hs;go_wp2;go_roundw
     case rel=>exact ⟨k+1,by omega,by go_num,by rw [hsH.out];rfl,trivial⟩
     case measure=>simp [intOf];omega
    | false =>
     rw [hsk] at x2 hs;rw [if_neg (by decide)] at hs;have hsH:=hid hs;clear hs;go_wp2;go_roundw
     case rel=>exact ⟨k+1,by omega,by go_num,by rw [hsH.out];go_num,trivial⟩
     case measure=>simp [intOf];omega
  · have hltz:¬ (k:Int)<(n:Int):=by omega
    obtain rfl:k=n:=by omega
    rw [hRR.out];go_wp2;go_ret;exact ⟨rfl,hB1.out⟩
set_option maxRecDepth 20000 in
theorem Tryz.infoTx:(Tryz.prog.info? 9).map (fun i=>(i.zero,i.size,i.bytes))=some (some (.string ⟨#[]⟩),1,16):=by kernel_rfl
abbrev OwnT (w:World) (B:Nat) (v:Value) (l:List Txt):Prop:=w.ownsRow B 9 1 v l.length (l.map fun t=>.string (e_ t))
theorem a8u (w:World) (x:Txt):Lst 1 a4F (w.alloc (.cells #[.string (e_ x)] 9)) (.slice (some ⟨w.heap.size,0,none⟩) 1 1) [x]:=
 ⟨_,1,rfl,Nat.le_refl _,fun h=>(by cases h),fun j hj=>⟨_,0,rfl,by rw [World.size_alloc];omega,by
  obtain rfl:j=0:=by simpa using hj
  exact c_ (b_ w _) rfl⟩⟩
theorem b5s {w:World} {ad:Addr} {n c:Nat} {l:List Txt} (h:Lst 1 a4F w (.slice (some ad) n c) l):∀ j u,(l.map fun t=>Value.string (e_ t))[j]?=some u→w.cell? (ad.add j)=some u:=by
 intro j u hu
 have hj:j<l.length:=by
  rcases Nat.lt_or_ge j l.length with h1 | h1
  · exact h1
  · rw [List.getElem?_eq_none (by rw [List.length_map];exact h1)] at hu;cases hu
 obtain ⟨b,o,e,_,x⟩:=h.at hj;injection e with e;subst e;have ea:(⟨b,o,none⟩:Addr).add j=⟨b,o+j * 1,none⟩:=by simp [Addr.add]
 rw [ea,← hu,List.getElem?_map,List.getElem?_eq_getElem hj];exact x
theorem OwnT.at {w:World} {B:Nat} {a:Option Addr} {n c:Nat} {l:List Txt} (h:OwnT w B (.slice a n c) l) {j:Nat} (hj:j<l.length):∃ g,a=some ⟨g,0,none⟩∧w.cell? ⟨g,j,none⟩=some (.string (e_ (l.getD j []))):=by
 obtain ⟨g,c',e',_⟩:=a2p h (show 0<l.length by omega);injection e' with e1 e2 e3;subst e1 e2;refine ⟨g,rfl,?_⟩;have ho:w.ownsRow B 9 1 (.slice (some ⟨g,0,none⟩) l.length c) l.length (l.map fun t=>.string (e_ t)):=h;have h1:=ho.cellAt j (by omega);rw [h1,List.getElem?_map,List.getElem?_eq_getElem hj,List.getD_eq_getElem?_getD,List.getElem?_eq_getElem hj];rfl
set_option maxRecDepth 20000 in
theorem a1n {ops:Array Oper} {rest:List Oper} {o:Oper} {a:Act} {Q:Exit→Act→World→Prop} (w:World) (hgd:o.guard=none) (s x:Operand)
 (ho:o.op=.call { callee:=.builtin .append,args:=#[s,x],argTypes:=#[23,23] })
 (B:Nat) (l1 l2:List Txt) (v vx:Value) (hs:a.eval s=v) (hx:a.eval x=vx) (hown:OwnT w B v l1) (hN:Lst 1 a4F w vx l2) (hl:(l1.length+l2.length) * 16≤140737488355328) (hB:B≤w.heap.size)
 (h:∀ v' w',OwnT w' B v' (l1++l2)→Below B w w'→wpList Tryz.prog ops Q rest (a.put o.dst v') w'):wpList Tryz.prog ops Q (o :: rest) a w:=by
 obtain ⟨i0,hi,hz0,hz1,hz2⟩:=info_parts Tryz.infoTx;obtain ⟨va,vc,rfl⟩:=hN.shape;cases va with
 | none =>
  have hl0:l2=[]:=by
   cases l2 with
   | nil=>rfl
   | cons x l=>obtain ⟨_,_,e,_⟩:=hN.at (j:=0) (Nat.succ_pos _);cases e
  subst hl0;obtain ⟨_,_,e,_,h0,_⟩:=hN;injection e with e1 _ e3;subst e1
  have:=h0 rfl
  rw [← e3] at this;subst this;refine wpList_append_own_none hgd s x 23 ho B 9 i0 1 Tryz.underlying23 hi v _ _ hs hown hx ?_;rw [List.append_nil] at h;exact h v w hown ((Below.refl _ w).mono hB)
 | some ad =>
  refine wpList_append_own w hgd s x 23 ho B 9 i0 (.string ⟨#[]⟩) 1 16 Tryz.underlying23 hi hz0 hz1 hz2 rfl (by decide) v _ _ hs hown ad l2.length vc (l2.map fun t=>.string (e_ t)) hx (by simp) (b5s hN) (fun u hu=>by
   obtain ⟨t,_,rfl⟩:=List.mem_map.1 hu;rfl) (by unfold maxLen;omega) hl hB ?_
  intro v' w' hO hg _;refine h v' w' ?_ (((Below.refl _ w).mono hB).grown hg hB (fun k hk=>(hown.lt k hk).1));unfold OwnT;rw [List.map_append,List.length_append];exact hO
end Go.Proofs.YtjgedijclkoemaaGreatDoor
namespace Go.Proofs.YtjgedijclkoemaaGreatDoor
open Go.RowKit Go.Maps Go.Sort
def Gm.all (g:Gm):Nat:=g.terms+g.nonts.length
end Go.Proofs.YtjgedijclkoemaaGreatDoor
namespace Go.Proofs.YtjgedijclkoemaaGreatDoor
open Go.ChangeShapes Go.WideShapes Go.ChangeAt Go.RowKit
theorem b2h (s:ByteArray):s=e_ s.data.toList:=by obtain ⟨⟨l⟩⟩:=s;rfl
set_option maxRecDepth 20000 in
theorem a1c {α:Type} [Inhabited α] {sz:Nat} {R:World→Nat→Nat→α→Prop} {t e:TypeId} (ht:Tryz.prog.underlying t=some (.slice e)) (hc:Tryz.prog.cellsOf e=sz) (hz:0<sz)
 {H:Type} {enc:TypeId×Value→H} {W:World}
 (hel:∀ (a1M:Nat) (cs:List Value) (x:DataW H×List MemPlace) (b o:Nat),DataW.trod enc Tryz.prog W 0 (fun _=>true) true a1M e cs=some x→cs.length=sz→(∀ j,j<sz→W.cell? ⟨b,o+j,none⟩=cs[j]?)→∃ y:α,R W b o y)
 {a1M:Nat} {cs:List Value} {x:DataW H×List MemPlace} (hf:DataW.trod enc Tryz.prog W 0 (fun _=>true) true a1M t cs=some x) :
 ∃ (l:List α) (v:Value),cs=[v]∧Lst sz R W v l∧l.length≤9223372036854775807:=by
 rcases Deep.open_slice ht hf with ⟨hcs,_⟩ | ⟨a,len,cap,m,n,D,Pl,hcs,_,hl,hm,hmm,_,hx⟩
 · exact ⟨[],_,hcs,Lst.nil _,by simp⟩
 · have hm':m=cap:=by simpa using hmm
   unfold maxLen at hm;rcases Nat.eq_zero_or_pos len with h0 | h0
   · subst h0
     exact ⟨[],_,hcs,⟨some a,cap,rfl,Nat.zero_le _,fun h=>(by cases h),fun j hj=>absurd hj (Nat.not_lt_zero _)⟩,by simp⟩
   have hpl:∃ b o,a=⟨b,o,none⟩:=by
    obtain ⟨cs',hc',ht'⟩:=hx 0 (by omega);rw [hc] at hc';have hcl:=(World.cells?_some hc').2.1;have hh:=(World.cells?_some hc').2.2 0 (by omega);rw [List.getElem?_eq_getElem (by omega)] at hh;obtain ⟨b,off,spot⟩:=a;have hspot:spot=none:=by simpa [Addr.add] using World.cell?_spot hh
    exact ⟨b,off,by rw [hspot]⟩
   obtain ⟨b,off,rfl⟩:=hpl
   have hone:∀ i,i<len→∃ y:α,b<W.heap.size∧R W b (off+i * sz) y:=by
    intro i hi;obtain ⟨cs',hc',ht'⟩:=hx i (by omega);rw [hc] at hc';have hcl:=(World.cells?_some hc').2.1;have hh:=(World.cells?_some hc').2.2;simp only [Go.WideShapes.add_plain] at hh;obtain ⟨y,hy⟩:=hel _ _ _ b (off+i * sz) ht' hcl hh;have h00:=hh 0 hz;rw [List.getElem?_eq_getElem (by omega)] at h00;exact ⟨y,World.block_lt_of_cell? _ _ h00,hy⟩
   obtain ⟨E,hE⟩:=Deep.choose_lt hone;refine ⟨(List.range len).map E,_,by rw [hcs],⟨some ⟨b,off,none⟩,cap,by simp,by simp;omega,fun h=>(by cases h),fun j hj=>?_⟩,by simp;omega⟩;have hj':j<len:=by simpa using hj
   refine ⟨b,off,rfl,(hE j hj').1,?_⟩;simp only [List.getElem_map,List.getElem_range];exact (hE j hj').2
instance:Inhabited Rl:=⟨⟨[],[],false⟩⟩
instance:Inhabited Pd:=⟨⟨0,[],0⟩⟩
set_option maxRecDepth 20000 in
theorem Tryz.cellsOfSt:Tryz.prog.cellsOf 9=1:=by kernel_rfl
set_option maxRecDepth 20000 in
theorem Tryz.cellsOfBo:Tryz.prog.cellsOf 4=1:=by kernel_rfl
set_option maxRecDepth 20000 in
theorem Tryz.cellsOfRl:Tryz.prog.cellsOf 62=3:=by kernel_rfl
set_option maxRecDepth 20000 in
theorem Tryz.cellsOfLv:Tryz.prog.cellsOf 143=2:=by kernel_rfl
set_option maxRecDepth 20000 in
theorem Tryz.cellsOfPd:Tryz.prog.cellsOf 64=3:=by kernel_rfl
set_option maxRecDepth 20000 in
theorem Tryz.cellsOfSR:Tryz.prog.cellsOf 22=1:=by kernel_rfl
set_option maxRecDepth 20000 in
theorem Tryz.cellsOfST:Tryz.prog.cellsOf 23=1:=by kernel_rfl
set_option maxRecDepth 20000 in
theorem Tryz.cellsOfSL:Tryz.prog.cellsOf 24=1:=by kernel_rfl
set_option maxRecDepth 20000 in
theorem Tryz.cellsOfSP:Tryz.prog.cellsOf 25=1:=by kernel_rfl
set_option maxRecDepth 20000 in
theorem Tryz.cellsOfGm:Tryz.prog.cellsOf 27=5:=by kernel_rfl
variable {H:Type} {enc:TypeId×Value→H} {W:World}
set_option maxRecDepth 20000 in
theorem c3E (a1M:Nat) (cs:List Value) (x:DataW H×List MemPlace) (b o:Nat) (hf:DataW.trod enc Tryz.prog W 0 (fun _=>true) true a1M 62 cs=some x) (hl:cs.length=3) (hc:∀ j,j<3→W.cell? ⟨b,o+j,none⟩=cs[j]?):∃ y:Rl,RuleAt W b o y:=by
 obtain ⟨y0,y1,y2,m,_,_,t0,t1,t2⟩:=Deep.trod_struct3 Tryz.underlying62 hf
 match cs,hl with
 | [c0,c1,c2],_ =>
  obtain ⟨s,e0,_,_⟩:=DataW.trod_string Tryz.underlying9 t0;obtain ⟨l,v,e1,hC⟩:=a8b t1;obtain ⟨k,e2,_⟩:=DataW.trod_bool Tryz.underlying4 t2;simp [Tryz.cellsOfSt,Tryz.cellsOfBo,Tryz.cellsOf60] at e0 e1 e2
  subst e0 e1 e2;refine ⟨⟨s.data.toList,l,k⟩,c1,?_,hc 1 (by omega),hc 2 (by omega),hC⟩;rw [← b2h];exact hc 0 (by omega)
set_option maxRecDepth 20000 in
theorem c3p (a1M:Nat) (cs:List Value) (x:DataW H×List MemPlace) (b o:Nat) (hf:DataW.trod enc Tryz.prog W 0 (fun _=>true) true a1M 9 cs=some x) (hl:cs.length=1) (hc:∀ j,j<1→W.cell? ⟨b,o+j,none⟩=cs[j]?):∃ y:Txt,a4F W b o y:=by
 obtain ⟨s,e0,_,_⟩:=DataW.trod_string Tryz.underlying9 hf;subst e0;refine ⟨s.data.toList,?_⟩;unfold a4F;rw [← b2h];exact hc 0 (by omega)
set_option maxRecDepth 20000 in
theorem c3W (a1M:Nat) (cs:List Value) (x:DataW H×List MemPlace) (b o:Nat) (hf:DataW.trod enc Tryz.prog W 0 (fun _=>true) true a1M 143 cs=some x) (hl:cs.length=2) (hc:∀ j,j<2→W.cell? ⟨b,o+j,none⟩=cs[j]?):∃ y:Int×Int,b1N W b o y:=by
 obtain ⟨y0,y1,m,_,_,t0,t1⟩:=trod_struct2 Tryz.underlying143 hf
 match cs,hl with
 | [c0,c1],_ =>
  obtain ⟨p,e0,_,_⟩:=DataW.trod_int Tryz.underlying3 t0;obtain ⟨q,e1,_,_⟩:=DataW.trod_int Tryz.underlying3 t1;simp [Tryz.cellsOf3] at e0 e1
  subst e0 e1;exact ⟨(p,q),hc 0 (by omega),hc 1 (by omega)⟩
set_option maxRecDepth 20000 in
theorem c3J (a1M:Nat) (cs:List Value) (x:DataW H×List MemPlace) (b o:Nat) (hf:DataW.trod enc Tryz.prog W 0 (fun _=>true) true a1M 64 cs=some x) (hl:cs.length=3) (hc:∀ j,j<3→W.cell? ⟨b,o+j,none⟩=cs[j]?):∃ y:Pd,ProdAt W b o y:=by
 obtain ⟨y0,y1,y2,m,_,_,t0,t1,t2⟩:=Deep.trod_struct3 Tryz.underlying64 hf
 match cs,hl with
 | [c0,c1,c2],_ =>
  obtain ⟨p,e0,_,_⟩:=DataW.trod_int Tryz.underlying3 t0;obtain ⟨l,v,e1,hC,_⟩:=a7w t1;obtain ⟨q,e2,_,_⟩:=DataW.trod_int Tryz.underlying3 t2;simp [Tryz.cellsOf3,Tryz.cellsOf41] at e0 e1 e2
  subst e0 e1 e2;exact ⟨⟨p,l,q⟩,c1,hc 0 (by omega),hc 1 (by omega),hc 2 (by omega),hC⟩
set_option maxRecDepth 20000 in
theorem a0S {v:Value} {d:DataW H} {q:List MemPlace} {base:Nat} (hv:Value.okWide Tryz.prog W .any base 27 v) (h:DataW.Trod enc Tryz.prog W 0 (fun _=>true) true 27 v d q) :
 ∃ (g:Gm) (rv nv lv pv:Value),v=.agg #[rv,nv,lv,pv,.int .i64 g.start]∧GmV W rv nv lv pv g:=by
 obtain ⟨cs,rfl,hcs⟩:=okWide_struct Tryz.underlying27 hv;obtain ⟨a1M,hf⟩:=h;rw [Tryz.cellsOfGm] at hcs;obtain ⟨xs,n,_,_,hl,hlen,hfs⟩:=DataW.trod_struct Tryz.underlying27 hf;have hce:Value.cells (.agg cs)=cs:=rfl;rw [hce] at hfs;obtain ⟨cl⟩:=cs
 match cl,hcs with
 | [c0,c1,c2,c3,c4],_ =>
  match xs,hlen with
  | [y0,y1,y2,y3,y4],_ =>
   have t0:DataW.trod enc Tryz.prog W 0 (fun _=>true) true n 22 [c0]=some y0:=by
    have h:=hfs 0 _ rfl;simpa [Tryz.cellsOfSR] using h
   have t1:DataW.trod enc Tryz.prog W 0 (fun _=>true) true n 23 [c1]=some y1:=by
    have h:=hfs 1 _ rfl;simpa [Tryz.cellsOfST] using h
   have t2:DataW.trod enc Tryz.prog W 0 (fun _=>true) true n 24 [c2]=some y2:=by
    have h:=hfs 2 _ rfl;simpa [Tryz.cellsOfSL] using h
   have t3:DataW.trod enc Tryz.prog W 0 (fun _=>true) true n 25 [c3]=some y3:=by
    have h:=hfs 3 _ rfl;simpa [Tryz.cellsOfSP] using h
   have t4:DataW.trod enc Tryz.prog W 0 (fun _=>true) true n 3 [c4]=some y4:=by
    have h:=hfs 4 _ rfl;simpa [Tryz.cellsOf3] using h
   obtain ⟨R,v0,e0,hR,_⟩:=a1c Tryz.underlying22 Tryz.cellsOfRl (by omega) c3E t0;obtain ⟨N,v1,e1,hN,_⟩:=a1c Tryz.underlying23 Tryz.cellsOfSt (by omega) c3p t1;obtain ⟨L,v2,e2,hL,_⟩:=a1c Tryz.underlying24 Tryz.cellsOfLv (by omega) c3W t2;obtain ⟨P,v3,e3,hP,_⟩:=a1c Tryz.underlying25 Tryz.cellsOfPd (by omega) c3J t3;obtain ⟨s,e4,_,_⟩:=DataW.trod_int Tryz.underlying3 t4;simp only [List.cons.injEq,and_true] at e0 e1 e2 e3 e4;subst e0 e1 e2 e3 e4;exact ⟨⟨R,N,L,P,s⟩,c0,c1,c2,c3,rfl,⟨hR,hN,hL,hP⟩⟩
end Go.Proofs.YtjgedijclkoemaaGreatDoor
namespace Go.Proofs.YtjgedijclkoemaaGreatDoor
open Go.RowKit Go.Maps Go.Sort
structure SoundG (g:Gm):Prop where
 levels:g.levels.length=g.terms+1
 start:0<g.nonts.length→(g.terms:Int)<g.start∧g.start≤(g.all:Int)
 names:∀ i j:Nat,1≤i→i<j→j≤g.all→g.name (i:Int)≠g.name (j:Int)
 prods:∀ p∈g.prods,(g.terms:Int)<p.left∧p.left≤(g.all:Int)∧0≤p.prec∧p.prec≤(g.terms:Int)∧p.right.length≤8∧∀ k∈p.right,1≤k∧k≤(g.all:Int)
structure BndG (g:Gm):Prop where
 rules:g.rules.length≤1000
 nonts:g.nonts.length≤1000
 levels:g.levels.length≤1000
 prods:g.prods.length≤1000
 re:∀ r∈g.rules,r.re.length≤1000
 right:∀ p∈g.prods,p.right.length≤1000
def ex1:Txt:=[116,111,107,101,110,32,97,32,47,120,47,59,32,115,58,32,97,32,115,32,124,32,59]
def ex2:Txt:=[115,58,32,98,59]
structure PrsOK (prs:Txt→Option Gm):Prop where
 yes:∀ (s:Txt) (g:Gm) (u:World),s.length≤1000000→prs s=some g→Calls Tryz.prog 22 #[.string (e_ s)] u fun e w'=>∃ rv nv lv pv,e=.returned (.tuple #[gmA rv nv lv pv g.start,.int .i64 0,.int .i64 0])∧GmV w' rv nv lv pv g∧Below u.heap.size u w'
 no:∀ (s:Txt) (u:World),s.length≤1000000→prs s=none→Calls Tryz.prog 22 #[.string (e_ s)] u fun e w'=>∃ (ra na la pa:Option Addr) (rc nc lc pc:Nat) (st n er:Int),e=.returned (.tuple #[gmA (.slice ra 0 rc) (.slice na 0 nc) (.slice la 0 lc) (.slice pa 0 pc) st,.int .i64 n,.int .i64 er])∧er≠0∧Below u.heap.size u w'
 ex:∃ g,prs ex1=some g∧g.start=2∧g.prods.length=2∧∀ h:0<g.prods.length,g.prods[0].right=[1,2]
 bad:∀ u:World,Calls Tryz.prog 22 #[.string (e_ ex2)] u fun e w'=>∃ (ra na la pa:Option Addr) (rc nc lc pc:Nat) (st:Int),e=.returned (.tuple #[gmA (.slice ra 0 rc) (.slice na 0 nc) (.slice la 0 lc) (.slice pa 0 pc) st,.int .i64 3,.int .i64 5])∧Below u.heap.size u w'
 bnd:∀ s g,prs s=some g→BndG g
theorem l_ {w:World} {b t:Nat} {x0 x1 x2 x3 x4:Value} (h:w.heap[b]?=some (.cells #[x0,x1,x2,x3,x4] t (0,0))):w.cell? ⟨b,0,none⟩=some x0∧w.cell? ⟨b,1,none⟩=some x1∧w.cell? ⟨b,2,none⟩=some x2∧w.cell? ⟨b,3,none⟩=some x3∧w.cell? ⟨b,4,none⟩=some x4:=
 ⟨c_ h rfl,c_ h rfl,c_ h rfl,c_ h rfl,c_ h rfl⟩
end Go.Proofs.YtjgedijclkoemaaGreatDoor
namespace Go.Proofs.YtjgedijclkoemaaGreatDoor
open Go.RowKit Go.Maps
structure Fits12 (g:Gm):Prop where
 rules:g.rules.length≤40
 nonts:g.nonts.length≤40
 levels:g.levels.length≤100
 prods:g.prods.length≤60
 rule:∀ j (h:j<g.rules.length),g.rules[j].re.length≤100∧g.rules[j].name.length≤100
 nont:∀ j (h:j<g.nonts.length),g.nonts[j].length≤100
 prod:∀ j (h:j<g.prods.length),g.prods[j].right.length≤30
end Go.Proofs.YtjgedijclkoemaaGreatDoor
namespace Go.Proofs.YtjgedijclkoemaaGreatDoor
open Go.RowKit Go.Maps Go.Sort
theorem b9g {w:World} {B n size g cap i:Nat} {e:TypeId} {xs:List Value} (h:w.ownsRow B e size (.slice (some ⟨g,0,none⟩) n cap) n xs) (x:Value):(w.setCell ⟨g,i,none⟩ x).ownsRow B e size (.slice (some ⟨g,0,none⟩) n cap) n (xs.set i x):=by
 refine ⟨by rw [List.length_set];exact h.1,?_⟩;rcases h.2 with ⟨h1,_⟩ | ⟨g',cap',cur,h1,h2,h3,h4,h5,h6,h7⟩
 · cases h1
 · have h8:=h1
   injection h1 with e1 _ e3;injection e1 with e1;injection e1 with e1 _ _;subst e1 e3;refine .inr ⟨g,cap,cur.setIfInBounds i x,rfl,h2,heap_setCell h3,h4,h5,by rw [Array.size_setIfInBounds];exact h6,?_⟩;rw [Array.toList_setIfInBounds,List.take_set,h7]
def OffP (F:Nat→Prop) (v:Value):Prop:=∀ a n c,v=.slice (some a) n c→0<n→¬ F a.block
theorem Cels.keptP {F:Nat→Prop} {w w':World} {v:Value} {l:List Cel} (h:Cels w v l) (hk:Kept F w w') (ho:OffP F v):Cels w' v l:=by
 obtain ⟨a,cap,rfl,hc,hn,hf,hat⟩:=h;refine ⟨a,cap,rfl,hc,hn,hf,fun j hj=>?_⟩;obtain ⟨b,o,rfl,hlt,h5⟩:=hat j hj;have hn:¬ F b:=ho _ _ _ rfl (by omega);obtain ⟨x0,x1,x2,x3,x4⟩:=h5;exact ⟨b,o,rfl,Nat.lt_of_lt_of_le hlt hk.size,hk.cell x0 hlt hn,hk.cell x1 hlt hn,hk.cell x2 hlt hn,hk.cell x3 hlt hn,hk.cell x4 hlt hn⟩
theorem b9h {F:Nat→Prop} {w:World} {B n size:Nat} {e:TypeId} {v:Value} {xs:List Value} (h:w.ownsRow B e size v n xs) (hF:∀ b,B≤b→¬ F b):OffP F v:=fun a m c e hn=>by
 rcases h.2 with ⟨rfl,_⟩ | ⟨g',cap',cur,rfl,h2,h3,_⟩
 · cases e
 · injection e with e1 _ _
   injection e1 with e1;subst e1;exact hF _ h2
theorem a2V {α:Type} {sz:Nat} (cs:α→List Value) (hc:∀ x,(cs x).length=sz):∀ (l:List α) (j i:Nat) (h:j<l.length),i<sz→(l.flatMap cs)[j * sz+i]?=(cs l[j])[i]?
 | [],j,i,h,_=>absurd h (Nat.not_lt_zero _)
 | a :: l,0,i,h,hi=>by
  rw [List.flatMap_cons,Nat.zero_mul,Nat.zero_add,List.getElem?_append_left (by rw [hc];exact hi)];rfl
 | a :: l,j+1,i,h,hi=>by
  have h1:j<l.length:=by simpa using h
  have e:(j+1) * sz+i=(cs a).length+(j * sz+i):=by rw [hc,Nat.succ_mul];omega
  rw [List.flatMap_cons,e,List.getElem?_append_right (Nat.le_add_right _ _),Nat.add_sub_cancel_left,a2V cs hc l j i h1 hi];rfl
theorem a4k {α:Type} {sz:Nat} {cs:α→List Value} (hc:∀ x,(cs x).length=sz) {w:World} {B:Nat} {e:TypeId} {v:Value} {l:List α} (_hz:0<sz) (h:w.ownsRow B e sz v l.length (l.flatMap cs)) :
 ∃ a cap,v=.slice a l.length cap∧l.length≤cap∧(a=none→cap=0)∧∀ j (h:j<l.length),∃ b o,a=some ⟨b,o,none⟩∧b<w.heap.size∧∀ i,i<sz→w.cell? ⟨b,o+j * sz+i,none⟩=(cs l[j])[i]?:=by
 have h':=h;rcases h.2 with ⟨rfl,h0⟩ | ⟨g,cap,cur,rfl,_,_,hc',_⟩
 · exact ⟨none,0,by rw [h0],by omega,fun _=>rfl,fun j hj=>by omega⟩
 · refine ⟨_,cap,rfl,hc',(fun h=>by cases h),fun j hj=>⟨g,0,rfl,(h'.lt g rfl).2,fun i hi=>?_⟩⟩
   rw [Nat.zero_add,← a2V cs hc l j i hj hi];refine h'.cellAt (j * sz+i) ?_;have h1:(j+1) * sz≤l.length * sz:=Nat.mul_le_mul_right _ hj;rw [Nat.succ_mul] at h1;omega
def csT (t:Txt):List Value:=[.string (e_ t)]
def csL (p:Int×Int):List Value:=[.int .i64 p.1,.int .i64 p.2]
def csI (n:Int):List Value:=[.int .i64 n]
theorem b8A {w:World} {B:Nat} {e:TypeId} {v:Value} {l:List Txt} (h:w.ownsRow B e 1 v l.length (l.flatMap csT)):Lst 1 a4F w v l:=by
 obtain ⟨a,cap,e,hc,hn,hat⟩:=a4k (sz:=1) (cs:=csT) (fun _=>rfl) (by decide) h;refine ⟨a,cap,e,hc,hn,fun j hj=>?_⟩;obtain ⟨b,o,e,hlt,hx⟩:=hat j hj;exact ⟨b,o,e,hlt,hx 0 (by decide)⟩
theorem b9L {w:World} {B:Nat} {e:TypeId} {v:Value} {l:List (Int×Int)} (h:w.ownsRow B e 2 v l.length (l.flatMap csL)):Lst 2 b1N w v l:=by
 obtain ⟨a,cap,e,hc,hn,hat⟩:=a4k (sz:=2) (cs:=csL) (fun _=>rfl) (by decide) h;refine ⟨a,cap,e,hc,hn,fun j hj=>?_⟩;obtain ⟨b,o,e,hlt,hx⟩:=hat j hj;exact ⟨b,o,e,hlt,hx 0 (by decide),hx 1 (by decide)⟩
theorem b6l {w:World} {B:Nat} {e:TypeId} {v:Value} {l:List Int} (h:w.ownsRow B e 1 v l.length (l.flatMap csI)):Nums w v l:=by
 obtain ⟨a,cap,e,hc,hn,hat⟩:=a4k (sz:=1) (cs:=csI) (fun _=>rfl) (by decide) h;refine ⟨a,cap,e,hc,hn,fun j hj=>?_⟩;obtain ⟨b,o,e,hlt,hx⟩:=hat j hj;have h0:=hx 0 (by decide);rw [Nat.mul_one] at h0;exact ⟨b,o,e,hlt,h0⟩
structure RestOf (R:Prop):Prop where
 out:R
theorem S_ {R G:Prop} (h:RestOf R→G) (pf:R):G:=h ⟨pf⟩
theorem OffP.mono {F G:Nat→Prop} {v:Value} (h:OffP F v) (hG:∀ b,G b→F b):OffP G v:=fun a n c e hn hg=>h a n c e hn (hG _ hg)
set_option maxRecDepth 20000 in
theorem b1V {ops:Array Oper} {rest:List Oper} {o:Oper} {a:Act} {Q:Exit→Act→World→Prop} (w:World) (hgd:o.guard=none) (s x:Operand) (t:TypeId)
 (ho:o.op=.call { callee:=.builtin .append,args:=#[s,x],argTypes:=#[t,t] }) (v vx:Value) (hs:a.eval s=v) (hx:a.eval x=vx) {v':Value} {w':World}
 (hr:(Builtin.append_ #[t,t] o.type #[v,vx]).run Tryz.prog w=.ok v' w') (h:wpList Tryz.prog ops Q rest (a.put o.dst v') w'):wpList Tryz.prog ops Q (o :: rest) a w:=by
 refine wpList_plain hgd fun K hK=>?_
 unfold Oper.wp execOp;simp only [ho,resolve,invoke,builtin,Sem.run_bind,Sem.run_pure,Result.andThen_ok,List.map_toArray,List.map_cons,List.map_nil,hs,hx,hr];exact hK _ _ h
set_option maxRecDepth 20000 in
theorem M_ {ops:Array Oper} {o:Oper} {a:Act} {w:World} {K:Act→World→Prop} {Q:Exit→Act→World→Prop} {E:Prop} (hgd:o.guard=none) (s x:Operand) (t:TypeId)
 (ho:o.op=.call { callee:=.builtin .append,args:=#[s,x],argTypes:=#[t,t] }) (v vx:Value) (hs:a.eval s=v) (hx:a.eval x=vx) {v':Value} {w':World}
 (hr:(Builtin.append_ #[t,t] o.type #[v,vx]).run Tryz.prog w=.ok v' w') (h:K (a.put o.dst v') w'):if Region.wanted o (yielded ops a.tmps)=true then Oper.wp Tryz.prog o a w K Q else E:=by
 have hw:Region.wanted o (yielded ops a.tmps)=true:=by simp [Region.wanted,hgd]
 rw [if_pos hw];unfold Oper.wp;simp [execOp,ho,resolve,invoke,builtin,hs,hx,hr,Result.andThen]
 exact h
theorem b9b {u:World} {b t:Nat} {x0 x1 x2 x3 x4:Value} (h:u.heap[b]?=some (.cells #[x0,x1,x2,x3,x4] t (0,0))) (v0 v1 v2 v3 v4:Value) :
 (u.cell? ⟨b,0,none⟩=some x0∧u.frozen? ⟨b,0,none⟩=false) ∧
 ((u.setCell ⟨b,0,none⟩ v0).cell? ⟨b,1,none⟩=some x1∧(u.setCell ⟨b,0,none⟩ v0).frozen? ⟨b,1,none⟩=false) ∧
 (((u.setCell ⟨b,0,none⟩ v0).setCell ⟨b,1,none⟩ v1).cell? ⟨b,2,none⟩=some x2∧((u.setCell ⟨b,0,none⟩ v0).setCell ⟨b,1,none⟩ v1).frozen? ⟨b,2,none⟩=false) ∧
 ((((u.setCell ⟨b,0,none⟩ v0).setCell ⟨b,1,none⟩ v1).setCell ⟨b,2,none⟩ v2).cell? ⟨b,3,none⟩=some x3∧(((u.setCell ⟨b,0,none⟩ v0).setCell ⟨b,1,none⟩ v1).setCell ⟨b,2,none⟩ v2).frozen? ⟨b,3,none⟩=false) ∧
 (((((u.setCell ⟨b,0,none⟩ v0).setCell ⟨b,1,none⟩ v1).setCell ⟨b,2,none⟩ v2).setCell ⟨b,3,none⟩ v3).cell? ⟨b,4,none⟩=some x4∧((((u.setCell ⟨b,0,none⟩ v0).setCell ⟨b,1,none⟩ v1).setCell ⟨b,2,none⟩ v2).setCell ⟨b,3,none⟩ v3).frozen? ⟨b,4,none⟩=false) ∧
 (((((u.setCell ⟨b,0,none⟩ v0).setCell ⟨b,1,none⟩ v1).setCell ⟨b,2,none⟩ v2).setCell ⟨b,3,none⟩ v3).setCell ⟨b,4,none⟩ v4).heap[b]?=some (.cells #[v0,v1,v2,v3,v4] t (0,0)):=by
 have h1:(u.setCell ⟨b,0,none⟩ v0).heap[b]?=some (.cells #[v0,x1,x2,x3,x4] t (0,0)):=heap_setCell h;have h2:((u.setCell ⟨b,0,none⟩ v0).setCell ⟨b,1,none⟩ v1).heap[b]?=some (.cells #[v0,v1,x2,x3,x4] t (0,0)):=heap_setCell h1;have h3:(((u.setCell ⟨b,0,none⟩ v0).setCell ⟨b,1,none⟩ v1).setCell ⟨b,2,none⟩ v2).heap[b]?=some (.cells #[v0,v1,v2,x3,x4] t (0,0)):=heap_setCell h2;have h4:((((u.setCell ⟨b,0,none⟩ v0).setCell ⟨b,1,none⟩ v1).setCell ⟨b,2,none⟩ v2).setCell ⟨b,3,none⟩ v3).heap[b]?=some (.cells #[v0,v1,v2,v3,x4] t (0,0)):=heap_setCell h3;exact ⟨⟨c_ h rfl,i_ h 0⟩,⟨c_ h1 rfl,i_ h1 1⟩,⟨c_ h2 rfl,i_ h2 2⟩,⟨c_ h3 rfl,i_ h3 3⟩,⟨c_ h4 rfl,i_ h4 4⟩,heap_setCell h4⟩
set_option maxRecDepth 20000 in
theorem Tryz.infRl:(Tryz.prog.info? 62).map (fun i=>(i.zero,i.size,i.bytes))=some (some (.agg #[.string ⟨#[]⟩,.slice none 0 0,.bool false]),3,48):=by kernel_rfl
set_option maxRecDepth 20000 in
theorem Tryz.infPd:(Tryz.prog.info? 64).map (fun i=>(i.zero,i.size,i.bytes))=some (some (.agg #[.int .i64 0,.slice none 0 0,.int .i64 0]),3,40):=by kernel_rfl
set_option maxRecDepth 20000 in
theorem Tryz.infLv:(Tryz.prog.info? 143).map (fun i=>(i.zero,i.size,i.bytes))=some (some (.agg #[.int .i64 0,.int .i64 0]),2,16):=by kernel_rfl
set_option maxRecDepth 20000 in
theorem Tryz.infIn:(Tryz.prog.info? 3).map (fun i=>(i.zero,i.size,i.bytes))=some (some (.int .i64 0),1,8):=by kernel_rfl
end Go.Proofs.YtjgedijclkoemaaGreatDoor
