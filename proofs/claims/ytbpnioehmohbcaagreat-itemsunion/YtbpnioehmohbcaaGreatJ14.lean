/- Grammars in memory: rules, nonterminals, levels, productions, wherever they lie. A grammar that is handed in, opened. Package gram's reader, as a machine: words, rules, names, what is left to be done. topiaryref12.Terms, Name; topiarylaw12.long. -/
import Derived.Test.YtbpnioehmohbcaaGreatJ13
import Derived.Deep.Strs
namespace Go.Proofs.YtbpnioehmohbcaaGreat
open Go.RowKit Go.Maps
def Lst {α:Type} (sz:Nat) (R:World → Nat → Nat → α → Prop) (w:World) (v:Value) (l:List α):Prop:=∃ a cap,v = .slice a l.length cap ∧ l.length ≤ cap ∧ (a = none → cap = 0) ∧ ∀ j (h:j < l.length),∃ b o,a = some ⟨b,o,none⟩ ∧ b < w.heap.size ∧ R w b (o + j * sz) l[j]
theorem Lst.keepR {α:Type} {sz:Nat} {R:World → Nat → Nat → α → Prop} {w u:World} {v:Value} {l:List α} (h:Lst sz R w v l) (hs:w.heap.size ≤ u.heap.size) (hR:∀ b o x,b < w.heap.size → R w b o x → R u b o x):Lst sz R u v l:=by
 obtain ⟨a,cap,e,hc,hn,hat⟩:=h
 refine ⟨a,cap,e,hc,hn,fun j hj => ?_⟩
 obtain ⟨b,o,e1,h1,h2⟩:=hat j hj
 exact ⟨b,o,e1,Nat.lt_of_lt_of_le h1 hs,hR _ _ _ h1 h2⟩
theorem Lst.shape {α:Type} {sz:Nat} {R:World → Nat → Nat → α → Prop} {w:World} {v:Value} {l:List α} (h:Lst sz R w v l):∃ a c,v = .slice a l.length c:=by obtain ⟨a,c,e,_⟩:=h;exact ⟨a,c,e⟩
theorem Lst.at {α:Type} {sz:Nat} {R:World → Nat → Nat → α → Prop} {w:World} {a:Option Addr} {n c:Nat} {l:List α} (h:Lst sz R w (.slice a n c) l) {j:Nat} (hj:j < l.length):∃ b o,a = some ⟨b,o,none⟩ ∧ b < w.heap.size ∧ R w b (o + j * sz) l[j]:=by
 obtain ⟨a',c',e,_,_,hat⟩:=h
 injection e with e1 _ _
 subst e1
 exact hat j hj
theorem Lst.nil {α:Type} {sz:Nat} {R:World → Nat → Nat → α → Prop} (w:World):Lst sz R w (.slice none 0 0) []:=⟨none,0,rfl,Nat.le_refl _,fun _ => rfl,fun _ hj => absurd hj (Nat.not_lt_zero _)⟩
structure Rl where
 name:Txt
 re:List Cel
 skip:Bool
structure Pd where
 left:Int
 right:List Int
 prec:Int
structure Gm where
 rules:List Rl
 nonts:List Txt
 levels:List (Int × Int)
 prods:List Pd
 start:Int
def RuleAt (w:World) (b o:Nat) (r:Rl):Prop:=∃ v,w.cell? ⟨b,o,none⟩ = some (.string (strT r.name)) ∧ w.cell? ⟨b,o + 1,none⟩ = some v ∧ w.cell? ⟨b,o + 2,none⟩ = some (.bool r.skip) ∧ Cels w v r.re
def TxtAt (w:World) (b o:Nat) (t:Txt):Prop:=w.cell? ⟨b,o,none⟩ = some (.string (strT t))
def LevAt (w:World) (b o:Nat) (p:Int × Int):Prop:=w.cell? ⟨b,o,none⟩ = some (.int .i64 p.1) ∧ w.cell? ⟨b,o + 1,none⟩ = some (.int .i64 p.2)
def ProdAt (w:World) (b o:Nat) (p:Pd):Prop:=∃ v,w.cell? ⟨b,o,none⟩ = some (.int .i64 p.left) ∧ w.cell? ⟨b,o + 1,none⟩ = some v ∧ w.cell? ⟨b,o + 2,none⟩ = some (.int .i64 p.prec) ∧ Nums w v p.right
theorem RuleAt.keep {w u:World} {b o:Nat} {r:Rl} (h:RuleAt w b o r) (hu:Below w.heap.size w u):RuleAt u b o r:=by
 obtain ⟨v,h0,h1,h2,h3⟩:=h
 exact ⟨v,keep_cell hu h0,keep_cell hu h1,keep_cell hu h2,h3.keep hu⟩
theorem ProdAt.keep {w u:World} {b o:Nat} {p:Pd} (h:ProdAt w b o p) (hu:Below w.heap.size w u):ProdAt u b o p:=by
 obtain ⟨v,h0,h1,h2,h3⟩:=h
 exact ⟨v,keep_cell hu h0,keep_cell hu h1,keep_cell hu h2,h3.keep hu⟩
structure GmV (w:World) (rv nv lv pv:Value) (g:Gm):Prop where
 rules:Lst 3 RuleAt w rv g.rules
 nonts:Lst 1 TxtAt w nv g.nonts
 levels:Lst 2 LevAt w lv g.levels
 prods:Lst 3 ProdAt w pv g.prods
theorem GmV.keep {w u:World} {rv nv lv pv:Value} {g:Gm} (h:GmV w rv nv lv pv g) (hu:Below w.heap.size w u):GmV u rv nv lv pv g:=
 ⟨h.rules.keepR hu.size fun _ _ _ _ h => h.keep hu,h.nonts.keepR hu.size fun _ _ _ _ h => keep_cell hu h,h.levels.keepR hu.size fun _ _ _ _ h => ⟨keep_cell hu h.1,keep_cell hu h.2⟩,h.prods.keepR hu.size fun _ _ _ _ h => h.keep hu⟩
def trmK (l:List Rl) (k:Nat):Nat:=((l.take k).filter fun r => !r.skip).length
theorem trmK_succ {l:List Rl} {k:Nat} (hk:k < l.length):trmK l (k + 1) = trmK l k + (if l[k].skip then 0 else 1):=by
 unfold trmK
 rw [List.take_add_one,List.getElem?_eq_getElem hk,Option.toList_some,List.filter_append,List.length_append]
 cases h:l[k].skip <;> simp [h]
theorem trmK_le (l:List Rl) (k:Nat):trmK l k ≤ k:=Nat.le_trans (List.length_filter_le _ _) (by rw [List.length_take];omega)
def Gm.terms (g:Gm):Nat:=trmK g.rules g.rules.length
def nmsK (l:List Rl) (k:Nat):List Txt:=[36] :: ((l.take k).filter fun r => !r.skip).map Rl.name
def Gm.names (g:Gm):List Txt:=nmsK g.rules g.rules.length ++ g.nonts
def Gm.name (g:Gm) (s:Int):Txt:=if s < 0 then [] else g.names.getD s.toNat []
end Go.Proofs.YtbpnioehmohbcaaGreat
namespace Go.Proofs.YtbpnioehmohbcaaGreat
open Go.ChangeShapes Go.WideShapes Go.ChangeAt Go.RowKit
theorem strT_of (s:ByteArray):s = strT s.data.toList:=by obtain ⟨⟨l⟩⟩:=s;rfl
set_option maxRecDepth 20000 in
theorem lst_of_trod {α:Type} [Inhabited α] {sz:Nat} {R:World → Nat → Nat → α → Prop} {t e:TypeId} (ht:Tryz.prog.underlying t = some (.slice e)) (hc:Tryz.prog.cellsOf e = sz) (hz:0 < sz)
 {H:Type} {enc:TypeId × Value → H} {W:World}
 (hel:∀ (fuel:Nat) (cs:List Value) (x:DataW H × List MemPlace) (b o:Nat),DataW.trod enc Tryz.prog W 0 (fun _ => true) true fuel e cs = some x → cs.length = sz → (∀ j,j < sz → W.cell? ⟨b,o + j,none⟩ = cs[j]?) → ∃ y:α,R W b o y)
 {fuel:Nat} {cs:List Value} {x:DataW H × List MemPlace} (hf:DataW.trod enc Tryz.prog W 0 (fun _ => true) true fuel t cs = some x) :
 ∃ (l:List α) (v:Value),cs = [v] ∧ Lst sz R W v l ∧ l.length ≤ 9223372036854775807:=by
 rcases Deep.open_slice ht hf with ⟨hcs,_⟩ | ⟨a,len,cap,m,n,D,Pl,hcs,_,hl,hm,hmm,_,hx⟩
 · exact ⟨[],_,hcs,Lst.nil _,by simp⟩
 · have hm':m = cap:=by simpa using hmm
   unfold maxLen at hm
   rcases Nat.eq_zero_or_pos len with h0 | h0
   · subst h0
     exact ⟨[],_,hcs,⟨some a,cap,rfl,Nat.zero_le _,fun h => (by cases h),fun j hj => absurd hj (Nat.not_lt_zero _)⟩,by simp⟩
   have hpl:∃ b o,a = ⟨b,o,none⟩:=by
    obtain ⟨cs',hc',ht'⟩:=hx 0 (by omega)
    rw [hc] at hc'
    have hcl:=(World.cells?_some hc').2.1
    have hh:=(World.cells?_some hc').2.2 0 (by omega)
    rw [List.getElem?_eq_getElem (by omega)] at hh
    obtain ⟨b,off,spot⟩:=a
    have hspot:spot = none:=by simpa [Addr.add] using World.cell?_spot hh
    exact ⟨b,off,by rw [hspot]⟩
   obtain ⟨b,off,rfl⟩:=hpl
   have hone:∀ i,i < len → ∃ y:α,b < W.heap.size ∧ R W b (off + i * sz) y:=by
    intro i hi
    obtain ⟨cs',hc',ht'⟩:=hx i (by omega)
    rw [hc] at hc'
    have hcl:=(World.cells?_some hc').2.1
    have hh:=(World.cells?_some hc').2.2
    simp only [Go.WideShapes.add_plain] at hh
    obtain ⟨y,hy⟩:=hel _ _ _ b (off + i * sz) ht' hcl hh
    have h00:=hh 0 hz
    rw [List.getElem?_eq_getElem (by omega)] at h00
    exact ⟨y,World.block_lt_of_cell? _ _ h00,hy⟩
   obtain ⟨E,hE⟩:=Deep.choose_lt hone
   refine ⟨(List.range len).map E,_,by rw [hcs],⟨some ⟨b,off,none⟩,cap,by simp,by simp;omega,fun h => (by cases h),fun j hj => ?_⟩,by simp;omega⟩
   have hj':j < len:=by simpa using hj
   refine ⟨b,off,rfl,(hE j hj').1,?_⟩
   simp only [List.getElem_map,List.getElem_range]
   exact (hE j hj').2
instance:Inhabited Rl:=⟨⟨[],[],false⟩⟩
instance:Inhabited Pd:=⟨⟨0,[],0⟩⟩
set_option maxRecDepth 20000 in
theorem Tryz.cellsOfSt:Tryz.prog.cellsOf 9 = 1:=by kernel_rfl
set_option maxRecDepth 20000 in
theorem Tryz.cellsOfBo:Tryz.prog.cellsOf 4 = 1:=by kernel_rfl
set_option maxRecDepth 20000 in
theorem Tryz.cellsOfRl:Tryz.prog.cellsOf 50 = 3:=by kernel_rfl
set_option maxRecDepth 20000 in
theorem Tryz.cellsOfLv:Tryz.prog.cellsOf 96 = 2:=by kernel_rfl
set_option maxRecDepth 20000 in
theorem Tryz.cellsOfPd:Tryz.prog.cellsOf 52 = 3:=by kernel_rfl
set_option maxRecDepth 20000 in
theorem Tryz.cellsOfSR:Tryz.prog.cellsOf 22 = 1:=by kernel_rfl
set_option maxRecDepth 20000 in
theorem Tryz.cellsOfST:Tryz.prog.cellsOf 23 = 1:=by kernel_rfl
set_option maxRecDepth 20000 in
theorem Tryz.cellsOfSL:Tryz.prog.cellsOf 24 = 1:=by kernel_rfl
set_option maxRecDepth 20000 in
theorem Tryz.cellsOfSP:Tryz.prog.cellsOf 25 = 1:=by kernel_rfl
set_option maxRecDepth 20000 in
theorem Tryz.cellsOfGm:Tryz.prog.cellsOf 27 = 5:=by kernel_rfl
variable {H:Type} {enc:TypeId × Value → H} {W:World}
set_option maxRecDepth 20000 in
theorem rl_el (fuel:Nat) (cs:List Value) (x:DataW H × List MemPlace) (b o:Nat) (hf:DataW.trod enc Tryz.prog W 0 (fun _ => true) true fuel 50 cs = some x) (hl:cs.length = 3) (hc:∀ j,j < 3 → W.cell? ⟨b,o + j,none⟩ = cs[j]?):∃ y:Rl,RuleAt W b o y:=by
 obtain ⟨y0,y1,y2,m,_,_,t0,t1,t2⟩:=Deep.trod_struct3 Tryz.underlying50 hf
 match cs,hl with
 | [c0,c1,c2],_ =>
  obtain ⟨s,e0,_,_⟩:=DataW.trod_string Tryz.underlying9 t0
  obtain ⟨l,v,e1,hC⟩:=cels_of_trod t1
  obtain ⟨k,e2,_⟩:=DataW.trod_bool Tryz.underlying4 t2
  simp [Tryz.cellsOfSt,Tryz.cellsOfBo,Tryz.cellsOf48] at e0 e1 e2
  subst e0 e1 e2
  refine ⟨⟨s.data.toList,l,k⟩,c1,?_,hc 1 (by omega),hc 2 (by omega),hC⟩
  rw [← strT_of]
  exact hc 0 (by omega)
set_option maxRecDepth 20000 in
theorem tx_el (fuel:Nat) (cs:List Value) (x:DataW H × List MemPlace) (b o:Nat) (hf:DataW.trod enc Tryz.prog W 0 (fun _ => true) true fuel 9 cs = some x) (hl:cs.length = 1) (hc:∀ j,j < 1 → W.cell? ⟨b,o + j,none⟩ = cs[j]?):∃ y:Txt,TxtAt W b o y:=by
 obtain ⟨s,e0,_,_⟩:=DataW.trod_string Tryz.underlying9 hf
 subst e0
 refine ⟨s.data.toList,?_⟩
 unfold TxtAt
 rw [← strT_of]
 exact hc 0 (by omega)
set_option maxRecDepth 20000 in
theorem lv_el (fuel:Nat) (cs:List Value) (x:DataW H × List MemPlace) (b o:Nat) (hf:DataW.trod enc Tryz.prog W 0 (fun _ => true) true fuel 96 cs = some x) (hl:cs.length = 2) (hc:∀ j,j < 2 → W.cell? ⟨b,o + j,none⟩ = cs[j]?):∃ y:Int × Int,LevAt W b o y:=by
 obtain ⟨y0,y1,m,_,_,t0,t1⟩:=trod_struct2 Tryz.underlying96 hf
 match cs,hl with
 | [c0,c1],_ =>
  obtain ⟨p,e0,_,_⟩:=DataW.trod_int Tryz.underlying3 t0
  obtain ⟨q,e1,_,_⟩:=DataW.trod_int Tryz.underlying3 t1
  simp [Tryz.cellsOf3] at e0 e1
  subst e0 e1
  exact ⟨(p,q),hc 0 (by omega),hc 1 (by omega)⟩
set_option maxRecDepth 20000 in
theorem pd_el (fuel:Nat) (cs:List Value) (x:DataW H × List MemPlace) (b o:Nat) (hf:DataW.trod enc Tryz.prog W 0 (fun _ => true) true fuel 52 cs = some x) (hl:cs.length = 3) (hc:∀ j,j < 3 → W.cell? ⟨b,o + j,none⟩ = cs[j]?):∃ y:Pd,ProdAt W b o y:=by
 obtain ⟨y0,y1,y2,m,_,_,t0,t1,t2⟩:=Deep.trod_struct3 Tryz.underlying52 hf
 match cs,hl with
 | [c0,c1,c2],_ =>
  obtain ⟨p,e0,_,_⟩:=DataW.trod_int Tryz.underlying3 t0
  obtain ⟨l,v,e1,hC,_⟩:=nums_of_trod t1
  obtain ⟨q,e2,_,_⟩:=DataW.trod_int Tryz.underlying3 t2
  simp [Tryz.cellsOf3,Tryz.cellsOf32] at e0 e1 e2
  subst e0 e1 e2
  exact ⟨⟨p,l,q⟩,c1,hc 0 (by omega),hc 1 (by omega),hc 2 (by omega),hC⟩
set_option maxRecDepth 20000 in
theorem open_gram {v:Value} {d:DataW H} {q:List MemPlace} {base:Nat} (hv:Value.okWide Tryz.prog W .any base 27 v) (h:DataW.Trod enc Tryz.prog W 0 (fun _ => true) true 27 v d q) :
 ∃ (g:Gm) (rv nv lv pv:Value),v = .agg #[rv,nv,lv,pv,.int .i64 g.start] ∧ GmV W rv nv lv pv g:=by
 obtain ⟨cs,rfl,hcs⟩:=okWide_struct Tryz.underlying27 hv
 obtain ⟨fuel,hf⟩:=h
 rw [Tryz.cellsOfGm] at hcs
 obtain ⟨xs,n,_,_,hl,hlen,hfs⟩:=DataW.trod_struct Tryz.underlying27 hf
 have hce:Value.cells (.agg cs) = cs:=rfl
 rw [hce] at hfs
 obtain ⟨cl⟩:=cs
 match cl,hcs with
 | [c0,c1,c2,c3,c4],_ =>
  match xs,hlen with
  | [y0,y1,y2,y3,y4],_ =>
   have t0:DataW.trod enc Tryz.prog W 0 (fun _ => true) true n 22 [c0] = some y0:=by
    have h:=hfs 0 _ rfl
    simpa [Tryz.cellsOfSR] using h
   have t1:DataW.trod enc Tryz.prog W 0 (fun _ => true) true n 23 [c1] = some y1:=by
    have h:=hfs 1 _ rfl
    simpa [Tryz.cellsOfST] using h
   have t2:DataW.trod enc Tryz.prog W 0 (fun _ => true) true n 24 [c2] = some y2:=by
    have h:=hfs 2 _ rfl
    simpa [Tryz.cellsOfSL] using h
   have t3:DataW.trod enc Tryz.prog W 0 (fun _ => true) true n 25 [c3] = some y3:=by
    have h:=hfs 3 _ rfl
    simpa [Tryz.cellsOfSP] using h
   have t4:DataW.trod enc Tryz.prog W 0 (fun _ => true) true n 3 [c4] = some y4:=by
    have h:=hfs 4 _ rfl
    simpa [Tryz.cellsOf3] using h
   obtain ⟨R,v0,e0,hR,_⟩:=lst_of_trod Tryz.underlying22 Tryz.cellsOfRl (by omega) rl_el t0
   obtain ⟨N,v1,e1,hN,_⟩:=lst_of_trod Tryz.underlying23 Tryz.cellsOfSt (by omega) tx_el t1
   obtain ⟨L,v2,e2,hL,_⟩:=lst_of_trod Tryz.underlying24 Tryz.cellsOfLv (by omega) lv_el t2
   obtain ⟨P,v3,e3,hP,_⟩:=lst_of_trod Tryz.underlying25 Tryz.cellsOfPd (by omega) pd_el t3
   obtain ⟨s,e4,_,_⟩:=DataW.trod_int Tryz.underlying3 t4
   simp only [List.cons.injEq,and_true] at e0 e1 e2 e3 e4
   subst e0 e1 e2 e3 e4
   exact ⟨⟨R,N,L,P,s⟩,c0,c1,c2,c3,rfl,⟨hR,hN,hL,hP⟩⟩
end Go.Proofs.YtbpnioehmohbcaaGreat
namespace Go.Proofs.YtbpnioehmohbcaaGreat
def kTok:Txt:=[116,111,107,101,110]
def kSkip:Txt:=[115,107,105,112]
def kStart:Txt:=[115,116,97,114,116]
def kLeft:Txt:=[108,101,102,116]
def kRight:Txt:=[114,105,103,104,116]
def kNone:Txt:=[110,111,110,101]
def sdN (t:Txt):Nat:=if t = kLeft then 1 else if t = kRight then 2 else if t = kNone then 3 else 0
def kwB (t:Txt):Bool:=decide (t = kTok) || decide (t = kSkip) || decide (t = kStart) || decide (0 < sdN t)
theorem sdN_le (t:Txt):sdN t ≤ 3:=by unfold sdN;split <;> (try split) <;> (try split) <;> omega
def rxA (t:Txt):List Cel × Int:=if 200 < t.length then ([],3) else match rowsP t with
 | some (r,[]) => if 60 < (post r).length then ([],3) else (post r,0)
 | _ => ([],1)
structure Stp where
 k:Nat
 w:Wd
 a:Nat
 b:Nat
structure RS where
 ws:List Wd
 rules:List Rl
 nonts:List Txt
 prods:List Nat
 levels:Nat
 starts:Nat
 skips:List Wd
 terms:List Wd
 nons:List Wd
 later:List Stp
 pl:Nat
 err:Int
def RS.hd (st:RS):Wd:=st.ws.headD (0,0,[])
def RS.give (st:RS) (p:Nat) (e:Int):RS:=if st.err = 0 then { st with pl:=p,err:=e } else st
def RS.take (st:RS) (may:Bool):RS:=if may then { st with ws:=st.ws.tail } else st.give st.hd.2.1 1
def RS.atN (st:RS):Bool:=decide (st.hd.1 = 1) && !kwB st.hd.2.2
def RS.atS (st:RS) (t:Txt):Bool:=decide (st.hd.1 = 3) && decide (st.hd.2.2 = t)
def RS.tkN (st:RS):RS:=st.take st.atN
def RS.tkS (st:RS) (t:Txt):RS:=st.take (st.atS t)
def RS.thn (st:RS) (s:Stp):RS:={ st with later:=st.later ++ [s] }
def RS.once (st:RS) (w:Wd):RS:=st.thn ⟨1,w,0,0⟩
def RS.fail (st:RS) (p:Nat) (e:Int):RS:=if e = 0 then st else st.give p e
def RS.cells (st:RS):RS:=(st.take (decide (st.hd.1 = 2))).fail st.hd.2.1 (rxA st.hd.2.2).2
def RS.full (st:RS) (b:Bool) (p:Nat):RS:=if b then st.give p 3 else st
def RS.addR (st:RS) (r:Rl):RS:={ st with rules:=st.rules ++ [r] }
def RS.addW (st:RS) (w:Wd) (sk:Bool):RS:=if sk then { st with skips:=st.skips ++ [w] } else { st with terms:=st.terms ++ [w] }
def RS.addN (st:RS) (t:Txt):RS:={ st with nonts:=st.nonts ++ [t] }
def RS.addO (st:RS) (w:Wd):RS:={ st with nons:=st.nons ++ [w] }
def RS.addP (st:RS):RS:={ st with prods:=st.prods ++ [st.nonts.length] }
def RS.rule2 (st:RS) (f w:Wd):RS:=
 ((((st.cells.tkS [59]).addR ⟨w.2.2,(rxA st.hd.2.2).1,decide (f.2.2 = kSkip)⟩).addW w (decide (f.2.2 = kSkip))).once w)
def RS.rule1 (st:RS):RS:=(st.take true).full (decide (st.rules.length = 16)) st.hd.2.1
def RS.rule (st:RS):RS:=st.rule1.tkN.rule2 st.hd st.rule1.hd
def RS.lvd (st:RS) (p s:Nat):RS:=st.tkN.thn ⟨2,st.hd,p,s⟩
def RS.lvds (p s:Nat):Nat → RS → RS
 | 0,st => st
 | n + 1,st => if st.atN then RS.lvds p s n (st.lvd p s) else st
def RS.lv1 (st:RS):RS:={ st with levels:=st.levels + 1 }
def RS.level (st:RS):RS:=let s3:=(st.lv1.take true).lvd (st.levels + 1) (sdN st.hd.2.2)
 (RS.lvds (st.levels + 1) (sdN st.hd.2.2) s3.ws.length s3).tkS [59]
def RS.st1 (st:RS):RS:={ st with starts:=st.starts + 1 }
def RS.start (st:RS):RS:=let s3:=(st.st1.take true).thn ⟨3,st.hd,if 1 < st.starts + 1 then 1 else 0,0⟩
 (s3.tkN.tkS [59]).thn ⟨4,s3.hd,0,0⟩
def RS.inA (st:RS):Bool:=st.atN || (st.atS [37] || (st.atS [124] || st.atS [59]))
def RS.symb (st:RS) (pr:Nat):RS:=st.tkN.thn ⟨5,st.hd,pr,0⟩
def RS.prec (st:RS) (pr:Nat):RS:=st.tkN.thn ⟨6,st.hd,pr,0⟩
def RS.syms (pr:Nat):Nat → Nat → RS → RS
 | 0,_,st => st
 | f + 1,n,st => if st.atN then RS.syms pr f (n + 1) ((st.full (decide (n = 8)) st.hd.2.1).symb pr) else st
def RS.pct (st:RS) (pr:Nat):RS:=if st.atS [37] then (st.tkS [37]).prec pr else st
def RS.alt1 (st:RS):RS:=(st.full (decide (st.prods.length = 40) && st.inA) st.hd.2.1).addP
def RS.alt (st:RS):RS:=(RS.syms st.prods.length st.alt1.ws.length 0 st.alt1).pct st.prods.length
def RS.alts:Nat → RS → RS
 | 0,st => st
 | f + 1,st => if st.atS [124] then RS.alts f (st.tkS [124]).alt else st
def RS.nont1 (st:RS):RS:=(((((st.tkN.full (decide (st.nonts.length = 16)) st.hd.2.1).tkS [58]).addN st.hd.2.2).addO st.hd).once st.hd).alt
def RS.nont (st:RS):RS:=(RS.alts st.nont1.ws.length st.nont1).tkS [59]
def RS.item (st:RS):RS:=if st.hd.1 ≠ 1 then st.give st.hd.2.1 1 else if st.hd.2.2 = kTok ∨ st.hd.2.2 = kSkip then st.rule else if st.hd.2.2 = kStart then st.start else if 0 < sdN st.hd.2.2 then st.level else st.nont
def RS.items:Nat → RS → RS
 | 0,st => st
 | f + 1,st => if st.err = 0 ∧ st.hd.1 ≠ 0 then RS.items f st.item else st
def RS.init (ws:List Wd):RS:=⟨ws,[],[],[],0,0,[],[],[],[],0,0⟩
abbrev Ow:=Nat × Nat × Nat
def ownA (o:Option Ow) (p t n:Nat):Ow:=match o with
 | none => (p,t,n)
 | some (a,t',n') => (if p < a then p else a,max t' t,max n' n)
def ownM (M:Txt → Option Ow) (w:Wd) (t n:Nat):Txt → Option Ow:=fun x => if x = w.2.2 then some (ownA (M x) w.2.1 t n) else M x
def numF (k:Nat):List Wd → List (Wd × Nat × Nat)
 | [] => []
 | w :: l => (w,k + 1,0) :: numF (k + 1) l
def numN (k:Nat):List Wd → List (Wd × Nat × Nat)
 | [] => []
 | w :: l => (w,0,k + 1) :: numN (k + 1) l
def RS.told (st:RS):List (Wd × Nat × Nat):=st.skips.map (fun w => (w,0,0)) ++ (numF 0 st.terms ++ numN st.terms.length st.nons)
def ownL (l:List (Wd × Nat × Nat)) (M:Txt → Option Ow):Txt → Option Ow:=l.foldl (fun M x => ownM M x.1 x.2.1 x.2.2) M
def RS.fnd (st:RS) (t:Txt):Ow:=(ownL st.told (fun _ => none) t).getD (0,0,0)
structure FS where
 levels:List (Int × Int)
 prods:List Pd
 start:Int
 pl:Nat
 err:Int
def modP (l:List Pd) (k:Nat) (f:Pd → Pd):List Pd:=match l[k]? with
 | some p => l.set k (f p)
 | none => l
def stpF (F:Txt → Ow) (s:Stp) (f:FS):FS × Int:=
 if s.k = 1 then (f,if (F s.w.2.2).1 < s.w.2.1 then 6 else 0)
 else if s.k = 2 then (if (F s.w.2.2).2.1 = 0 then (f,5) else if 0 < (f.levels.getD (F s.w.2.2).2.1 (0,0)).1 then (f,6) else ({ f with levels:=f.levels.set (F s.w.2.2).2.1 ((s.a:Int),(s.b:Int)) },0))
 else if s.k = 3 then (f,if s.a = 0 then 0 else 6)
 else if s.k = 4 then ({ f with start:=((F s.w.2.2).2.2:Int) },if (F s.w.2.2).2.2 = 0 then 5 else 0)
 else if s.k = 5 then (if 0 < (F s.w.2.2).2.1 then ({ f with prods:=modP f.prods s.a fun p => ⟨p.left,p.right ++ [((F s.w.2.2).2.1:Int)],((F s.w.2.2).2.1:Int)⟩ },0) else if 0 < (F s.w.2.2).2.2 then ({ f with prods:=modP f.prods s.a fun p => ⟨p.left,p.right ++ [((F s.w.2.2).2.2:Int)],p.prec⟩ },0) else (f,5))
 else if (F s.w.2.2).2.1 = 0 then (f,5) else ({ f with prods:=modP f.prods s.a fun p => ⟨p.left,p.right,((F s.w.2.2).2.1:Int)⟩ },0)
def FS.fail (f:FS) (p:Nat) (e:Int):FS:=if e = 0 then f else { f with pl:=p,err:=e }
def setL (F:Txt → Ow):List Stp → FS → FS
 | [],f => f
 | s :: l,f => if f.err ≠ 0 then f else setL F l ((stpF F s f).1.fail s.w.2.1 (stpF F s f).2)
def RS.trm (st:RS):Nat:=trmK st.rules st.rules.length
def RS.fs (st:RS):FS:=⟨List.replicate (st.trm + 1) (0,0),st.prods.map fun (l:Nat) => ⟨(l:Int) + (st.trm:Int),[],0⟩,if 0 < st.nonts.length then (st.trm:Int) + 1 else 0,st.pl,st.err⟩
def RS.settle (st:RS):FS:=setL st.fnd st.later st.fs
def wsE (s:Txt):List Wd:=(wrdA s).1 ++ [(0,s.length,[])]
def rdS (s:Txt):RS:=RS.items (wsE s).length (RS.init (wsE s))
def prsG (s:Txt):Gm:=⟨(rdS s).rules,(rdS s).nonts,(rdS s).settle.levels,(rdS s).settle.prods,(rdS s).settle.start⟩
def prsE (s:Txt):Nat × Int:=if (wrdA s).2.2 = 0 then ((rdS s).settle.pl,(rdS s).settle.err) else (wrdA s).2
def prs (s:Txt):Option Gm:=if (prsE s).2 = 0 then some (prsG s) else none
end Go.Proofs.YtbpnioehmohbcaaGreat
namespace Go.Proofs.YtbpnioehmohbcaaGreat
open Go.RowKit Go.Maps
abbrev gmA (rv nv lv pv:Value) (s:Int):Value:=.agg #[rv,nv,lv,pv,.int .i64 s]
set_option maxRecDepth 20000 in
set_option maxHeartbeats 1000000 in
theorem refTermsC (rv nv lv pv:Value) (g:Gm) (w:World) (h:GmV w rv nv lv pv g) (hl:g.rules.length ≤ 1000000) :
 Calls Tryz.prog 54 #[gmA rv nv lv pv g.start] w fun e w' => e = .returned (.int .i64 (g.terms:Int)) ∧ Below w.heap.size w w':=by
 have hR:=hid h.rules
 obtain ⟨a,c,rfl⟩:=h.rules.shape
 obtain ⟨na,nc,rfl⟩:=h.nonts.shape
 obtain ⟨la,lc,rfl⟩:=h.levels.shape
 obtain ⟨pa,pc,rfl⟩:=h.prods.shape
 unfold Gm.terms
 clear h
 obtain ⟨st,hst⟩:∃ x,g.start = x:=⟨_,rfl⟩
 rw [hst]
 generalize g.nonts.length = nn
 generalize g.levels.length = ll
 generalize g.prods.length = pp
 generalize g.rules = R at *
 obtain ⟨n,hnn⟩:∃ n,Hid (R.length = n):=⟨_,hid rfl⟩
 obtain ⟨RR,hRR⟩:∃ x,Hid (trmK R R.length = x):=⟨_,hid rfl⟩
 rw [hRR.out]
 rw [hnn.out] at hl hR hRR ⊢
 obtain ⟨W1,hW1⟩:∃ x,w.alloc (.cells #[.slice a n c,.slice na nn nc,.slice la ll lc,.slice pa pp pc,.int .i64 st] 27) = x:=⟨_,rfl⟩
 have hB1:Hid (Below w.heap.size w W1):=by rw [← hW1];exact hid (al' w _)
 have hk1:Hid (W1.heap[w.heap.size]? = some (.cells #[.slice a n c,.slice na nn nc,.slice la ll lc,.slice pa pp pc,.int .i64 st] 27)):=by rw [← hW1];exact hid (heap_new w _)
 have y0:W1.cell? ⟨w.heap.size,0,none⟩ = some (.slice a n c):=blk_cell hk1.out rfl
 have hR1:=hid (hR.out.keepR hB1.out.size fun _ _ _ _ h => h.keep hB1.out)
 clear hR hk1
 go_enter Tryz.func54,Tryz.ntmps54
 go_wp2
 clear hW1
 go_loopw [3,4] (fun x i wr => ∃ k:Nat,k ≤ n ∧ i = .int .i64 (k:Int) ∧ x = .int .i64 (trmK R k:Int) ∧ wr = W1) (fun _ i _ => n - (intOf i).toNat)
 case atStart => exact ⟨0,Nat.zero_le _,rfl,rfl,rfl⟩
 case round =>
  obtain ⟨k,hk,rfl,rfl,rfl⟩:=hrel
  by_cases hlt:k < n
  · have hltz:(k:Int) < (n:Int):=by omega
    have hkl:k < R.length:=by rw [hnn.out];exact hlt
    obtain ⟨b,o,he,-,v,-,-,x2,-⟩:=hR1.out.at hkl
    subst he
    have hs:=trmK_succ hkl
    have hle:=trmK_le R k
    obtain ⟨t0,ht0⟩:∃ x,trmK R k = x:=⟨_,rfl⟩
    rw [ht0] at hs hle ⊢
    clear ht0
    cases hsk:R[k].skip with
    | true =>
     rw [hsk] at x2 hs
     rw [if_pos rfl,Nat.add_zero] at hs
     have hsH:=hid hs
     clear hs
     go_wp2
     go_roundw
     case rel => exact ⟨k + 1,by omega,by go_num,by rw [hsH.out];rfl,trivial⟩
     case measure => simp [intOf];omega
    | false =>
     rw [hsk] at x2 hs
     rw [if_neg (by decide)] at hs
     have hsH:=hid hs
     clear hs
     go_wp2
     go_roundw
     case rel => exact ⟨k + 1,by omega,by go_num,by rw [hsH.out];go_num,trivial⟩
     case measure => simp [intOf];omega
  · have hltz:¬ (k:Int) < (n:Int):=by omega
    obtain rfl:k = n:=by omega
    rw [hRR.out]
    go_wp2
    go_ret
    exact ⟨rfl,hB1.out⟩
set_option maxRecDepth 20000 in
theorem Tryz.infoTx:(Tryz.prog.info? 9).map (fun i => (i.zero,i.size,i.bytes)) = some (some (.string ⟨#[]⟩),1,16):=by kernel_rfl
abbrev OwnT (w:World) (B:Nat) (v:Value) (l:List Txt):Prop:=w.ownsRow B 9 1 v l.length (l.map fun t => .string (strT t))
theorem txt_one (w:World) (x:Txt):Lst 1 TxtAt (w.alloc (.cells #[.string (strT x)] 9)) (.slice (some ⟨w.heap.size,0,none⟩) 1 1) [x]:=
 ⟨_,1,rfl,Nat.le_refl _,fun h => (by cases h),fun j hj => ⟨_,0,rfl,by rw [World.size_alloc];omega,by
  obtain rfl:j = 0:=by simpa using hj
  exact blk_cell (heap_new w _) rfl⟩⟩
theorem txt_news {w:World} {ad:Addr} {n c:Nat} {l:List Txt} (h:Lst 1 TxtAt w (.slice (some ad) n c) l):∀ j u,(l.map fun t => Value.string (strT t))[j]? = some u → w.cell? (ad.add j) = some u:=by
 intro j u hu
 have hj:j < l.length:=by
  rcases Nat.lt_or_ge j l.length with h1 | h1
  · exact h1
  · rw [List.getElem?_eq_none (by rw [List.length_map];exact h1)] at hu;cases hu
 obtain ⟨b,o,e,_,x⟩:=h.at hj
 injection e with e
 subst e
 have ea:(⟨b,o,none⟩:Addr).add j = ⟨b,o + j * 1,none⟩:=by simp [Addr.add]
 rw [ea,← hu,List.getElem?_map,List.getElem?_eq_getElem hj]
 exact x
theorem OwnT.at {w:World} {B:Nat} {a:Option Addr} {n c:Nat} {l:List Txt} (h:OwnT w B (.slice a n c) l) {j:Nat} (hj:j < l.length):∃ g,a = some ⟨g,0,none⟩ ∧ w.cell? ⟨g,j,none⟩ = some (.string (strT (l.getD j []))):=by
 obtain ⟨g,c',e',_⟩:=own_form3 h (show 0 < l.length by omega)
 injection e' with e1 e2 e3
 subst e1 e2
 refine ⟨g,rfl,?_⟩
 have ho:w.ownsRow B 9 1 (.slice (some ⟨g,0,none⟩) l.length c) l.length (l.map fun t => .string (strT t)):=h
 have h1:=ho.cellAt j (by omega)
 rw [h1,List.getElem?_map,List.getElem?_eq_getElem hj,List.getD_eq_getElem?_getD,List.getElem?_eq_getElem hj]
 rfl
set_option maxRecDepth 20000 in
theorem wp_appT {ops:Array Oper} {rest:List Oper} {o:Oper} {a:Act} {Q:Exit → Act → World → Prop} (w:World) (hgd:o.guard = none) (s x:Operand)
 (ho:o.op = .call { callee:=.builtin .append,args:=#[s,x],argTypes:=#[23,23] })
 (B:Nat) (l1 l2:List Txt) (v vx:Value) (hs:a.eval s = v) (hx:a.eval x = vx) (hown:OwnT w B v l1) (hN:Lst 1 TxtAt w vx l2) (hl:(l1.length + l2.length) * 16 ≤ 140737488355328) (hB:B ≤ w.heap.size)
 (h:∀ v' w',OwnT w' B v' (l1 ++ l2) → Below B w w' → wpList Tryz.prog ops Q rest (a.put o.dst v') w'):wpList Tryz.prog ops Q (o :: rest) a w:=by
 obtain ⟨i0,hi,hz0,hz1,hz2⟩:=info_parts Tryz.infoTx
 obtain ⟨va,vc,rfl⟩:=hN.shape
 cases va with
 | none =>
  have hl0:l2 = []:=by
   cases l2 with
   | nil => rfl
   | cons x l => obtain ⟨_,_,e,_⟩:=hN.at (j:=0) (Nat.succ_pos _);cases e
  subst hl0
  obtain ⟨_,_,e,_,h0,_⟩:=hN
  injection e with e1 _ e3
  subst e1
  have:=h0 rfl
  rw [← e3] at this
  subst this
  refine wpList_append_own_none hgd s x 23 ho B 9 i0 1 Tryz.underlying23 hi v _ _ hs hown hx ?_
  rw [List.append_nil] at h
  exact h v w hown ((Below.refl _ w).mono hB)
 | some ad =>
  refine wpList_append_own w hgd s x 23 ho B 9 i0 (.string ⟨#[]⟩) 1 16 Tryz.underlying23 hi hz0 hz1 hz2 rfl (by decide) v _ _ hs hown ad l2.length vc (l2.map fun t => .string (strT t)) hx (by simp) (txt_news hN) (fun u hu => by
   obtain ⟨t,_,rfl⟩:=List.mem_map.1 hu
   rfl) (by unfold maxLen;omega) hl hB ?_
  intro v' w' hO hg _
  refine h v' w' ?_ (((Below.refl _ w).mono hB).grown hg hB (fun k hk => (hown.lt k hk).1))
  unfold OwnT
  rw [List.map_append,List.length_append]
  exact hO
end Go.Proofs.YtbpnioehmohbcaaGreat
