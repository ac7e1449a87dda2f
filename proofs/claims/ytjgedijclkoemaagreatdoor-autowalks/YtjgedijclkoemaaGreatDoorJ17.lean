/- What the five laws of layer 17 share, part 17: no statement of its own. -/
import Derived.Test.YtjgedijclkoemaaGreatDoorJ16
namespace Go.Proofs.YtjgedijclkoemaaGreatDoor
abbrev It:=Int×Int
def a0e (g:Gm) (p:Int):List Int:=if p<0 then [g.start] else (g.prods.getD p.toNat ⟨0,[],0⟩).right
def itB (g:Gm) (x:It):Bool:=decide (-1≤x.1) && decide (x.1<(g.prods.length:Int)) && decide (0≤x.2) && decide (x.2≤((a0e g x.1).length:Int))
structure UsG (g:Gm):Prop where
 some:0<g.nonts.length
 snd:SndG g
structure RgtI (g:Gm) (l:List It):Prop where
 us:UsG g
 all:∀ x∈l,itB g x=true
def a0k (g:Gm) (x:It):Int:=(a0e g x.1).getD x.2.toNat 0
inductive CloG (g:Gm) (l:List It):It→Prop
 | own {x:It}:x∈l→CloG g l x
 | new {x:It} {k:Nat} (hk:k<g.prods.length):CloG g l x→a0k g x=g.prods[k].left→CloG g l ((k:Int),0)
def b8T (g:Gm) (p:Int):List It:=(List.range ((a0e g p).length+1)).map fun d:Nat=>(p,(d:Int))
def b5m (g:Gm) (n:Nat):List It:=(List.range n).flatMap fun k:Nat=>b8T g ((k:Int) - 1)
def b5n (g:Gm):List It:=b5m g (g.prods.length+1)
def ltI (x y:It):Prop:=x.1<y.1∨(x.1=y.1∧x.2<y.2)
theorem T_ {g:Gm} {x:It}:itB g x=true ↔ -1≤x.1∧x.1<(g.prods.length:Int)∧0≤x.2∧x.2≤((a0e g x.1).length:Int):=by
 unfold itB;simp only [Bool.and_eq_true,decide_eq_true_eq,and_assoc]
theorem a5W {g:Gm} {p:Int} {x:It}:x∈b8T g p↔x.1=p∧0≤x.2∧x.2≤((a0e g p).length:Int):=by
 unfold b8T;rw [List.mem_map]
 constructor
 · rintro ⟨d,hd,rfl⟩
   rw [List.mem_range] at hd;exact ⟨rfl,Int.natCast_nonneg _,by show (d:Int)≤_;omega⟩
 · rintro ⟨h1,h2,h3⟩
   refine ⟨x.2.toNat,List.mem_range.2 (by omega),?_⟩;rw [← h1,Int.toNat_of_nonneg h2]
theorem a4E (g:Gm) (n:Nat):b5m g (n+1)=b5m g n++b8T g ((n:Int) - 1):=by
 unfold b5m;rw [List.range_succ,List.flatMap_append,List.flatMap_singleton]
theorem b0N {g:Gm} {n:Nat} {x:It}:x∈b5m g n ↔ -1≤x.1∧x.1<(n:Int) - 1∧0≤x.2∧x.2≤((a0e g x.1).length:Int):=by
 unfold b5m;rw [List.mem_flatMap]
 constructor
 · rintro ⟨k,hk,hx⟩
   rw [List.mem_range] at hk;obtain ⟨h1,h2,h3⟩:=a5W.1 hx;exact ⟨by omega,by omega,h2,by rw [h1];exact h3⟩
 · rintro ⟨h1,h2,h3,h4⟩
   refine ⟨(x.1+1).toNat,List.mem_range.2 (by omega),a5W.2 ⟨?_,h3,?_⟩⟩
   · omega
   · have e:(((x.1+1).toNat:Nat):Int) - 1=x.1:=by omega
     rw [e];exact h4
theorem a6N {g:Gm} {x:It}:x∈b5n g↔itB g x=true:=by
 unfold b5n;rw [b0N,T_]
 constructor
 · rintro ⟨h1,h2,h3⟩;exact ⟨h1,by omega,h3⟩
 · rintro ⟨h1,h2,h3⟩;exact ⟨h1,by omega,h3⟩
theorem b8S (g:Gm) (p:Int):(b8T g p).Pairwise ltI:=by
 unfold b8T;rw [List.pairwise_map];exact List.pairwise_lt_range.imp fun h=>.inr ⟨rfl,by show ((_:Nat):Int)<((_:Nat):Int);omega⟩
theorem b5e (g:Gm):∀ n,(b5m g n).Pairwise ltI
 | 0=>List.Pairwise.nil
 | n+1=>by
  rw [a4E,List.pairwise_append];refine ⟨b5e g n,b8S g _,fun x hx y hy=>?_⟩;obtain ⟨-,h1,-⟩:=b0N.1 hx;obtain ⟨h2,-⟩:=a5W.1 hy;exact .inl (by rw [h2];exact h1)
theorem b5f (g:Gm):(b5n g).Pairwise ltI:=b5e g _
theorem a6m {x:It} (h:ltI x x):False:=by
 rcases h with h | ⟨-,h⟩ <;> omega
theorem b6C {x y:It} (h:ltI x y) (h':ltI y x):False:=by
 unfold ltI at h h';omega
theorem a5G:∀ {a b:List It},a.Pairwise ltI→b.Pairwise ltI→(∀ x,x∈a↔x∈b)→a=b
 | [],[],_,_,_=>rfl
 | [],y :: b,_,_,h=>absurd ((h y).2 (List.mem_cons_self ..)) (by simp)
 | x :: a,[],_,_,h=>absurd ((h x).1 (List.mem_cons_self ..)) (by simp)
 | x :: a,y :: b,ha,hb,h=>by
  obtain ⟨ha1,ha2⟩:=List.pairwise_cons.1 ha;obtain ⟨hb1,hb2⟩:=List.pairwise_cons.1 hb
  have exy:x=y:=by
   rcases List.mem_cons.1 ((h x).1 (List.mem_cons_self ..)) with e | hx
   · exact e
   · rcases List.mem_cons.1 ((h y).2 (List.mem_cons_self ..)) with e | hy
     · exact e.symm
     · exact (b6C (hb1 x hx) (ha1 y hy)).elim
  subst exy;refine congrArg (x :: ·) (a5G ha2 hb2 fun z=>⟨fun hz=>?_,fun hz=>?_⟩)
  · rcases List.mem_cons.1 ((h z).1 (List.mem_cons_of_mem _ hz)) with e | h2
    · subst e;exact (a6m (ha1 z hz)).elim
    · exact h2
  · rcases List.mem_cons.1 ((h z).2 (List.mem_cons_of_mem _ hz)) with e | h2
    · subst e;exact (a6m (hb1 z hz)).elim
    · exact h2
theorem a0f {g:Gm} {l:List It} (h:∀ x∈l,itB g x=true) {x:It} (hx:CloG g l x):itB g x=true:=by
 cases hx with
 | own hx=>exact h x hx
 | new hk _ _=>exact T_.2 ⟨by show (-1:Int)≤_;omega,by show ((_:Nat):Int)<_;omega,Int.le_refl _,Int.natCast_nonneg _⟩
theorem CloG.mono {g:Gm} {a b:List It} (h:∀ x∈a,CloG g b x) {x:It} (hx:CloG g a x):CloG g b x:=by
 induction hx with
 | own hx=>exact h _ hx
 | new hk _ he ih=>exact .new hk ih he
noncomputable def a3q (g:Gm) (l:List It):List It:=open Classical in (b5n g).filter fun x=>decide (CloG g l x)
open Classical in
theorem a1h {g:Gm} {l:List It} (h:∀ x∈l,itB g x=true) {x:It}:x∈a3q g l↔CloG g l x:=by
 unfold a3q;rw [List.mem_filter,decide_eq_true_eq,a6N];exact ⟨fun h=>h.2,fun hx=>⟨a0f h hx,hx⟩⟩
theorem b4K (g:Gm) (l:List It):(a3q g l).Pairwise ltI:=(b5f g).filter _
def ofI (g:Gm) (l:List It):List It:=(b5n g).filter fun x=>l.contains x
theorem b9s {g:Gm} {l:List It} {x:It}:x∈ofI g l↔itB g x=true∧x∈l:=by
 unfold ofI;rw [List.mem_filter,a6N,List.contains_iff_mem]
open Classical in
theorem b9t {g:Gm} {l out:List It} (h:∀ x,x∈out↔CloG g l x):ofI g out=a3q g l:=by
 unfold ofI a3q;refine List.filter_congr fun x _=>?_
 rw [Bool.eq_iff_iff,List.contains_iff_mem,decide_eq_true_eq,h x]
noncomputable def I_ (g:Gm) (l:List It) (sym:Int):List It:=open Classical in (b5n g).filter fun y=>decide (0<sym∧CloG g l (y.1,y.2 - 1)∧a0k g (y.1,y.2 - 1)=sym)
theorem c0c (g:Gm) (l:List It) (sym:Int):(I_ g l sym).Pairwise ltI:=(b5f g).filter _
def mvL (g:Gm) (l:List It) (sym:Int):List It:=(l.filter fun x=>decide (0<sym) && decide (a0k g x=sym)).map fun x=>(x.1,x.2+1)
theorem a8L {g:Gm} {l:List It} {sym:Int} {y:It}:y∈mvL g l sym↔0<sym∧(y.1,y.2 - 1)∈l∧a0k g (y.1,y.2 - 1)=sym:=by
 unfold mvL;rw [List.mem_map]
 constructor
 · rintro ⟨x,hx,rfl⟩
   rw [List.mem_filter,Bool.and_eq_true,decide_eq_true_eq,decide_eq_true_eq] at hx;have e:((x.1,x.2+1 - 1):It)=x:=by rw [Int.add_sub_cancel]
   show 0<sym∧(x.1,x.2+1 - 1)∈l∧a0k g (x.1,x.2+1 - 1)=sym
   rw [e];exact ⟨hx.2.1,hx.1,hx.2.2⟩
 · rintro ⟨h1,h2,h3⟩
   refine ⟨(y.1,y.2 - 1),List.mem_filter.2 ⟨h2,?_⟩,?_⟩
   · rw [Bool.and_eq_true,decide_eq_true_eq,decide_eq_true_eq]
     exact ⟨h1,h3⟩
   · show (y.1,y.2 - 1+1)=y
     rw [Int.sub_add_cancel]
theorem b6j {g:Gm} {x:It} {sym:Int} (hs:0<sym) (h:a0k g x=sym):x.2.toNat<(a0e g x.1).length:=by
 unfold a0k at h;rcases Nat.lt_or_ge x.2.toNat (a0e g x.1).length with h1 | h1
 · exact h1
 · rw [List.getD_eq_getElem?_getD,List.getElem?_eq_none h1,Option.getD_none] at h
   omega
open Classical in
theorem a9P {g:Gm} {l:List It} (h:∀ x∈l,itB g x=true) (sym:Int):ofI g (mvL g (a3q g l) sym)=I_ g l sym:=by
 unfold ofI I_;refine List.filter_congr fun x _=>?_
 rw [Bool.eq_iff_iff,List.contains_iff_mem,decide_eq_true_eq,a8L,a1h h]
theorem b3R {g:Gm} {x:It} {sym:Int} (hs:0<sym) (h:itB g x=true) (hn:a0k g x=sym):itB g (x.1,x.2+1)=true:=by
 obtain ⟨h1,h2,h3,h4⟩:=T_.1 h
 have:=b6j hs hn
 exact T_.2 ⟨h1,h2,by show 0≤x.2+1;omega,by show x.2+1≤((a0e g x.1).length:Int);omega⟩
theorem b0n {g:Gm} {l:List It} (h:∀ x∈l,itB g x=true) {sym:Int} {y:It}:y∈I_ g l sym↔y∈mvL g (a3q g l) sym:=by
 rw [← a9P h,b9s];refine ⟨fun h=>h.2,fun hy=>⟨?_,hy⟩⟩;obtain ⟨h1,h2,h3⟩:=a8L.1 hy
 have:=b3R h1 (a0f h ((a1h h).1 h2)) h3
 rw [Int.sub_add_cancel] at this;exact this
theorem a0X {g:Gm} (hg:SndG g) {p:Int} (hp:p<(g.prods.length:Int)):(a0e g p).length≤8:=by
 unfold a0e;by_cases h:p<0
 · rw [if_pos h];exact (by decide:1≤8)
 · rw [if_neg h,List.getD_eq_getElem?_getD,List.getElem?_eq_getElem (by omega),Option.getD_some]
   have:=hg.prod _ (List.getElem_mem (show p.toNat<g.prods.length by omega))
   unfold pdB at this;simp only [Bool.and_eq_true,decide_eq_true_eq] at this;exact this.1.1.1.2
theorem a6M {g:Gm} (hg:SndG g):∀ n,n≤g.prods.length+1→(b5m g n).length≤n * 9
 | 0,_=>Nat.le_refl _
 | n+1,h=>by
  have h1:=a6M hg n (by omega);have h2:=a0X hg (p:=(n:Int) - 1) (by omega);rw [a4E,List.length_append];unfold b8T;rw [List.length_map,List.length_range];omega
theorem b0O {g:Gm} (hg:SndG g):(b5n g).length≤369:=by
 have h1:=a6M hg (g.prods.length+1) (Nat.le_refl _)
 have:=hg.prods
 unfold b5n;omega
theorem b0C {g:Gm} (hg:SndG g) (l:List It):(a3q g l).length≤369:=Nat.le_trans (List.length_filter_le _ _) (b0O hg)
theorem a6y {g:Gm} (hg:SndG g) (l:List It) (sym:Int):(I_ g l sym).length≤369:=Nat.le_trans (List.length_filter_le _ _) (b0O hg)
end Go.Proofs.YtjgedijclkoemaaGreatDoor
namespace Go.Proofs.YtjgedijclkoemaaGreatDoor
open Go.RowKit Go.Maps Go.Sort
set_option maxRecDepth 20000 in
theorem b0j:(Tryz.prog.info? 49).map (fun i=>(i.zero,i.size,i.bytes))=some (some (.agg #[.int .i64 0,.int .i64 0]),2,16):=by kernel_rfl
def itC (p:It):List Value:=[.int .i64 p.1,.int .i64 p.2]
def z_ (l:List It):List Value:=l.flatMap itC
theorem a1e (l m:List It):z_ (l++m)=z_ l++z_ m:=by unfold z_;rw [List.flatMap_append]
theorem a2b (l:List It):(z_ l).length=l.length * 2:=by
 induction l with
 | nil=>rfl
 | cons a l ih =>
  show (itC a++z_ l).length=_
  rw [List.length_append,ih,List.length_cons]
  show 2+_=_
  omega
theorem a1K:∀ (l:List It) (j:Nat) (hj:j<l.length),(z_ l)[j * 2]?=some (.int .i64 l[j].1)∧(z_ l)[j * 2+1]?=some (.int .i64 l[j].2)
 | [],_,hj=>absurd hj (Nat.not_lt_zero _)
 | a :: l,0,_=>⟨rfl,rfl⟩
 | a :: l,j+1,hj=>by
  have h:=a1K l j (by simpa using hj);have e:z_ (a :: l)=itC a++z_ l:=rfl;have hl:(itC a).length=2:=rfl;rw [e,List.getElem?_append_right (by rw [hl];omega),List.getElem?_append_right (by rw [hl];omega),hl,show (j+1) * 2 - 2=j * 2 by omega,show (j+1) * 2+1 - 2=j * 2+1 by omega];exact h
theorem a2a (l:List It):∀ u∈z_ l,u.oneCell'=true:=fun u hu=>by
 unfold z_ at hu;rw [List.mem_flatMap] at hu;obtain ⟨p,_,hp⟩:=hu;unfold itC at hp;simp only [List.mem_cons,List.not_mem_nil,or_false] at hp;rcases hp with rfl | rfl <;> rfl
abbrev Its (w:World) (v:Value) (l:List It):Prop:=Lst 2 b1N w v l
abbrev OwnIt (w:World) (B:Nat) (v:Value) (l:List It):Prop:=w.ownsRow B 49 2 v l.length (z_ l)
theorem Its.of_row {w:World} {B:Nat} {v:Value} {l:List It} (h:OwnIt w B v l):Its w v l:=by
 have h':=h;rcases h.2 with ⟨rfl,h0⟩ | ⟨g,cap,cur,rfl,_,_,hc,_⟩
 · rw [List.length_eq_zero_iff.1 h0]
   exact Lst.nil w
 · have hlt:=(h'.lt g rfl).2
   have hcells:=h'.cells (g:=g) rfl;refine ⟨_,_,rfl,hc,fun h=>(by cases h),fun j hj=>⟨g,0,rfl,hlt,?_⟩⟩;obtain ⟨h1,h2⟩:=a1K l j hj;have e1:=hcells _ _ h1;have e2:=hcells _ _ h2;refine ⟨?_,?_⟩
   · by_cases h0:j=0
     · subst h0;simpa [Addr.add] using e1
     · simpa [Addr.add,show j * 2≠0 by omega] using e1
   · simpa [Addr.add] using e2
theorem Its.keep {w u:World} {v:Value} {l:List It} (h:Its w v l) (hu:Below w.heap.size w u):Its u v l:=h.keepR hu.size fun _ _ _ _ h=>⟨d_ hu h.1,d_ hu h.2⟩
theorem Its.parts {w:World} {v:Value} {l:List It} (h:Its w v l):(v=.slice none 0 0∧l=[])∨∃ ad cap,v=.slice (some ad) l.length cap∧∀ j u,(z_ l)[j]?=some u→w.cell? (ad.add j)=some u:=by
 obtain ⟨a,cap,rfl,hc,hn,hat⟩:=h;cases a with
 | none =>
  cases l with
  | nil=>rw [hn rfl];exact .inl ⟨rfl,rfl⟩
  | cons x l =>
   obtain ⟨b,o,e,_⟩:=hat 0 (Nat.zero_lt_succ _);cases e
 | some ad =>
  refine .inr ⟨ad,cap,rfl,fun k u hk=>?_⟩
  have hkl:k<l.length * 2:=by
   have:=(List.getElem?_eq_some_iff.1 hk).1
   rw [a2b] at this;exact this
  have hj:k / 2<l.length:=by omega
  obtain ⟨b,o,e,-,h1,h2⟩:=hat (k / 2) hj;injection e with e;subst e;obtain ⟨c1,c2⟩:=a1K l (k / 2) hj;have ea:∀ i,(⟨b,o,none⟩:Addr).add i=⟨b,o+i,none⟩:=fun i=>by simp [Addr.add]
  rw [ea];rcases Nat.mod_two_eq_zero_or_one k with hm | hm
  · have hk2:k=k / 2 * 2:=by omega
    rw [hk2,c1] at hk;rw [hk2,← hk];exact h1
  · have hk2:k=k / 2 * 2+1:=by omega
    rw [hk2,c2] at hk;rw [hk2,← hk,← Nat.add_assoc];exact h2
set_option maxRecDepth 20000 in
theorem a3R {ops:Array Oper} {rest:List Oper} {o:Oper} {a:Act} {Q:Exit→Act→World→Prop} (w:World) (hgd:o.guard=none) (s x:Operand)
 (ho:o.op=.call { callee:=.builtin .append,args:=#[s,x],argTypes:=#[40,40] })
 (B:Nat) (l1 l2:List It) (v vx:Value) (hs:a.eval s=v) (hx:a.eval x=vx) (hown:OwnIt w B v l1) (hN:Its w vx l2) (hl:l1.length+l2.length≤4000000) (hB:B≤w.heap.size)
 (h:∀ v' w',OwnIt w' B v' (l1++l2)→Below B w w'→wpList Tryz.prog ops Q rest (a.put o.dst v') w'):wpList Tryz.prog ops Q (o :: rest) a w:=by
 obtain ⟨i0,hi,hz0,hz1,hz2⟩:=info_parts b0j;rcases hN.parts with ⟨rfl,rfl⟩ | ⟨ad,cap,rfl,hnews⟩
 · refine wpList_append_own_none hgd s x 40 ho B 49 i0 2 Tryz.underlying40 hi v _ _ hs hown hx ?_
   rw [List.append_nil] at h;exact h v w hown ((Below.refl _ w).mono hB)
 · refine wpList_append_own w hgd s x 40 ho B 49 i0 (.agg #[.int .i64 0,.int .i64 0]) 2 16 Tryz.underlying40 hi hz0 hz1 hz2 rfl (by decide) v _ _ hs hown ad l2.length cap (z_ l2) hx (a2b l2) hnews (a2a l2) (by unfold maxLen;omega) (by omega) hB ?_
   intro v' w' hO hg _;refine h v' w' ?_ (((Below.refl _ w).mono hB).grown hg hB (fun k hk=>(hown.lt k hk).1));unfold OwnIt;rw [a1e,List.length_append];exact hO
theorem OwnIt.lit1 (w:World) (a b:Int):OwnIt (w.alloc (.cells #[.int .i64 a,.int .i64 b] 49)) w.heap.size (.slice (some ⟨w.heap.size,0,none⟩) 1 1) [(a,b)]:=
 World.ownsRow_lit w #[.int .i64 a,.int .i64 b] 1 (Nat.le_refl _) (by unfold maxLen;omega) rfl
theorem Its.lit1 (w:World) (a b:Int):Its (w.alloc (.cells #[.int .i64 a,.int .i64 b] 49)) (.slice (some ⟨w.heap.size,0,none⟩) 1 1) [(a,b)]:=Its.of_row (OwnIt.lit1 w a b)
theorem OwnIt.nil0 (w:World) (B:Nat):OwnIt w B (.slice none 0 0) []:=World.ownsRow_nil _ _ _ _
abbrev itV (x:It):Value:=.agg #[.int .i64 x.1,.int .i64 x.2]
set_option maxRecDepth 20000 in
theorem b3Y : (Tryz.prog.fieldsOf 49).toList = [{ name := "Prod", type := 3, offset := 0, embedded := false, tag := "", pkgPath := "", byteOffset := 0 }, { name := "Dot", type := 3, offset := 1, embedded := false, tag := "", pkgPath := "", byteOffset := 8 }] := by kernel_rfl
set_option maxRecDepth 20000 in
theorem c0p (a b c d:Int) (w:World):(binOp .eql 49 (.agg #[.int .i64 a,.int .i64 b]) (.agg #[.int .i64 c,.int .i64 d])).run Tryz.prog w=.ok (.bool (decide (((a,b):It)=(c,d)))) w:=by
 have p0:∀ x0 x1:Int,(part 3 #[.int .i64 x0,.int .i64 x1] 0).run Tryz.prog w=.ok (.int .i64 x0) w:=fun _ _=>by simp [part,isAgg,run_underlying Tryz.underlying3]
 have p1:∀ x0 x1:Int,(part 3 #[.int .i64 x0,.int .i64 x1] 1).run Tryz.prog w=.ok (.int .i64 x1) w:=fun _ _=>by simp [part,isAgg,run_underlying Tryz.underlying3]
 have hi:=fun d x y=>run_equalIn_int (P:=Tryz.prog) w d 3 .i64 .i64 x y Tryz.underlying3
 rw [run_eql_struct,run_equalIn_struct w 9999 _ _ _ (by kernel_rfl) (by kernel_rfl),b3Y];by_cases h0:a=c
 · by_cases h1:b=d
   · subst h0 h1;simp [Op.eqFields,p0,p1,hi]
   · subst h0;simp [Op.eqFields,p0,p1,hi,h1]
 · simp [Op.eqFields,p0,hi,h0]
set_option maxRecDepth 20000 in
theorem b9x (a b c d:Int) (w:World):(binOp .neq 49 (.agg #[.int .i64 a,.int .i64 b]) (.agg #[.int .i64 c,.int .i64 d])).run Tryz.prog w=.ok (.bool (!decide (((a,b):It)=(c,d)))) w:=by
 have p0:∀ x0 x1:Int,(part 3 #[.int .i64 x0,.int .i64 x1] 0).run Tryz.prog w=.ok (.int .i64 x0) w:=fun _ _=>by simp [part,isAgg,run_underlying Tryz.underlying3]
 have p1:∀ x0 x1:Int,(part 3 #[.int .i64 x0,.int .i64 x1] 1).run Tryz.prog w=.ok (.int .i64 x1) w:=fun _ _=>by simp [part,isAgg,run_underlying Tryz.underlying3]
 have hi:=fun d x y=>run_equalIn_int (P:=Tryz.prog) w d 3 .i64 .i64 x y Tryz.underlying3
 rw [run_neq_struct,run_equalIn_struct w 9999 _ _ _ (by kernel_rfl) (by kernel_rfl),b3Y];by_cases h0:a=c
 · by_cases h1:b=d
   · subst h0 h1;simp [Op.eqFields,p0,p1,hi]
   · subst h0;simp [Op.eqFields,p0,p1,hi,h1]
 · simp [Op.eqFields,p0,hi,h0]
theorem w_ {w:World} {b t:Nat} {x0 x1:Value} (h:w.heap[b]?=some (.cells #[x0,x1] t (0,0))):w.cell? ⟨b,0,none⟩=some x0∧w.cell? ⟨b,1,none⟩=some x1:=⟨c_ h rfl,c_ h rfl⟩
theorem b1x {l:List It} {x:It} {k:Nat} (hk:k<l.length) (h:(l.take k).contains x=false):(l.take (k+1)).contains x=decide (l[k]=x):=by
 rw [List.take_succ_eq_append_getElem hk,List.contains_append,h,Bool.false_or,List.contains_cons,List.contains_nil,Bool.or_false,Bool.eq_iff_iff,beq_iff_eq,decide_eq_true_eq];exact eq_comm
theorem b3Q {l:List It} {x:It} {k:Nat} (h:(l.take k).contains x=true):l.contains x=true:=by
 rw [List.contains_iff_mem] at h ⊢;exact List.mem_of_mem_take h
set_option maxRecDepth 20000 in
set_option maxHeartbeats 4000000 in
theorem b2M (v:Value) (l:List It) (x:It) (w:World) (hl:l.length≤1000000) (hA:Its w v l) :
 Calls Tryz.prog 75 #[v,itV x] w fun e w'=>e=.returned (.bool (l.contains x))∧Below w.heap.size w w':=by
 obtain ⟨a,c,rfl,-,-,hat⟩:=hA;have hst:=fun k (hk:k<l.length)=>b1x (x:=x) hk
 obtain ⟨x1,x2⟩:=x;have hB1:=al' w (.cells #[.int .i64 x1,.int .i64 x2] 49);have k1:=b_ w (.cells #[.int .i64 x1,.int .i64 x2] 49);obtain ⟨W,hW⟩:∃ x,w.alloc (.cells #[.int .i64 x1,.int .i64 x2] 49)=x:=⟨_,rfl⟩;rw [hW] at hB1 k1;have hk1:=hid (fun u (hu:Below W.heap.size W u)=>w_ (g_ k1 hu))
 have hat:=hid (fun u (hu:Below W.heap.size W u) k (hk:k<l.length)=>by
  obtain ⟨b,o,e,-,hc⟩:=hat k hk;exact (⟨b,o,e,d_ (a_ hB1 hu) hc.1,d_ (a_ hB1 hu) hc.2⟩:∃ b o,a=some ⟨b,o,none⟩∧u.cell? ⟨b,o+k * 2,none⟩=some (.int .i64 l[k].1)∧u.cell? ⟨b,o+k * 2+1,none⟩=some (.int .i64 l[k].2)))
 have hst:=hid (fun k (hk:k<l.length)=>hst k hk);have h0:Hid ((l.take 0).contains (x1,x2)=false):=hid rfl;have hye:=hid (fun k=>b3Q (l:=l) (x:=(x1,x2)) (k:=k));have hfin:Hid ((l.take l.length).contains (x1,x2)=l.contains (x1,x2)):=hid (by rw [List.take_length]);have hB:=hid hB1;have b0:=hid (Below.refl W.heap.size W);obtain ⟨n,hn⟩:∃ n,Hid (l.length=n):=⟨_,hid rfl⟩;obtain ⟨R,hR⟩:∃ r,Hid (l.contains (x1,x2)=r):=⟨_,hid rfl⟩;rw [hR.out];rw [hn.out] at hl ⊢;clear hB1 k1;go_enter Tryz.func75,Tryz.ntmps75
 go_wp2;clear hW;go_loopw [5] (fun i wr=>∃ k:Nat,k≤n∧i=.int .i64 (k:Int)∧Hid ((l.take k).contains (x1,x2)=false)∧Hid (Below W.heap.size W wr)) (fun i _=>n - (intOf i).toNat)
 case atStart=>exact ⟨0,Nat.zero_le _,rfl,h0,b0⟩
 case round =>
  clear h0 b0;obtain ⟨k,hk,rfl,hG,hbl⟩:=hrel;obtain ⟨y0,y1⟩:=hk1.out wr hbl.out;by_cases hlt:k<n
  · have hltz:(k:Int)<(n:Int):=by omega
    have hkl:k<l.length:=by rw [hn.out];exact hlt
    obtain ⟨b,o,e,z0,z1⟩:=hat.out wr hbl.out k hkl;subst e;have hs:=hst.out k hkl hG.out;have hq0:=c0p l[k].1 l[k].2 x1 x2;have hye:=hid (hye.out (k+1));clear hG;cases hd:decide (l[k]=(x1,x2)) with
    | true =>
     rw [hd] at hs;have hq:∀ w,(binOp .eql 49 (.agg #[.int .i64 l[k].1,.int .i64 l[k].2]) (.agg #[.int .i64 x1,.int .i64 x2])).run Tryz.prog w=.ok (.bool true) w:=fun w=>by rw [hq0,show (((l[k].1,l[k].2):It))=l[k] from rfl,hd]
     have hr:R=true:=by rw [← hR.out];exact hye.out hs
     subst hr;clear hd hs hye hat hst hq0;generalize l[k].1=a1 at *;generalize l[k].2=a2 at *;go_wp2_with fail
     go_quiet (fail)
     go_wp2;go_ret;exact ⟨rfl,a_ hB.out (by first | exact hbl.out | exact q_ hbl.out | exact q_ (q_ hbl.out))⟩
    | false =>
     rw [hd] at hs;have hq:∀ w,(binOp .eql 49 (.agg #[.int .i64 l[k].1,.int .i64 l[k].2]) (.agg #[.int .i64 x1,.int .i64 x2])).run Tryz.prog w=.ok (.bool false) w:=fun w=>by rw [hq0,show (((l[k].1,l[k].2):It))=l[k] from rfl,hd]
     have hs':=hid hs;clear hs;clear hd hye hq0;generalize l[k].1=a1 at *;generalize l[k].2=a2 at *;go_wp2_with fail
     go_quiet (fail)
     go_wp2;go_roundw
     case rel=>exact ⟨k+1,by omega,by go_num,hs',hid (by first | exact hbl.out | exact q_ hbl.out | exact q_ (q_ hbl.out))⟩
     case measure=>simp [intOf];omega
  · have hltz:¬ (k:Int)<(n:Int):=by omega
    obtain rfl:k=n:=by omega
    have hr:R=false:=by rw [← hR.out,← hfin.out,hn.out];exact hG.out
    subst hr;clear hat hst hG;go_wp2;go_ret;exact ⟨rfl,a_ hB.out hbl.out⟩
set_option maxRecDepth 20000 in
set_option maxHeartbeats 4000000 in
theorem a5Y (v v':Value) (l m:List It) (w:World) (hl:l.length≤1000000) (hm:m.length≤1000000) (hA:Its w v l) (hB:Its w v' m) :
 Calls Tryz.prog 16 #[v,v'] w fun e w'=>e=.returned (.bool (decide (l=m)))∧Below w.heap.size w w':=by
 obtain ⟨a,c,rfl,-,-,hat⟩:=hA;obtain ⟨a',c',rfl,-,-,hat'⟩:=hB;by_cases hlen:l.length=m.length
 · have hat:=hid (fun u (hu:Below w.heap.size w u) k (hk:k<l.length)=>by
    obtain ⟨b,o,e,-,hc⟩:=hat k hk;exact (⟨b,o,e,d_ hu hc.1,d_ hu hc.2⟩:∃ b o,a=some ⟨b,o,none⟩∧u.cell? ⟨b,o+k * 2,none⟩=some (.int .i64 l[k].1)∧u.cell? ⟨b,o+k * 2+1,none⟩=some (.int .i64 l[k].2)))
   have hat':=hid (fun u (hu:Below w.heap.size w u) k (hk:k<m.length)=>by
    obtain ⟨b,o,e,-,hc⟩:=hat' k hk;exact (⟨b,o,e,d_ hu hc.1,d_ hu hc.2⟩:∃ b o,a'=some ⟨b,o,none⟩∧u.cell? ⟨b,o+k * 2,none⟩=some (.int .i64 m[k].1)∧u.cell? ⟨b,o+k * 2+1,none⟩=some (.int .i64 m[k].2)))
   have b0:=hid (Below.refl w.heap.size w);have hyes:Hid ((∀ j (hj:j<l.length) (hj':j<m.length),l[j]=m[j])→decide (l=m)=true):=hid (fun h=>decide_eq_true (List.ext_getElem hlen h));have hno:Hid (∀ j (hj:j<l.length) (hj':j<m.length),l[j]≠m[j]→decide (l=m)=false):=hid (fun j hj hj' h=>decide_eq_false (fun e=>h (by subst e;rfl)));obtain ⟨n,hn⟩:∃ n,Hid (l.length=n):=⟨_,hid rfl⟩;have hn':Hid (m.length=n):=hid (by rw [← hlen];exact hn.out);generalize decide (l=m)=R at *;rw [hn.out] at hl ⊢;rw [hn'.out] at hm ⊢;clear hlen;go_enter Tryz.func16,Tryz.ntmps16
   go_wp2;go_loopw [5] (fun i wr=>∃ k:Nat,k≤n∧i=.int .i64 (k:Int)∧Hid (∀ j,j<k→∀ (hj:j<l.length) (hj':j<m.length),l[j]=m[j])∧Hid (Below w.heap.size w wr)) (fun i _=>n - (intOf i).toNat)
   case atStart=>exact ⟨0,Nat.zero_le _,rfl,hid (fun j hj=>absurd hj (Nat.not_lt_zero _)),b0⟩
   case round =>
    clear b0;obtain ⟨k,hk,rfl,hG,hbl⟩:=hrel;by_cases hlt:k<n
    · have hltz:(k:Int)<(n:Int):=by omega
      have hkl:k<l.length:=by rw [hn.out];exact hlt
      have hkm:k<m.length:=by rw [hn'.out];exact hlt
      obtain ⟨b,o,e,z0,z1⟩:=hat.out wr hbl.out k hkl;subst e;obtain ⟨b',o',e',z0',z1'⟩:=hat'.out wr hbl.out k hkm;subst e';have hq0:=b9x l[k].1 l[k].2 m[k].1 m[k].2;cases hd:decide (l[k]=m[k]) with
      | true =>
       have hq:∀ w,(binOp .neq 49 (.agg #[.int .i64 l[k].1,.int .i64 l[k].2]) (.agg #[.int .i64 m[k].1,.int .i64 m[k].2])).run Tryz.prog w=.ok (.bool false) w:=fun w=>by rw [hq0,show (((l[k].1,l[k].2):It))=l[k] from rfl,show (((m[k].1,m[k].2):It))=m[k] from rfl,hd];rfl
       have hG':=hid (fun j (hj1:j<k+1) (hj:j<l.length) (hj':j<m.length)=>by
        rcases Nat.lt_or_ge j k with h | h
        · exact hG.out j h hj hj'
        · obtain rfl:j=k:=by omega
          exact of_decide_eq_true hd)
       clear hd hG hq0;generalize l[k].1=a1 at *;generalize l[k].2=a2 at *;generalize m[k].1=m1 at *;generalize m[k].2=m2 at *;go_wp2_with fail
       go_quiet (fail)
       go_wp2;go_roundw
       case rel=>exact ⟨k+1,by omega,by go_num,hG',hid (by first | exact hbl.out | exact q_ hbl.out | exact q_ (q_ hbl.out))⟩
       case measure=>simp [intOf];omega
      | false =>
       have hq:∀ w,(binOp .neq 49 (.agg #[.int .i64 l[k].1,.int .i64 l[k].2]) (.agg #[.int .i64 m[k].1,.int .i64 m[k].2])).run Tryz.prog w=.ok (.bool true) w:=fun w=>by rw [hq0,show (((l[k].1,l[k].2):It))=l[k] from rfl,show (((m[k].1,m[k].2):It))=m[k] from rfl,hd];rfl
       obtain rfl:=hno.out k hkl hkm (of_decide_eq_false hd);clear hd hG hat hat' hyes hno hq0;generalize l[k].1=a1 at *;generalize l[k].2=a2 at *;generalize m[k].1=m1 at *;generalize m[k].2=m2 at *;go_wp2_with fail
       go_quiet (fail)
       go_wp2;go_ret;exact ⟨rfl,by first | exact hbl.out | exact q_ hbl.out | exact q_ (q_ hbl.out)⟩
    · have hltz:¬ (k:Int)<(n:Int):=by omega
      obtain rfl:k=n:=by omega
      obtain rfl:=hyes.out (fun j hj hj'=>hG.out j (by rw [← hn.out];exact hj) hj hj');clear hat hat' hG hno;go_wp2;go_ret;exact ⟨rfl,hbl.out⟩
 · have hz:((l.length:Int) != (m.length:Int))=true:=by rw [bne_iff_ne];omega
   rw [decide_eq_false (fun e=>hlen (by rw [e]))];clear hat hat' hlen;generalize l.length=n at *;generalize m.length=n' at *;go_enter Tryz.func16,Tryz.ntmps16
   go_wp2;go_ret;exact ⟨rfl,Below.refl _ _⟩
theorem a3D {g:Gm} {p:Int} (h:p<0):a0e g p=[g.start]:=if_pos h
theorem a2i {g:Gm} {p:Int} (h:¬ p<0) (h1:p.toNat<g.prods.length):a0e g p=g.prods[p.toNat].right:=by
 unfold a0e;rw [if_neg h,List.getD_eq_getElem?_getD,List.getElem?_eq_getElem h1,Option.getD_some]
theorem a9z {g:Gm} (hb:BndG g) {p:Int} (h1:p<g.prods.length):(a0e g p).length≤1000000:=by
 by_cases h:p<0
 · rw [a3D h];exact (by decide:1≤1000000)
 · have hl:p.toNat<g.prods.length:=by omega
   rw [a2i h hl]
   have:=hb.right _ (List.getElem_mem hl)
   omega
set_option maxRecDepth 20000 in
set_option maxHeartbeats 4000000 in
theorem a8C (g:Gm) (rv nv lv pv:Value) (p:Int) (w:World) (hV:GmV w rv nv lv pv g) (hb:BndG g) (h0:-1≤p) (h1:p<g.prods.length) :
 Calls Tryz.prog 17 #[gmA rv nv lv pv g.start,.int .i64 p] w fun e w'=>∃ v,e=.returned v∧Own w' w.heap.size v (a0e g p)∧Below w.heap.size w w':=by
 obtain ⟨pa,pc,rfl⟩:=hV.prods.shape;have hB1:=al' w (.cells #[rv,nv,lv,.slice pa g.prods.length pc,.int .i64 g.start] 27);have k1:=b_ w (.cells #[rv,nv,lv,.slice pa g.prods.length pc,.int .i64 g.start] 27);obtain ⟨W,hW⟩:∃ x,w.alloc (.cells #[rv,nv,lv,.slice pa g.prods.length pc,.int .i64 g.start] 27)=x:=⟨_,rfl⟩;rw [hW] at hB1 k1;obtain ⟨y0,y1,y2,y3,y4⟩:=l_ k1;have hB:=hid hB1;by_cases hp:p<0
 · rw [a3D hp]
   have hal:=al' W (.cells #[.int .i64 g.start] 3);have hOa:=hid (j_ (World.ownsRow_nil W w.heap.size 3 1) hal);have hDa:=hid (Nums.of_row (Own.lit1 W g.start));have hBa:=hid (a_ hB1 hal);clear hV hb h1 hB1 k1 hal;generalize g.prods.length=pp at *;generalize g.start=st at *;go_enter Tryz.func17,Tryz.ntmps17
   go_wp2_with (at_builtin;refine a9l _ rfl _ _ rfl w.heap.size [] [st] _ _ rfl rfl hOa.out hDa.out (by simp) hBa.out.size ?_;intro v4 w4 hO4 hb4;have hO9:=hid hO4;have hb9:=hid (hBa.out.trans hb4);clear hO4 hb4)
   go_ret;exact ⟨_,rfl,hO9.out,hb9.out⟩
 · have hpl:p.toNat<g.prods.length:=by omega
   have hpz:((p.toNat:Nat):Int)=p:=by omega
   rw [a2i hp hpl];obtain ⟨b,o,e,-,v,z0,z1,z2,hN⟩:=(hV.keep hB1).prods.at hpl;subst e;have hN0:=hN;obtain ⟨q1,q3,rfl,-⟩:=hN0;have hl:=hb.right _ (List.getElem_mem hpl);have hN:=hid hN;have hO:=hid (World.ownsRow_nil W w.heap.size 3 1);clear hV hb hB1 k1 z0 z2;generalize g.prods[p.toNat].right=R at *;generalize g.prods.length=pp at *;generalize g.start=st at *;obtain ⟨k,hk⟩:∃ k,p.toNat=k:=⟨_,rfl⟩;rw [hk] at hpz hpl z1;clear hk;subst hpz;generalize hrl:R.length=rl at *;have hrlH:=hid hrl;clear hrl;have hkz:¬ (k:Int)<0:=by omega
   clear hp;go_enter Tryz.func17,Tryz.ntmps17
   go_wp2_with (at_builtin;refine a9l _ rfl _ _ rfl w.heap.size [] R _ _ rfl rfl hO.out hN.out (by rw [hrlH.out];simp;omega) hB.out.size ?_;intro v4 w4 hO4 hb4;have hO9:=hid hO4;have hb9:=hid (hB.out.trans hb4);clear hO4 hb4)
   go_ret;exact ⟨_,rfl,hO9.out,hb9.out⟩
theorem a6g {g:Gm} {x:It} (h:¬ x.2.toNat<(a0e g x.1).length):a0k g x=0:=by
 unfold a0k;rw [List.getD_eq_getElem?_getD,List.getElem?_eq_none (by omega),Option.getD_none]
theorem a8I {g:Gm} {x:It} (h:x.2.toNat<(a0e g x.1).length):a0k g x=(a0e g x.1)[x.2.toNat]:=by
 unfold a0k;rw [List.getD_eq_getElem?_getD,List.getElem?_eq_getElem h,Option.getD_some]
set_option maxRecDepth 20000 in
set_option maxHeartbeats 4000000 in
theorem a9I (g:Gm) (rv nv lv pv:Value) (x:It) (w:World) (hV:GmV w rv nv lv pv g) (hb:BndG g) (hx:itB g x=true) :
 Calls Tryz.prog 52 #[gmA rv nv lv pv g.start,itV x] w fun e w'=>e=.returned (.int .i64 (a0k g x))∧Below w.heap.size w w':=by
 obtain ⟨i1,i2,i3,i4⟩:=T_.1 hx;have he:=a6g (g:=g) (x:=x);have ha:=a8I (g:=g) (x:=x);generalize a0k g x=N at *;obtain ⟨x1,x2⟩:=x
 try dsimp only at *
 have hlb:=a9z hb i2;have hB1:=al' w (.cells #[rv,nv,lv,pv,.int .i64 g.start] 27);have k1:=b_ w (.cells #[rv,nv,lv,pv,.int .i64 g.start] 27);have hB2:=a_ hB1 (al' (w.alloc (.cells #[rv,nv,lv,pv,.int .i64 g.start] 27)) (.cells #[.int .i64 x1,.int .i64 x2] 49));have k2:=g_ k1 (al' (w.alloc (.cells #[rv,nv,lv,pv,.int .i64 g.start] 27)) (.cells #[.int .i64 x1,.int .i64 x2] 49));have k3:=b_ (w.alloc (.cells #[rv,nv,lv,pv,.int .i64 g.start] 27)) (.cells #[.int .i64 x1,.int .i64 x2] 49);have hsz:(w.alloc (.cells #[rv,nv,lv,pv,.int .i64 g.start] 27)).heap.size=w.heap.size+1:=World.size_alloc _ _;rw [hsz] at k3;obtain ⟨W,hW⟩:∃ x,(w.alloc (.cells #[rv,nv,lv,pv,.int .i64 g.start] 27)).alloc (.cells #[.int .i64 x1,.int .i64 x2] 49)=x:=⟨_,rfl⟩;rw [hW] at hB2 k2 k3;obtain ⟨y0,y1,y2,y3,y4⟩:=l_ k2;have hk3:=hid (fun u (hu:Below W.heap.size W u)=>w_ (g_ k3 hu));obtain ⟨z0,z1⟩:=w_ k3;have GS:=hid (a8C g _ _ _ _ x1 W (hV.keep hB2) hb i1 i2);have hB:=hid hB2;clear hV hb hx hB1 hB2 k1 k2 k3 i1 i2 hsz;generalize a0e g x1=S at *;generalize g.start=st at *;by_cases hlt:x2.toNat<S.length
 · have hN:=ha hlt
   obtain ⟨k,hk⟩:∃ k:Nat,x2=(k:Int):=⟨x2.toNat,by omega⟩;subst hk;have hlt':k<S.length:=hlt;have hN':N=S[k]:=hN;have hltz:¬ (S.length:Int)≤(k:Int):=by omega
   have hSk:=hid (fun u v B (hO:Own u B v S)=>by
    obtain ⟨b,o,cp,e,h1,h2,h3⟩:=(Nums.of_row hO).at (by omega);exact (⟨b,o,cp,e,by rw [hN'];exact h3 k hlt'⟩:∃ b o cp,v=.slice (some ⟨b,o,none⟩) S.length cp∧u.cell? ⟨b,o+k,none⟩=some (.int .i64 N)))
   clear he ha hN hN' hlt i3 i4;generalize S.length=sl at *;go_enter Tryz.func52,Tryz.ntmps52
   go_wp2_with (go_at_call 17;refine GS.out.mono ?_;clear GS;rintro e w3 ⟨v3,rfl,hO3,hc3⟩;obtain ⟨b3,o3,c3,rfl,hs3⟩:=hSk.out _ _ _ hO3;clear hO3;have hc3:=hid hc3;clear y0 y1 y2 y3 y4 z0 z1;obtain ⟨z0,z1⟩:=hk3.out _ hc3.out)
   go_ret;exact ⟨rfl,a_ hB.out hc3.out⟩
 · obtain rfl:=he hlt
   have hltz:(S.length:Int)≤x2:=by omega
   have hSk:=hid (fun u v B (hO:Own u B v S)=>by
    obtain ⟨a,c,e,-⟩:=Nums.of_row hO;exact (⟨a,c,e⟩:∃ a c,v=.slice a S.length c))
   clear he ha i3 i4 hlt;generalize S.length=sl at *;go_enter Tryz.func52,Tryz.ntmps52
   go_wp2_with (go_at_call 17;refine GS.out.mono ?_;clear GS;rintro e w3 ⟨v3,rfl,hO3,hc3⟩;obtain ⟨a3,c3,rfl⟩:=hSk.out _ _ _ hO3;clear hO3;have hc3:=hid hc3;clear y0 y1 y2 y3 y4 z0 z1;obtain ⟨z0,z1⟩:=hk3.out _ hc3.out)
   go_ret;exact ⟨rfl,a_ hB.out hc3.out⟩
noncomputable def usB (g:Gm):Bool:=open Classical in decide (UsG g)
theorem a7c {g:Gm} (h:¬ UsG g):usB g=false:=by unfold usB;exact @decide_eq_false _ (Classical.propDecidable _) h
theorem a5F {g:Gm} (h:UsG g):usB g=true:=by unfold usB;exact @decide_eq_true _ (Classical.propDecidable _) h
theorem b1Y {g:Gm} (h:0<g.nonts.length):usB g=a1q g:=by
 by_cases hs:SndG g
 · rw [a5F ⟨h,hs⟩,a2P hs]
 · rw [a7c (fun hu=>hs hu.snd),Q_ hs]
set_option maxRecDepth 20000 in
set_option maxHeartbeats 4000000 in
theorem a7m (g:Gm) (rv nv lv pv:Value) (w:World) (hV:GmV w rv nv lv pv g) (hb:BndG g) (hnl:∀ t∈g.allN,t.length≤1000000) :
 Calls Tryz.prog 27 #[gmA rv nv lv pv g.start] w fun e w'=>e=.returned (.bool (usB g))∧Below w.heap.size w w':=by
 have GS:=hid (fun u (hu:Below w.heap.size w u)=>b5R g _ _ _ _ u (hV.keep hu) hb hnl);obtain ⟨na,nc,rfl⟩:=hV.nonts.shape;have hB1:=al' w (.cells #[rv,.slice na g.nonts.length nc,lv,pv,.int .i64 g.start] 27);have k1:=b_ w (.cells #[rv,.slice na g.nonts.length nc,lv,pv,.int .i64 g.start] 27);obtain ⟨W,hW⟩:∃ x,w.alloc (.cells #[rv,.slice na g.nonts.length nc,lv,pv,.int .i64 g.start] 27)=x:=⟨_,rfl⟩;rw [hW] at hB1 k1;obtain ⟨y0,y1,y2,y3,y4⟩:=l_ k1;have GS:=hid (GS.out W hB1);have hB:=hid hB1;by_cases hn:0<g.nonts.length
 · rw [b1Y hn]
   have hnz:(0:Int)<(g.nonts.length:Int):=by omega
   clear hV hb hnl hB1 k1 hn;generalize a1q g=SB at *;generalize g.nonts.length=nn at *;generalize g.start=st at *;go_enter Tryz.func27,Tryz.ntmps27
   go_wp2_with (go_at_call 50;refine GS.out.mono ?_;clear GS;rintro e w3 ⟨rfl,hc3⟩)
   go_ret;exact ⟨rfl,a_ hB.out hc3⟩
 · rw [a7c (fun hu=>hn hu.some)]
   have hnz:¬ (0:Int)<(g.nonts.length:Int):=by omega
   clear hV hb hnl hB1 k1 hn GS;generalize g.nonts.length=nn at *;generalize g.start=st at *;go_enter Tryz.func27,Tryz.ntmps27
   go_wp2;go_ret;exact ⟨rfl,hB.out⟩
noncomputable def c0M (g:Gm) (l:List It):Bool:=usB g && l.all (itB g)
theorem a9F {g:Gm} {l:List It}:c0M g l=true↔RgtI g l:=by
 unfold c0M;rw [Bool.and_eq_true,List.all_eq_true]
 constructor
 · rintro ⟨h1,h2⟩
   refine ⟨?_,h2⟩;apply Classical.byContradiction
   intro h;rw [a7c h] at h1;cases h1
 · intro h
   exact ⟨a5F h.us,h.all⟩
def b8e (g:Gm) (l:List It) (k:Nat):List It:=(b5m g k).filter fun x=>l.contains x
def c0L (p:Int) (d:Nat):List It:=(List.range d).map fun d:Nat=>(p,(d:Int))
def b5l (g:Gm) (l:List It) (k d:Nat):List It:=b8e g l k++(c0L ((k:Int) - 1) d).filter fun x=>l.contains x
theorem b3W (g:Gm) (l:List It) (k:Nat):b5l g l k 0=b8e g l k:=by unfold b5l c0L;simp
theorem b3X (g:Gm) (l:List It) (k d:Nat):b5l g l k (d+1)=b5l g l k d++(if l.contains ((k:Int) - 1,(d:Int)) then [((k:Int) - 1,(d:Int))] else []):=by
 unfold b5l c0L;rw [List.range_succ,List.map_append,List.filter_append,← List.append_assoc];congr 1
 cases h:l.contains ((k:Int) - 1,(d:Int)) with
 | true=>rw [if_pos rfl];exact List.filter_cons_of_pos h
 | false=>rw [if_neg (by decide)];exact List.filter_cons_of_neg (by rw [h];decide)
theorem b6T (g:Gm) (l:List It) (k:Nat):b5l g l k ((a0e g ((k:Int) - 1)).length+1)=b8e g l (k+1):=by
 unfold b5l b8e c0L;rw [a4E,List.filter_append];rfl
theorem b6S {g:Gm} (hg:SndG g) (l:List It) {k d:Nat} (hk:k≤g.prods.length) (hd:d≤(a0e g ((k:Int) - 1)).length+1):(b5l g l k d).length≤400:=by
 have h1:=a6M hg k (by omega);have h2:(a0e g ((k:Int) - 1)).length≤8:=a0X hg (by omega);have h3:((c0L ((k:Int) - 1) d).filter fun x=>l.contains x).length≤d:=Nat.le_trans (List.length_filter_le _ _) (by unfold c0L;simp);have h4:(b8e g l k).length≤(b5m g k).length:=List.length_filter_le _ _
 have:=hg.prods
 unfold b5l;rw [List.length_append];omega
set_option maxRecDepth 100000 in
set_option maxHeartbeats 8000000 in
theorem b7O (g:Gm) (rv nv lv pv v:Value) (l:List It) (w:World) (hV:GmV w rv nv lv pv g) (hb:BndG g) (hg:SndG g) (hl:l.length≤1000000) (hI:Its w v l) :
 Calls Tryz.prog 53 #[gmA rv nv lv pv g.start,v] w fun e w'=>∃ v',e=.returned v'∧OwnIt w' w.heap.size v' (ofI g l)∧Below w.heap.size w w':=by
 have GS:=hid (fun u (hu:Below w.heap.size w u) p h0 h1=>a8C g _ _ _ _ p u (hV.keep hu) hb h0 h1);have GH:=hid (fun u (hu:Below w.heap.size w u) x=>b2M v l x u hl (hI.keep hu));obtain ⟨pa,pc,rfl⟩:=hV.prods.shape;obtain ⟨va,vc,rfl⟩:=hI.shape;have hB1:=al' w (.cells #[rv,nv,lv,.slice pa g.prods.length pc,.int .i64 g.start] 27);have k1:=b_ w (.cells #[rv,nv,lv,.slice pa g.prods.length pc,.int .i64 g.start] 27);obtain ⟨W,hW⟩:∃ x,w.alloc (.cells #[rv,nv,lv,.slice pa g.prods.length pc,.int .i64 g.start] 27)=x:=⟨_,rfl⟩;rw [hW] at hB1 k1;have hk1:=hid (fun u (hu:Below W.heap.size W u)=>l_ (g_ k1 hu));have hB:=hid hB1;obtain ⟨y0,y1,y2,y3,y4⟩:=hk1.out W (Below.refl _ W);have hpp:g.prods.length≤40:=hg.prods;have hsl:=hid (fun k (hk:k≤g.prods.length)=>(a0X hg (p:=(k:Int) - 1) (by omega):(a0e g ((k:Int) - 1)).length≤8));have hz:=hid (b3W g l);have hs:=hid (b3X g l);have he:=hid (b6T g l);have hln:=hid (fun k d (hk:k≤g.prods.length) hd=>b6S hg l (k:=k) (d:=d) hk hd);have hfin:Hid (b8e g l (g.prods.length+1)=ofI g l):=hid rfl;have h00:Hid (OwnIt W W.heap.size (.slice none 0 0) (b8e g l 0)):=hid (World.ownsRow_nil _ _ _ _);have b00:=hid (Below.refl W.heap.size W)
 have hss:=hid (fun u B (p:Int) v (hO:Own u B v (a0e g p))=>by
  obtain ⟨a,c,e,-⟩:=Nums.of_row hO;exact (⟨a,c,e⟩:∃ a c,v=.slice a (a0e g p).length c))
 clear hV hb hg hB1 k1 hI;rw [← hfin.out];clear hfin;generalize b8e g l=FK at *;generalize b5l g l=FD at *;obtain ⟨pp,hp9⟩:∃ n,Hid (g.prods.length=n):=⟨_,hid rfl⟩;rw [hp9.out] at GS hk1 y3 hpp hW hsl hln ⊢;generalize l.length=ln at *;generalize g.start=st at *;go_enter Tryz.func53,Tryz.ntmps53
 go_wp2;clear hW y0 y1 y2 y3 y4;go_loopw [5,6] (fun v p wr=>∃ (k:Nat) (z:Int),k≤pp+1∧Hid (z=(k:Int) - 1)∧p=.int .i64 z∧Hid (OwnIt wr W.heap.size v (FK k))∧Hid (Below W.heap.size W wr)) (fun _ p _=>(pp:Int).toNat+1 - (intOf p+1).toNat)
 case atStart=>exact ⟨0,-1,Nat.zero_le _,hid rfl,rfl,h00,b00⟩
 case round =>
  clear h00 b00;obtain ⟨k,z,hk,hzk,rfl,hO,hbl⟩:=hrel;obtain ⟨y0,y1,y2,y3,y4⟩:=hk1.out wr hbl.out;by_cases hlt:k<pp+1
  · have hltz:z<(pp:Int):=by have:=hzk.out;omega
    have hz1:-1≤z:=by have:=hzk.out;omega
    have hO1:=hid hO.out;rw [← hz.out k] at hO1;clear hO;have hsl1:=hsl.out k (by omega);have he1:=hid (he.out k);have hss1:=hid (fun u B v=>hss.out u B ((k:Int) - 1) v);have GS1:=hid (fun u hu=>GS.out u hu ((k:Int) - 1) (by omega) (by omega));have hs1:=hid (hs.out k);have hln1:=hid (fun d=>hln.out k d (by omega));rw [← hzk.out] at he1 hss1 GS1 hs1 hln1 hsl1;have hzkH:=hzk;generalize FD k=FDk at *;generalize a0e g z=S at *;obtain ⟨sl,hsl9⟩:∃ n,Hid (S.length=n):=⟨_,hid rfl⟩;rw [hsl9.out] at he1 hss1 hln1 hsl1;go_wp2_with (go_at_call 17;refine (GS1.out _ (a_ hB.out hbl.out)).mono ?_;clear GS1;rintro e w3 ⟨v3,rfl,hO3,hc3⟩;obtain ⟨a3,c3,rfl⟩:=hss1.out _ _ _ hO3;clear hO3;have h3:=hid (a_ hbl.out hc3);have hO2:=hid (j_ hO1.out hc3);clear hc3 hO1 y0 y1 y2 y3 y4)
    clear hbl;go_loopw [5,8] (fun v d wr=>∃ d':Nat,d'≤sl+1∧d=.int .i64 (d':Int)∧Hid (OwnIt wr W.heap.size v (FDk d'))∧Hid (Below W.heap.size W wr)) (fun _ d _=>sl+1 - (intOf d).toNat)
    case atStart=>exact ⟨0,Nat.zero_le _,rfl,hO2,h3⟩
    case round =>
     clear hO2 h3;obtain ⟨d,hd,rfl,hO,hbl⟩:=hrel;by_cases hld:d≤sl
     · have hldz:(d:Int)≤(sl:Int):=by omega
       have G:=hid (GH.out wr (a_ hB.out hbl.out) (z,(d:Int)));have hs2:=hid (hs1.out d);have hl2:=hid (hln1.out d (by omega));cases hc:l.contains (z,(d:Int)) with
       | true =>
        rw [hc] at G;have hs3:Hid (FDk (d+1)=FDk d++[(z,(d:Int))]):=hid (by have:=hs2.out;rw [hc,if_pos rfl] at this;exact this);clear hs2 hc
        go_wp2_with (first
         | (go_at_call 75;refine G.out.mono ?_;clear G;rintro e w4 ⟨rfl,hc4⟩;have hal:=al' w4 (.cells #[.int .i64 z,.int .i64 (d:Int)] 49);have hOa:=hid (j_ (j_ hO.out hc4) hal);have hDa:=hid (Its.lit1 w4 z (d:Int));have hBa:=hid (a_ (a_ hbl.out hc4) hal);clear hc4 hO hal)
         | (at_builtin;refine a3R _ rfl _ _ rfl W.heap.size (FDk d) [(z,(d:Int))] _ _ rfl rfl hOa.out hDa.out (by have:=hl2.out;simp;omega) hBa.out.size ?_;intro v5 w5 hO5 hb5;have hO9:=hid hO5;have hb9:=hid (hBa.out.trans hb5);clear hO5 hb5))
        go_roundw
        case rel=>exact ⟨d+1,by omega,by go_num,hid (by rw [hs3.out];exact hO9.out),hb9⟩
        case measure=>simp [intOf];omega
       | false =>
        rw [hc] at G;have hs3:Hid (FDk (d+1)=FDk d):=hid (by have:=hs2.out;rw [hc,if_neg (by decide),List.append_nil] at this;exact this);have hO9:=hid hO.out;rw [← hs3.out] at hO9;clear hO hs2 hc;go_wp2_with (go_at_call 75;refine G.out.mono ?_;clear G;rintro e w4 ⟨rfl,hc4⟩;have hO4:=hid (j_ hO9.out hc4);have h4:=hid (a_ hbl.out hc4);clear hc4 hO9)
        go_roundw
        case rel=>exact ⟨d+1,by omega,by go_num,hO4,h4⟩
        case measure=>simp [intOf];omega
     · have hldz:¬ (d:Int)≤(sl:Int):=by omega
       obtain rfl:d=sl+1:=by omega
       have hO9:=hid hO.out;rw [he1.out] at hO9;clear hO;go_wp2;go_roundw
       case rel=>exact ⟨k+1,z+1,by omega,hid (by have:=hzk.out;omega),by go_num,hO9,hbl⟩
       case measure=>simp [intOf];omega
  · have hltz:¬ z<(pp:Int):=by have:=hzk.out;omega
    obtain rfl:k=pp+1:=by omega
    go_wp2;go_ret;exact ⟨_,rfl,a0o hO.out hB.out.size,a_ hB.out hbl.out⟩
structure CI (g:Gm) (l out:List It):Prop where
 pre:∃ r,out=l++r∧r.Nodup∧∀ x∈r,0≤x.1∧x.1<(g.prods.length:Int)∧x.2=0
 clo:∀ x∈out,CloG g l x
theorem CI.start (g:Gm) (l:List It):CI g l l:=⟨⟨[],(List.append_nil _).symm,List.nodup_nil,fun _ h=>absurd h List.not_mem_nil⟩,fun _ h=>.own h⟩
theorem CI.add {g:Gm} {l out:List It} (h:CI g l out) {k:Nat} (hk:k<g.prods.length) (hn:((k:Int),(0:Int)) ∉ out) {x:It} (hx:x∈out) (e:a0k g x=g.prods[k].left):CI g l (out++[((k:Int),(0:Int))]):=by
 obtain ⟨r,rfl,hr,ha⟩:=h.pre;refine ⟨⟨r++[((k:Int),(0:Int))],by rw [List.append_assoc],?_,?_⟩,?_⟩
 · rw [List.nodup_append]
   refine ⟨hr,List.pairwise_singleton _ _,fun a ha b hb=>?_⟩;rw [List.mem_singleton] at hb;subst hb;exact fun e=>hn (e▸List.mem_append_right _ ha)
 · intro y hy
   rcases List.mem_append.1 hy with hy | hy
   · exact ha y hy
   · rw [List.mem_singleton] at hy
     subst hy;exact ⟨Int.natCast_nonneg _,by show (k:Int)<_;omega,rfl⟩
 · intro y hy
   rcases List.mem_append.1 hy with hy | hy
   · exact h.clo y hy
   · rw [List.mem_singleton] at hy
     subst hy;exact .new hk (h.clo x hx) e
theorem CI.len {g:Gm} {l out:List It} (h:CI g l out):out.length≤l.length+g.prods.length:=by
 obtain ⟨r,rfl,hr,ha⟩:=h.pre
 have hm:(r.map Prod.fst).Nodup:=by
  unfold List.Nodup;rw [List.pairwise_map];refine hr.imp_of_mem fun {a b} h1 h2 hne e=>hne (Prod.ext e ?_)
  rw [(ha a h1).2.2,(ha b h2).2.2]
 have:=a9V g.prods.length (r.map Prod.fst) (-1) hm (fun n hn=>by
  obtain ⟨x,hx,rfl⟩:=List.mem_map.1 hn
  have:=ha x hx
  omega)
 rw [List.length_map] at this;rw [List.length_append];omega
theorem CI.items {g:Gm} {l out:List It} (h:CI g l out) (hl:∀ x∈l,itB g x=true):∀ x∈out,itB g x=true:=fun x hx=>a0f hl (h.clo x hx)
theorem CI.own {g:Gm} {l out:List It} (h:CI g l out) {x:It} (hx:x∈l):x∈out:=by
 obtain ⟨r,rfl,-⟩:=h.pre;exact List.mem_append_left _ hx
theorem CI.done {g:Gm} {l out:List It} (h:CI g l out) (hc:∀ k (hk:k<g.prods.length),((k:Int),(0:Int))∈out∨∀ x∈out,a0k g x≠g.prods[k].left) (x:It):x∈out↔CloG g l x:=by
 refine ⟨h.clo x,fun hx=>?_⟩
 induction hx with
 | own hx=>exact h.own hx
 | new hk _ he ih =>
  rcases hc _ hk with h1 | h1
  · exact h1
  · exact absurd he (h1 _ ih)
structure CR (g:Gm) (l out0:List It) (k:Nat) (out:List It) (more:Bool):Prop where
 ci:CI g l out
 yes:more=true→out0.length<out.length
 no:more=false→out=out0∧∀ j,j<k→∀ (hj:j<g.prods.length),((j:Int),(0:Int))∈out∨∀ x∈out,a0k g x≠g.prods[j].left
theorem CR.start {g:Gm} {l out:List It} (h:CI g l out):CR g l out 0 out false:=⟨h,fun h=>(by cases h),fun _=>⟨rfl,fun j hj=>absurd hj (Nat.not_lt_zero _)⟩⟩
theorem CR.grow {g:Gm} {l out0 out:List It} {k:Nat} {more:Bool} (h:CR g l out0 k out more) (hk:k<g.prods.length) (hn:out.contains ((k:Int),(0:Int))=false) {x:It} (hx:x∈out) (e:a0k g x=g.prods[k].left):CR g l out0 (k+1) (out++[((k:Int),(0:Int))]) true:=by
 refine ⟨h.ci.add hk (fun hm=>?_) hx e,fun _=>?_,fun h=>(by cases h)⟩
 · rw [List.contains_iff_mem.2 hm] at hn
   cases hn
 · rw [List.length_append,List.length_singleton]
   cases more with
   | true=>have:=h.yes rfl;omega
   | false=>rw [(h.no rfl).1];omega
theorem CR.still {g:Gm} {l out0 out:List It} {k:Nat} {more:Bool} (h:CR g l out0 k out more) (hk:k<g.prods.length) (hc:out.contains ((k:Int),(0:Int))=true∨∀ x∈out,a0k g x≠g.prods[k].left):CR g l out0 (k+1) out more:=by
 refine ⟨h.ci,h.yes,fun hm=>⟨(h.no hm).1,fun j hj hj2=>?_⟩⟩;rcases Nat.lt_or_ge j k with h1 | h1
 · exact (h.no hm).2 j h1 hj2
 · obtain rfl:j=k:=by omega
   rcases hc with hc | hc
   · exact .inl (List.contains_iff_mem.1 hc)
   · exact .inr hc
theorem CR.done {g:Gm} {l out0 out:List It} (h:CR g l out0 g.prods.length out false):ofI g out=a3q g l:=b9t fun x=>h.ci.done (fun k hk=>(h.no rfl).2 k hk hk) x
end Go.Proofs.YtjgedijclkoemaaGreatDoor
