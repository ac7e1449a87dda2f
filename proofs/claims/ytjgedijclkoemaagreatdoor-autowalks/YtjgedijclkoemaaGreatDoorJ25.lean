/- What the five laws of layer 17 share, part 25: no statement of its own. -/
import Derived.Test.YtjgedijclkoemaaGreatDoorJ20
import Derived.Test.YtjgedijclkoemaaGreatDoorJ24
import Derived.Laws.CopyOwn
namespace Go.Proofs.YtjgedijclkoemaaGreatDoor
open Go.Lib
def itT (x:It):List UInt8:=itoa x.1++44 :: (itoa x.2++[32])
def a0T (l:List It):List UInt8:=l.flatMap itT
theorem b0g:a0T []=[]:=rfl
theorem a1v (x:It) (l:List It):a0T (x :: l)=itoa x.1++44 :: (itoa x.2++32 :: a0T l):=by
 unfold a0T itT;rw [List.flatMap_cons];simp
theorem b3N (l:List It) (x:It):a0T (l++[x])=a0T l++itoa x.1++[44]++itoa x.2++[32]:=by
 unfold a0T itT;rw [List.flatMap_append,List.flatMap_cons,List.flatMap_nil,List.append_nil];simp
theorem a5o (n:Int):∀ c∈itoa n,c≠44:=fun c h e=>by
 subst e;unfold itoa at h;split at h
 · rcases List.mem_cons.1 h with h | h
   · exact absurd h (by decide)
   · have:=a0v _ _ h;simp at this
 · have:=a0v _ _ h;simp at this
theorem b4t {s:UInt8}:∀ {a b x y:List UInt8},(∀ c∈a,c≠s)→(∀ c∈b,c≠s)→a++s :: x=b++s :: y→a=b∧x=y
 | [],[],_,_,_,_,h=>⟨rfl,(List.cons.inj h).2⟩
 | [],c :: b,_,_,_,hb,h=>absurd (List.cons.inj h).1.symm (hb c List.mem_cons_self)
 | c :: a,[],_,_,ha,_,h=>absurd (List.cons.inj h).1 (ha c List.mem_cons_self)
 | c :: a,d :: b,x,y,ha,hb,h=>by
  obtain ⟨h1,h2⟩:=List.cons.inj h;obtain ⟨h3,h4⟩:=b4t (fun z hz=>ha z (List.mem_cons_of_mem _ hz)) (fun z hz=>hb z (List.mem_cons_of_mem _ hz)) h2;exact ⟨by rw [h1,h3],h4⟩
theorem a6p:∀ {l m:List It},a0T l=a0T m→l=m
 | [],[],_=>rfl
 | [],y :: m,h=>by rw [b0g,a1v] at h;exact absurd h.symm (by simp)
 | x :: l,[],h=>by rw [b0g,a1v] at h;exact absurd h (by simp)
 | (a,b) :: l,(c,d) :: m,h=>by
  rw [a1v,a1v] at h;obtain ⟨h1,h2⟩:=b4t (a5o _) (a5o _) h;obtain ⟨h3,h4⟩:=b4t (a1J _) (a1J _) h2;have e1:a=c:=a6u h1;have e2:b=d:=a6u h3;rw [e1,e2,a6p h4]
abbrev c3l (l:List It):Prop:=∀ x∈l,(-9223372036854775808≤x.1∧x.1≤9223372036854775807)∧(-9223372036854775808≤x.2∧x.2≤9223372036854775807)
theorem a6o:∀ (l:List It),c3l l→(a0T l).length≤44 * l.length
 | [],_=>Nat.le_refl _
 | x :: l,h=>by
  have h0:=h x List.mem_cons_self;have h1:=itoa_length_le x.1 h0.1.1 h0.1.2;have h3:=itoa_length_le x.2 h0.2.1 h0.2.2;have h2:=a6o l fun x hx=>h x (List.mem_cons_of_mem _ hx)
  rw [a1v];simp only [List.length_append,List.length_cons];omega
end Go.Proofs.YtjgedijclkoemaaGreatDoor
namespace Go.Proofs.YtjgedijclkoemaaGreatDoor
open Go.RowKit
set_option maxRecDepth 20000 in
theorem Tryz.infoU8:(Tryz.prog.info? 5).map (fun i=>(i.zero,i.size,i.bytes))=some (some (.int .u8 0),1,1):=by kernel_rfl
def Tab (w : World) : Prop := Lib.TabIs Tryz.prog w "internal/strconv.uint64pow10" .u64 Lib.pow10Tab
theorem Tab.keep {w w':World} (h:Tab w) (hb:Below w.heap.size w w'):Tab w':=Lib.tabBelow_of_tabIs h w' hb
set_option maxRecDepth 20000 in
theorem b7j {base:Nat} {w:World} {v:Value} (l:List UInt8) (h:w.ownsRow base 5 1 v l.length (Lib.byteCells l)) :
 (convert 137 9 v).run Tryz.prog w=.ok (.string (e_ l)) w:=by
 rcases Joins.ownsRow_forms h with ⟨rfl,h0⟩ | ⟨g,cap,rfl⟩
 · have:l=[]:=List.eq_nil_of_length_eq_zero h0
   subst this;exact run_convert_bytes_nil (P:=Tryz.prog) w 137 5 Tryz.underlying137 Tryz.underlying5 0 0 9 Tryz.underlying9
 · refine run_convert_bytes_back w 137 9 5 _ cap l Tryz.underlying137 Tryz.underlying5 Tryz.underlying9 ?_
   intro j hj;exact h.cells rfl j _ (by simp [Lib.byteCells,hj])
theorem a5x {B:Nat} {w0 wr w2:World} {v:Value} {n:Nat} {xs:List Value} {o:Obj} (hown:wr.ownsRow B 5 1 v n xs) (hbl:Below B w0 wr) (hB:B≤w0.heap.size) (hg:(wr.alloc o).grownBy w2 v.ownBlock):Below B w0 w2:=
 (hbl.alloc (Nat.le_trans hB hbl.size) _).grown hg (by have:=hbl.size;simp;omega) (fun k hk=>(hown.lt k hk).1)
theorem b9m {B:Nat} {w w2:World} {v:Value} {n:Nat} {xs:List Value} {o:Obj} (hown:w.ownsRow B 5 1 v n xs) (hg:(w.alloc o).grownBy w2 v.ownBlock):Lib.OthersKept 5 none w w2:=
 ((Lib.OthersKept.refl _ _ w).alloc _).grown hg (Lib.ownsRow_kind (hown.alloc _))
theorem b3j {w w':World} {b:Nat} {x y:Value} (h:Lib.OthersKept 5 none w w') (hx:w.heap[b]?=some (.cells #[x,y] 49)):w'.heap[b]?=some (.cells #[x,y] 49):=
 h b _ hx (fun e=>by cases e) (fun c fz e=>by cases e)
set_option maxRecDepth 20000 in
set_option maxHeartbeats 4000000 in
theorem c3Y (v:Value) (l:List It) (w:World) (hl:l.length≤1000) (hF:c3l l) (hA:Its w v l) (hT:Tab w) :
 Calls Tryz.prog 47 #[v] w fun e w'=>e=.returned (.string (e_ (a0T l)))∧Below w.heap.size w w':=by
 obtain ⟨i0,hi,hz0,hz1,hz2⟩:=info_parts Tryz.infoU8
 have G:Hid (∀ (n:Nat) (i:Int) (sv:Value) (xs:List Value) (u:World),-9223372036854775808≤i→i≤9223372036854775807→n≤1000000→u.ownsRow w.heap.size 5 1 sv n xs→Below w.heap.size w u →
  Calls Tryz.prog 71 #[sv,.int .i64 i,.int .i64 10] u fun e w'=>∃ v',e=.returned v'∧w'.ownsRow w.heap.size 5 1 v' (n+(Lib.itoa i).length) (xs++Lib.byteCells (Lib.itoa i))∧Below w.heap.size u w'∧Lib.OthersKept 5 none u w'):=hid fun n i sv xs u h0 h1 hn hown hb =>
  Tryz.strconv_AppendInt_10 w.heap.size n i h0 h1 sv xs u hown hb.size (by omega) ((Lib.tabBelow_of_tabIs hT).on hb)
 obtain ⟨aa,ca,rfl⟩:=hA.shape;have hA0:=hid hA;have b0:=hid (Below.refl w.heap.size w);clear hA hT;go_enter Tryz.func47,Tryz.ntmps47
 go_wp2;go_loopw [3,8] (fun v i wr=>∃ k:Nat,k≤l.length∧i=.int .i64 k∧Hid (wr.ownsRow w.heap.size 5 1 v (a0T (l.take k)).length (Lib.byteCells (a0T (l.take k))))∧Hid (Below w.heap.size w wr)) (fun _ i _=>l.length - (intOf i).toNat)
 case atStart=>exact ⟨0,Nat.zero_le _,rfl,hid (World.ownsRow_nil _ _ _ _),b0⟩
 case round =>
  clear b0;obtain ⟨k,hk,rfl,hO,hbl⟩:=hrel;by_cases hlt:k<l.length
  · have hltz:(k:Int)<(l.length:Int):=by omega
    obtain ⟨b1,o1,e,-,z0,z1⟩:=Lst.at (hA0.out.keep hbl.out) hlt;subst e;have hfx:=hF l[k] (List.getElem_mem hlt);have hkl:=a6o (l.take k) fun x hx=>hF x (List.mem_of_mem_take hx)
    have hil:=Lib.itoa_length_le l[k].1 hfx.1.1 hfx.1.2;have hil2:=Lib.itoa_length_le l[k].2 hfx.2.1 hfx.2.2;have htl:(l.take k).length≤k:=by rw [List.length_take];omega
    have hstep:=hid (show a0T (l.take (k+1))=a0T (l.take k)++Lib.itoa l[k].1++[44]++Lib.itoa l[k].2++[32] by rw [List.take_succ_eq_append_getElem hlt,b3N]);have hx0:=hid hfx;have hbytes:Hid ((a0T (l.take k)).length≤44000):=hid (by omega);have hi1:=hid hil;have hi2:=hid hil2;clear hfx hkl htl hil hil2;generalize l[k].1=x at *;generalize l[k].2=y at *;generalize a0T (l.take k)=kb at hO hstep hbytes;obtain ⟨W,hW⟩:∃ z,wr.alloc (.cells #[.int .i64 x,.int .i64 y] 49)=z:=⟨_,rfl⟩;have hal:Below wr.heap.size wr W:=by rw [← hW];exact al' wr _
    have hbx:=hid (show W.heap[wr.heap.size]?=some (.cells #[.int .i64 x,.int .i64 y] 49) by rw [← hW];exact b_ wr _);obtain ⟨q0,q1⟩:=w_ hbx.out;have hOW:=hid (j_ hO.out hal);have hbW:=hid (a_ hbl.out hal);have hG:=hid (G.out kb.length x u3 (Lib.byteCells kb) W hx0.out.1.1 hx0.out.1.2 (by have:=hbytes.out;omega) hOW.out hbW.out);clear hal hO hbl
    go_wp2_with (first
     | (go_at_call_of 71 (Value.int .i64 y);refine (G3.out).mono ?_;clear G3;rintro e w3 ⟨v3,rfl,hO3,hb3,hk3⟩;have hO3:=hid hO3;have hb3:=hid (hb2.out.trans hb3);skip)
     | (at_builtin;refine wpList_append_own _ rfl _ _ 137 rfl w.heap.size 5 i0 (.int .u8 0) 1 1 Tryz.underlying137 hi hz0 hz1 hz2 rfl (by decide) _ _ _ rfl (hO3.out.alloc _) ⟨w3.heap.size,0,none⟩ 1 1 [.int .u8 32] rfl rfl (by intro j u hj;(match j,hj with | 0,hj=>simp at hj;subst hj;simp [Addr.add])) (by intro u hu;simp at hu;subst hu;rfl) (by have:=hbytes.out;have:=hi1.out;have:=hi2.out;unfold maxLen;omega) (by have:=hbytes.out;have:=hi1.out;have:=hi2.out;omega) (by have:=hb3.out.size;simp;omega) ?_;intro v4 w4 hO4 hg4 _;have hO4:=hid hO4;have hb4:=hid (a5x hO3.out hb3.out (Nat.le_refl _) hg4))
     | (go_at_call_of 71 (Value.int .i64 x);refine (hG.out).mono ?_;clear hG;rintro e w1 ⟨v1,rfl,hO1,hb1,hk1⟩;have hO1:=hid hO1;have hb1:=hid (hbW.out.trans hb1);have hbx1:=hid (b3j hk1 hbx.out);clear hk1)
     | (at_builtin;refine wpList_append_own _ rfl _ _ 137 rfl w.heap.size 5 i0 (.int .u8 0) 1 1 Tryz.underlying137 hi hz0 hz1 hz2 rfl (by decide) _ _ _ rfl (hO1.out.alloc _) ⟨w1.heap.size,0,none⟩ 1 1 [.int .u8 44] rfl rfl (by intro j u hj;(match j,hj with | 0,hj=>simp at hj;subst hj;simp [Addr.add])) (by intro u hu;simp at hu;subst hu;rfl) (by have:=hbytes.out;have:=hi1.out;unfold maxLen;omega) (by have:=hbytes.out;have:=hi1.out;omega) (by have:=hb1.out.size;simp;omega) ?_;intro v2 w2 hO2 hg2 _;obtain ⟨q0,q1⟩:=w_ (b3j (b9m hO1.out hg2) hbx1.out);have hb2:=hid (a5x hO1.out hb1.out (Nat.le_refl _) hg2);have G3:=hid (G.out _ y v2 _ w2 hx0.out.2.1 hx0.out.2.2 (by have:=hbytes.out;have:=hi1.out;omega) hO2 hb2.out)))
    go_roundw
    case rel =>
     refine ⟨k+1,by omega,by go_num,hid ?_,hb4⟩;rw [hstep.out,Lib.byteCells_append,Lib.byteCells_append,Lib.byteCells_append,Lib.byteCells_append,List.length_append,List.length_append,List.length_append,List.length_append];exact hO4.out
    case measure=>simp [intOf];omega
  · have hltz:¬ (k:Int)<(l.length:Int):=by omega
    have hO':=hO.out;rw [List.take_of_length_le (by omega)] at hO';have hcv:=b7j (a0T l) hO';have hO1:=hid hO';clear hO';go_wp2;go_ret;exact ⟨rfl,hbl.out⟩
end Go.Proofs.YtjgedijclkoemaaGreatDoor
namespace Go.Proofs.YtjgedijclkoemaaGreatDoor
open Go.RowKit Go.Maps Go.Sort
def inR:Value→Option (DataW Unit×List MemPlace)
 | .int .i64 a=>some (.lit (.int .i64 a),[])
 | _=>none
set_option maxRecDepth 20000 in
theorem b9X {v:Value} {z:Int} {ps:List MemPlace} (h:inR v=some (.lit (.int .i64 z),ps)):v=.int .i64 z:=by
 unfold inR at h;split at h
 · injection h with h
   injection h with h _;injection h with h;injection h with _ h;subst h;rfl
 · cases h
structure MapN (D:DataW Unit) (M:Txt→Option Int):Prop where
 map:IsMap D
 has:∀ t,Maps.has D (.string t)=(M t).isSome
 at_:∀ t,D.atKey (.string t) (.lit (.int .i64 0))=.lit (.int .i64 ((M t).getD 0))
def OwnMi (w:World) (m n:Nat) (M:Txt→Option Int):Prop:=∃ D,w.ownsMap Tryz.prog 9 inR m n D∧MapN D M
set_option maxRecDepth 20000 in
theorem b8w (w:World):(zeroValue 3).run Tryz.prog w=.ok (.int .i64 0) w:=by kernel_rfl
section
variable {w:World} {m n:Nat} {M:Txt→Option Int}
set_option maxRecDepth 20000 in
theorem OwnMi.look (h:OwnMi w m n M) (t:Txt) (ht:t.length≤1000000) :
 (Instr.lookup 70 (.map (some m)) (.string (e_ t)) true).run Tryz.prog w=.ok (.tuple #[.int .i64 ((M t).getD 0),.bool (M t).isSome]) w:=by
 obtain ⟨D,h1,h2⟩:=h;obtain ⟨v,ps,hrun,hR⟩:=h1.look_ok b9Q Tryz.underlying70 (b8w w) (show inR (.int .i64 0)=some (.lit (.int .i64 0),[]) from rfl) (b9P t ht);rw [h2.at_ t] at hR;rw [hrun,b9X hR,h2.has t]
set_option maxRecDepth 20000 in
theorem OwnMi.put (h:OwnMi w m n M) (t:Txt) (z:Int) (ht:t.length≤1000000) (hn:n≤1000000) :
 ∃ w',(Instr.mapUpdate 70 (.map (some m)) (.string (e_ t)) (.int .i64 z)).run Tryz.prog w=.ok () w'∧OwnMi w' m (n+1) (fun x=>if x=t then some z else M x)∧Kept (f_ m) w w':=by
 obtain ⟨D,h1,h2⟩:=h;obtain ⟨w',hrun,hO,hg⟩:=h1.update b9Q Tryz.underlying70 (by unfold maxLen;omega) (b9P t ht) (show inR (.int .i64 z)=some (.lit (.int .i64 z),[]) from rfl);have hk:WideAt.IsKeyLit (.string t):=trivial;refine ⟨w',hrun,⟨D.put (.string t) (.lit (.int .i64 z)),hO,⟨?_,fun x=>?_,fun x=>?_⟩⟩,(Kept.of_grown hg).mono (fun k _ e=>by injection e with e;exact e.symm)⟩
 · obtain ⟨es,rfl⟩:=h2.map
   exact ⟨_,rfl⟩
 · by_cases e:x=t
   · subst e
     rw [if_pos rfl,has_put_same h2.map hk];rfl
   · rw [if_neg e,has_put_other (fun e9=>e (by injection e9)),h2.has]
 · by_cases e:x=t
   · subst e
     rw [if_pos rfl,atKey_put_same h2.map hk];rfl
   · rw [if_neg e,atKey_put_other (fun e9=>e (by injection e9)),h2.at_]
set_option maxRecDepth 20000 in
theorem OwnMi.made (w:World):OwnMi (w.alloc (.map #[] 0)) w.heap.size 0 (fun _=>none):=⟨.map [],World.ownsMap_made w Tryz.prog 9 inR,⟨⟨[],rfl⟩,fun _=>rfl,fun _=>rfl⟩⟩
theorem OwnMi.at (h:OwnMi w m n M) {w':World} (hb:w'.heap[m]?=w.heap[m]?):OwnMi w' m n M:=by
 obtain ⟨D,h1,h2⟩:=h;obtain ⟨es,clock,e1,e2,e3,e4⟩:=h1;exact ⟨D,⟨es,clock,hb.trans e1,e2,e3,e4⟩,h2⟩
theorem OwnMi.lt (h:OwnMi w m n M):m<w.heap.size:=by
 obtain ⟨D,h1,h2⟩:=h;exact h1.lt
theorem OwnMi.keep {w':World} {F:Nat→Prop} (h:OwnMi w m n M) (hk:Kept F w w') (hF:¬ F m):OwnMi w' m n M:=h.at (hk.block m h.lt hF)
end
structure Mvd (F F':Nat→Prop) (w w':World):Prop where
 kept:Kept F w w'
 new:∀ k,F' k→F k∨w.heap.size≤k
theorem Mvd.of_below {F:Nat→Prop} {w w':World} (h:Below w.heap.size w w'):Mvd F F w w':=⟨Kept.of_below h,fun _ hk=>Or.inl hk⟩
theorem Mvd.trans {F F' F'':Nat→Prop} {w u v:World} (h:Mvd F F' w u) (h2:Mvd F' F'' u v):Mvd F F'' w v:=
 ⟨h.kept.step h2.kept fun k hk hf=>(h.new k hf).resolve_right (by omega),fun k hk=>by
  rcases h2.new k hk with h3 | h3
  · exact h.new k h3
  · exact Or.inr (Nat.le_trans h.kept.size h3)⟩
def idM (K:List Kr) (t:Txt):Option Int:=if t∈K.map a0T then some ((K.map a0T).idxOf t:Int) else none
theorem b0k:∀ (K:List Kr) (x:Kr),(K.map a0T).idxOf (a0T x)=K.idxOf x
 | [],_=>rfl
 | y :: K,x=>by
  rw [List.map_cons,List.idxOf_cons,List.idxOf_cons,b0k K x];by_cases e:y=x
  · subst e
    simp
  · have e2:a0T y≠a0T x:=fun h=>e (a6p h)
    rw [beq_eq_false_iff_ne.2 e,beq_eq_false_iff_ne.2 e2]
theorem b3M {K:List Kr} {x:Kr}:a0T x∈K.map a0T↔x∈K:=by
 rw [List.mem_map];exact ⟨fun ⟨y,h1,h2⟩=>a6p h2▸h1,fun h=>⟨x,h,rfl⟩⟩
theorem b3S {K:List Kr} {x:Kr} (h:x∈K):idM K (a0T x)=some (K.idxOf x:Int):=by
 unfold idM;rw [if_pos (b3M.2 h),b0k]
theorem c2d {K:List Kr} {x:Kr} (h:x ∉ K):idM K (a0T x)=none:=by
 unfold idM;rw [if_neg (fun e=>h (b3M.1 e))]
theorem b6N {K:List Kr} {x:Kr} (h:x ∉ K):(fun t=>if t=a0T x then some (K.length:Int) else idM K t)=idM (K++[x]):=by
 funext t
 by_cases e:t=a0T x
 · subst e
   rw [if_pos rfl,b3S (K:=K++[x]) (by simp),List.idxOf_append,if_neg h,List.idxOf_cons_self,Nat.zero_add]
 · rw [if_neg e]
   unfold idM;by_cases e2:t∈K.map a0T
   · rw [if_pos e2,if_pos (show t∈(K++[x]).map a0T by rw [List.map_append];exact List.mem_append_left _ e2),List.map_append,List.idxOf_append,if_pos e2]
   · rw [if_neg e2,if_neg (show ¬ t∈(K++[x]).map a0T from fun h9=>by
      rw [List.map_append,List.mem_append] at h9;rcases h9 with h9 | h9
      · exact e2 h9
      · exact e (by simpa using h9))]
def bdC (n:Nat) (vs:List (Value×Nat)):List (Value×Value):=vs.map fun p=>(p.1,.slice (some ⟨p.2,0,none⟩) n n)
theorem b4X (n:Nat) (vs:List (Value×Nat)):(bdC n vs).length=vs.length:=by unfold bdC;rw [List.length_map]
theorem b7y (n:Nat) (vs:List (Value×Nat)) (kv:Value) (nb:Nat):J_ (bdC n (vs++[(kv,nb)]))=J_ (bdC n vs)++[kv,.slice (some ⟨nb,0,none⟩) n n]:=by
 unfold bdC;rw [List.map_append,a4a];rfl
structure BdO (B bb mm n:Nat) (rv nv lv pv:Value) (st:Int) (sv:Value) (F:Nat→Prop) (w:World) (tv:Value) (vs:List (Value×Nat)) (L:List St):Prop where
 blk:w.heap[bb]?=some (.cells #[rv,nv,lv,pv,.int .i64 st,sv,.int .i64 (n:Int),tv,.map (some mm)] 72 (0,0))
 len:vs.length=L.length
 row:w.ownsRow B 43 2 tv vs.length (J_ (bdC n vs))
 ker:∀ j (h:j<L.length) (h':j<vs.length),Its w vs[j].1 L[j].1
 nxt:∀ j (h:j<L.length) (h':j<vs.length),w.heap[vs[j].2]?=some (.cells (k_ L[j].2).toArray 3 (0,0))∧L[j].2.length=n
 one:∀ p∈vs,p.1.oneCell'=true
 kF:∀ p∈vs,∀ k,p.1.ownBlock=some k→¬ F k∧k<w.heap.size
 nF:∀ p∈vs,F p.2∧p.2≠bb∧p.2≠mm∧tv.ownBlock≠some p.2
 nd:(vs.map Prod.snd).Nodup
 map:OwnMi w mm L.length (idM (L.map Prod.fst))
 rF:∀ k,tv.ownBlock=some k→F k∧k≠bb∧k≠mm
 mF:F mm∧mm≠bb
 inF:F bb
 lt:∀ k,F k→k<w.heap.size∧B≤k
section
variable {B bb mm n:Nat} {rv nv lv pv:Value} {st:Int} {sv:Value} {F:Nat→Prop} {w:World} {tv:Value} {vs:List (Value×Nat)} {L:List St}
theorem BdO.kept (h:BdO B bb mm n rv nv lv pv st sv F w tv vs L) {G:Nat→Prop} {u:World} (hk:Kept G w u) (hG:∀ k,F k→¬ G k) (hv:∀ p∈vs,∀ k,p.1.ownBlock=some k→¬ G k):BdO B bb mm n rv nv lv pv st sv F u tv vs L where
 blk:=hk.blk h.blk (hG _ h.inF)
 len:=h.len
 row:=a0Y h.row hk fun k e=>hG k (h.rF k e).1
 ker j h1 h2:=(h.ker j h1 h2).stepB hk.size fun k e hl=>hk.block k hl (hv _ (List.getElem_mem h2) k e)
 nxt j h1 h2:=⟨hk.blk (h.nxt j h1 h2).1 (hG _ (h.nF _ (List.getElem_mem h2)).1),(h.nxt j h1 h2).2⟩
 one:=h.one
 kF p hp k e:=⟨(h.kF p hp k e).1,Nat.lt_of_lt_of_le (h.kF p hp k e).2 hk.size⟩
 nF:=h.nF
 nd:=h.nd
 map:=h.map.keep hk (hG _ h.mF.1)
 rF:=h.rF
 mF:=h.mF
 inF:=h.inF
 lt k hf:=⟨Nat.lt_of_lt_of_le (h.lt k hf).1 hk.size,(h.lt k hf).2⟩
theorem BdO.keep (h:BdO B bb mm n rv nv lv pv st sv F w tv vs L) {u:World} (hu:Below w.heap.size w u):BdO B bb mm n rv nv lv pv st sv F u tv vs L:=
 h.kept (Kept.of_below hu (F:=a7z)) (fun _ _ e=>e) (fun _ _ _ _ e=>e)
theorem BdO.add (h:BdO B bb mm n rv nv lv pv st sv F w tv vs L) {u u1 w':World} {x:Kr} {kv:Value} {nb g cap:Nat}
 (k1:Kept (f_ mm) w u) (hmap:OwnMi u mm (L.length+1) (idM (L.map Prod.fst++[x]))) (hb:Below u.heap.size u u1)
 (hnb:u1.heap[nb]?=some (.cells (k_ (List.replicate n (-1))).toArray 3 (0,0))) (hnew:u.heap.size≤nb)
 (hkv:Its w kv x) (h1:kv.oneCell'=true) (hkF:∀ k,kv.ownBlock=some k→¬ F k∧k<w.heap.size)
 (ho:w'.ownsRow B 43 2 (.slice (some ⟨g,0,none⟩) (L.length+1) cap) (L.length+1) (J_ (bdC n vs)++[kv,.slice (some ⟨nb,0,none⟩) n n])) (hg:u1.grownBy w' tv.ownBlock) (hat:tv.ownBlock=some g∨g=u1.heap.size) :
 ∃ F',BdO B bb mm n rv nv lv pv st sv F' (w'.setCell ⟨bb,7,none⟩ (.slice (some ⟨g,0,none⟩) (L.length+1) cap)) (.slice (some ⟨g,0,none⟩) (L.length+1) cap) (vs++[(kv,nb)]) (L++[(x,List.replicate n (-1))])∧Mvd F F' w (w'.setCell ⟨bb,7,none⟩ (.slice (some ⟨g,0,none⟩) (L.length+1) cap)):=by
 have hs1:=k1.size;have hs2:=hb.size;have hs3:=hg.size;have k3:=Kept.of_grown hg;have hbbl:=(h.lt _ h.inF).1;have hmml:=(h.lt _ h.mF.1).1;have hnbl:nb<u1.heap.size:=u_ hnb;have htb:¬ tv.ownBlock=some bb:=fun e=>(h.rF _ e).2.1 rfl
 have htm:¬ tv.ownBlock=some mm:=fun e=>(h.rF _ e).2.2 rfl
 have htn:¬ tv.ownBlock=some nb:=fun e=>by have:=(h.lt _ (h.rF _ e).1).1;omega
 have hlow:∀ k,k<w.heap.size→k≠mm→¬ tv.ownBlock=some k→k≠bb→(w'.setCell ⟨bb,7,none⟩ (.slice (some ⟨g,0,none⟩) (L.length+1) cap)).heap[k]?=w.heap[k]?:=fun k hk e1 e2 e3=>by
  rw [Below.heap_setCell w' ⟨bb,7,none⟩ _ k e3,k3.block k (by omega) e2,hb.block k (by omega),k1.block k hk e1]
 have hb2:u1.heap[bb]?=_:=(hb.block bb (by omega)).trans ((k1.block bb hbbl (fun e=>h.mF.2 e.symm)).trans h.blk);have hb3:=k3.blk hb2 htb
 have hgb:g≠bb:=by
  rcases hat with e | e
  · exact fun e2=>htb (by rw [← e2];exact e)
  · omega
 have hgm:g≠mm:=by
  rcases hat with e | e
  · exact fun e2=>htm (by rw [← e2];exact e)
  · omega
 have hgn:g≠nb:=by
  rcases hat with e | e
  · exact fun e2=>htn (by rw [← e2];exact e)
  · omega
 have hsz:(w'.setCell ⟨bb,7,none⟩ (.slice (some ⟨g,0,none⟩) (L.length+1) cap)).heap.size=w'.heap.size:=World.size_setCell ..
 have kAll:Kept F w (w'.setCell ⟨bb,7,none⟩ (.slice (some ⟨g,0,none⟩) (L.length+1) cap)):=
  (((k1.mono fun k _ (e:k=mm)=>by rw [e];exact h.mF.1).step (Kept.of_below hb (F:=F)) (fun _ _ h=>h)).step k3 (fun k _ e=>(h.rF k e).1)).setCell fun _=>h.inF
 have hX:Its (w'.setCell ⟨bb,7,none⟩ (.slice (some ⟨g,0,none⟩) (L.length+1) cap)) kv x:=hkv.stepB kAll.size fun k e hl=>kAll.block k hl (hkF k e).1
 have hg1:g<w'.heap.size∧B≤g:=⟨(ho.lt g rfl).2,(ho.lt g rfl).1⟩
 have hnbv:(w'.setCell ⟨bb,7,none⟩ (.slice (some ⟨g,0,none⟩) (L.length+1) cap)).heap[nb]?=some (.cells (k_ (List.replicate n (-1))).toArray 3 (0,0)):=by
  rw [Below.heap_setCell w' ⟨bb,7,none⟩ _ nb (by show nb≠bb;omega),k3.block nb hnbl htn];exact hnb
 refine ⟨fun k=>F k∨k=g∨k=nb,⟨heap_setCell hb3,by rw [List.length_append,List.length_append,h.len];rfl,?_,fun j j1 j2=>?_,fun j j1 j2=>?_,fun p hp=>?_,fun p hp k e=>?_,fun p hp=>?_,?_,?_,fun k e=>?_,⟨.inl h.mF.1,h.mF.2⟩,.inl h.inF,fun k e=>?_⟩,kAll,fun k e=>?_⟩
 · rw [b7y,List.length_append,h.len]
   exact a0z ho (fun e=>hgb (by injection e))
 · by_cases hj:j<vs.length
   · rw [List.getElem_append_left hj,List.getElem_append_left (by rw [← h.len];exact hj)]
     exact (h.ker j (by rw [← h.len];exact hj) hj).stepB kAll.size fun k e hl=>kAll.block k hl (h.kF _ (List.getElem_mem hj) k e).1
   · obtain rfl:j=vs.length:=by rw [List.length_append,List.length_singleton] at j2;omega
     simp only [List.getElem_concat_length,h.len];exact hX
 · by_cases hj:j<vs.length
   · rw [List.getElem_append_left hj,List.getElem_append_left (by rw [← h.len];exact hj)]
     have h9:=h.nF _ (List.getElem_mem hj);obtain ⟨h5,h6⟩:=h.nxt j (by rw [← h.len];exact hj) hj;exact ⟨(hlow _ (h.lt _ h9.1).1 h9.2.2.1 h9.2.2.2 h9.2.1).trans h5,h6⟩
   · obtain rfl:j=vs.length:=by rw [List.length_append,List.length_singleton] at j2;omega
     simp only [List.getElem_concat_length,h.len];exact ⟨hnbv,List.length_replicate⟩
 · rw [List.mem_append,List.mem_singleton] at hp
   rcases hp with hp | rfl
   · exact h.one p hp
   · exact h1
 · rw [List.mem_append,List.mem_singleton] at hp
   have key:¬ F k∧k<w.heap.size:=by
    rcases hp with hp | rfl
    · exact h.kF p hp k e
    · exact hkF k e
   refine ⟨fun e2=>?_,by omega⟩;rcases e2 with e2 | e2 | e2
   · exact key.1 e2
   · subst e2
     rcases hat with e3 | e3
     · exact key.1 (h.rF _ e3).1
     · omega
   · omega
 · rw [List.mem_append,List.mem_singleton] at hp
   rcases hp with hp | rfl
   · obtain ⟨h5,h6,h7,h8⟩:=h.nF p hp
     refine ⟨.inl h5,h6,h7,fun e=>?_⟩;have e:g=p.2:=by injection e
     rcases hat with e3 | e3
     · exact h8 (by rw [← e];exact e3)
     · have:=(h.lt _ h5).1
       omega
   · exact ⟨.inr (.inr rfl),by show nb≠bb;omega,by show nb≠mm;omega,fun e=>hgn (by injection e)⟩
 · rw [List.map_append,List.nodup_append]
   refine ⟨h.nd,by simp,fun a ha b hb9=>?_⟩;rw [List.map_singleton,List.mem_singleton] at hb9;obtain ⟨p,hp,rfl⟩:=List.mem_map.1 ha
   have:=(h.lt _ (h.nF p hp).1).1
   have hb9:b=nb:=hb9;omega
 · rw [List.length_append,List.map_append]
   refine hmap.at ?_;rw [Below.heap_setCell w' ⟨bb,7,none⟩ _ mm h.mF.2,k3.block mm (by omega) htm,hb.block mm (by omega)]
 · have e:g=k:=by injection e
   subst e;exact ⟨.inr (.inl rfl),hgb,hgm⟩
 · rcases e with e | rfl | rfl
   · exact ⟨by have:=(h.lt k e).1;omega,(h.lt k e).2⟩
   · rw [hsz]
     exact hg1
   · exact ⟨by omega,by have:=(h.lt _ h.inF).2;omega⟩
 · rcases e with e | rfl | rfl
   · exact .inl e
   · rcases hat with e3 | e3
     · exact .inl (h.rF _ e3).1
     · exact .inr (by omega)
   · exact .inr (by omega)
theorem BdO.put (h:BdO B bb mm n rv nv lv pv st sv F w tv vs L) {i:Nat} (hi:i<L.length) (hi':i<vs.length) (s:Nat) (z:Int) :
 BdO B bb mm n rv nv lv pv st sv F (w.setCell ⟨vs[i].2,s,none⟩ (.int .i64 z)) tv vs (L.set i (L[i].1,L[i].2.set s z))∧Mvd F F w (w.setCell ⟨vs[i].2,s,none⟩ (.int .i64 z)):=by
 have h9:=h.nF _ (List.getElem_mem hi');have kAll:Kept F w (w.setCell ⟨vs[i].2,s,none⟩ (.int .i64 z)):=(Kept.refl F w).setCell fun _=>h9.1
 have hsz:(w.setCell ⟨vs[i].2,s,none⟩ (.int .i64 z)).heap.size=w.heap.size:=World.size_setCell ..;have hoth:∀ k,k≠vs[i].2→(w.setCell ⟨vs[i].2,s,none⟩ (.int .i64 z)).heap[k]?=w.heap[k]?:=fun k e=>Below.heap_setCell w ⟨vs[i].2,s,none⟩ _ k e
 have hfst:(L.set i (L[i].1,L[i].2.set s z)).map Prod.fst=L.map Prod.fst:=by
  apply List.ext_getElem
  · simp
  · intro j h1 h2
    rw [List.getElem_map,List.getElem_map];by_cases e:i=j
    · subst e
      rw [List.getElem_set_self]
    · rw [List.getElem_set_ne e]
 refine ⟨⟨(hoth _ (fun e=>h9.2.1 e.symm)).trans h.blk,by rw [List.length_set];exact h.len,y_ h.row (fun k e=>hoth k fun e2=>h9.2.2.2 (by rw [← e2];exact e)),fun j j1 j2=>?_,fun j j1 j2=>?_,h.one,fun p hp k e=>⟨(h.kF p hp k e).1,by rw [hsz];exact (h.kF p hp k e).2⟩,h.nF,h.nd,?_,h.rF,h.mF,h.inF,fun k e=>by rw [hsz];exact h.lt k e⟩,kAll,fun k e=>.inl e⟩
 · have j1':j<L.length:=by simpa using j1
   have hold:=(h.ker j j1' j2).stepB kAll.size fun k e hl=>kAll.block k hl (h.kF _ (List.getElem_mem j2) k e).1
   by_cases e:i=j
   · subst e
     simp only [List.getElem_set_self];exact hold
   · rw [List.getElem_set_ne e]
     exact hold
 · have j1':j<L.length:=by simpa using j1
   obtain ⟨h5,h6⟩:=h.nxt j j1' j2;by_cases e:i=j
   · subst e
     simp only [List.getElem_set_self];refine ⟨?_,by rw [List.length_set];exact h6⟩
     have:=heap_setCell (o:=s) (v:=.int .i64 z) h5
     rw [List.setIfInBounds_toArray,a3i] at this;exact this
   · rw [List.getElem_set_ne e]
     refine ⟨(hoth _ fun e2=>e ?_).trans h5,h6⟩;have hnd:=h.nd;have q1:i<(vs.map Prod.snd).length:=by rw [List.length_map];exact hi'
     have q2:j<(vs.map Prod.snd).length:=by rw [List.length_map];exact j2
     exact (List.getElem?_inj q1 hnd).1 (by rw [List.getElem?_eq_getElem q1,List.getElem?_eq_getElem q2,List.getElem_map,List.getElem_map,e2])
 · rw [hfst,List.length_set]
   exact h.map.at (hoth _ (fun e=>h9.2.2.1 e.symm))
theorem b6n {u:World} {b:Nat} {X:List Int} (h:u.heap[b]?=some (.cells (k_ X).toArray 3 (0,0))):Nums u (.slice (some ⟨b,0,none⟩) X.length X.length) X:=
 ⟨_,_,rfl,Nat.le_refl _,fun e=>(by cases e),fun j hj=>⟨b,0,rfl,u_ h,c_ h (by rw [Nat.zero_add,List.getElem?_toArray];exact a1a hj)⟩⟩
theorem BdO.sts (h:BdO B bb mm n rv nv lv pv st sv F w tv vs L):Sts w tv L:=by
 have hr:=h.row;rcases hr.2 with ⟨rfl,h0⟩ | ⟨g,cap,cur,rfl,_,_,hc,_⟩
 · have:L=[]:=List.length_eq_zero_iff.1 (by rw [← h.len];exact h0)
   subst this;exact Lst.nil w
 · have hlt:=(hr.lt g rfl).2
   have hcells:=hr.cells (g:=g) rfl;refine ⟨some ⟨g,0,none⟩,cap,by rw [h.len],by rw [← h.len];exact hc,fun h=>(by cases h),fun j hj=>⟨g,0,rfl,hlt,?_⟩⟩;have hjv:j<vs.length:=by rw [h.len];exact hj
   obtain ⟨h1,h2⟩:=a0E (bdC n vs) j (by rw [b4X];exact hjv);have e1:=hcells _ _ h1;have e2:=hcells _ _ h2;rw [Go.WideShapes.add_plain] at e1 e2;obtain ⟨h5,h6⟩:=h.nxt j hj hjv;have h7:=b6n h5;rw [h6] at h7;refine ⟨_,_,e1,by rw [show 0+j * 2+1=0+(j * 2+1) by omega];exact e2,?_,?_⟩
   · simp only [bdC,List.getElem_map]
     exact h.ker j hj hjv
   · simp only [bdC,List.getElem_map]
     exact h7
end
end Go.Proofs.YtjgedijclkoemaaGreatDoor
namespace Go.Proofs.YtjgedijclkoemaaGreatDoor
noncomputable def b1R (K:List Kr) (x:Kr):List Kr:=open Classical in if x∈K then K else K++[x]
theorem b0b {K:List Kr} {x:Kr} (h:x∈K):b1R K x=K:=if_pos h
theorem b3C {K:List Kr} {x:Kr} (h:x ∉ K):b1R K x=K++[x]:=if_neg h
theorem b5w {g:Gm} {K:List Kr} {x:Kr} {s:Nat} (h:I_ g x (s:Int)≠[]):a2e g K x s=b1R K (I_ g x (s:Int)):=by
 unfold a2e b1R;rw [if_neg h]
theorem b2m {g:Gm} {K:List Kr} {x:Kr} {s:Nat} (h:I_ g x (s:Int)=[]):a2e g K x s=K:=by
 unfold a2e;rw [if_pos h]
noncomputable def a7T (g:Gm) (K:List Kr) (x:Kr) (t:Nat):List Int:=(List.range (g.all+1)).map fun s=>if s=0 then -1 else if s≤t then a2f g (K_ g K x s) x s else -1
theorem a2v (g:Gm) (K:List Kr) (x:Kr) (t:Nat):(a7T g K x t).length=g.all+1:=by
 unfold a7T;rw [List.length_map,List.length_range]
theorem a4r {g:Gm} {K:List Kr} {x:Kr} {t i:Nat} (h:i<(a7T g K x t).length):(a7T g K x t)[i]=if i=0 then -1 else if i≤t then a2f g (K_ g K x i) x i else -1:=by
 simp only [a7T,List.getElem_map,List.getElem_range]
theorem b4c (g:Gm) (K:List Kr) (x:Kr):List.replicate (g.all+1) (-1:Int)=a7T g K x 0:=by
 apply List.ext_getElem
 · rw [a2v,List.length_replicate]
 · intro i h1 h2
   rw [a4r,List.getElem_replicate];by_cases e:i=0
   · rw [if_pos e]
   · rw [if_neg e,if_neg (by omega)]
theorem b4d {g:Gm} {K:List Kr} {x:Kr} {t:Nat}:(a7T g K x t).set (t+1) (a2f g (K_ g K x (t+1)) x (t+1))=a7T g K x (t+1):=by
 apply List.ext_getElem
 · rw [List.length_set,a2v,a2v]
 · intro i h1 h2
   rw [List.getElem_set,a4r,a4r];by_cases e:t+1=i
   · subst e
     rw [if_pos rfl,if_neg (by omega),if_pos (Nat.le_refl _)]
   · rw [if_neg e]
     by_cases e0:i=0
     · rw [if_pos e0,if_pos e0]
     · rw [if_neg e0,if_neg e0]
       by_cases e1:i≤t
       · rw [if_pos e1,if_pos (by omega)]
       · rw [if_neg e1,if_neg (by omega)]
theorem b4e {g:Gm} {K:List Kr} {x:Kr} {t:Nat} (h:I_ g x ((t+1:Nat):Int)=[]):a7T g K x (t+1)=a7T g K x t:=by
 apply List.ext_getElem
 · rw [a2v,a2v]
 · intro i h1 h2
   rw [a4r,a4r];by_cases e:i=t+1
   · subst e
     rw [if_neg (by omega),if_pos (Nat.le_refl _),if_neg (by omega),if_neg (by omega)];unfold a2f;rw [if_pos h]
   · by_cases e0:i=0
     · rw [if_pos e0,if_pos e0]
     · rw [if_neg e0,if_neg e0]
       by_cases e1:i≤t
       · rw [if_pos e1,if_pos (by omega)]
       · rw [if_neg e1,if_neg (by omega)]
theorem b6Y (g:Gm) (K:List Kr) (x:Kr):a7T g K x g.all=a0J g (K_ g K x g.all) x:=by
 unfold a7T a0J;refine List.map_congr_left fun s hs=>?_
 rw [List.mem_range] at hs;by_cases e:s=0
 · rw [if_pos e,if_pos e]
 · rw [if_neg e,if_neg e,if_pos (by omega)]
   exact (a6d (a3Y g K x (by omega)) fun hk=>a3C (by omega) (Nat.le_refl _) hk).symm
noncomputable def a3h (g:Gm) (K:List Kr) (i:Nat) (M:List Kr):List (Kr×List Int):=M.mapIdx fun j x=>(x,if j<i then a0J g K x else List.replicate (g.all+1) (-1))
theorem F_ (g:Gm) (K:List Kr) (i:Nat) (M:List Kr):(a3h g K i M).length=M.length:=by unfold a3h;exact List.length_mapIdx
theorem a2Q {g:Gm} {K:List Kr} {i:Nat} {M:List Kr} {j:Nat} (h:j<M.length):(a3h g K i M)[j]'(by rw [F_];exact h)=(M[j],if j<i then a0J g K M[j] else List.replicate (g.all+1) (-1)):=by
 unfold a3h;rw [List.getElem_mapIdx]
theorem b3g {g:Gm} {K:List Kr} {i:Nat} {M:List Kr} (h:i≤M.length) (k:Kr):a3h g K i (M++[k])=a3h g K i M++[(k,List.replicate (g.all+1) (-1))]:=by
 unfold a3h;rw [List.mapIdx_append];congr 1
 simp only [List.mapIdx_cons,List.mapIdx_nil,Nat.zero_add];rw [if_neg (by omega)]
theorem b6e (g:Gm) (K:List Kr):a3h g K K.length K=a6c g K K.length:=by
 apply List.ext_getElem
 · rw [F_,a0i]
 · intro j h1 h2
   have hj:j<K.length:=by rw [a0i] at h2;exact h2
   have e2:(a6c g K K.length)[j]=(K[j],if j<K.length then a0J g K K[j] else []):=a0Z (K:=K) hj;rw [e2,a2Q hj,if_pos hj,if_pos hj]
noncomputable def lvY (g:Gm) (i t:Nat):List (Kr×List Int):=match (m_ g i)[i]? with
 | some x=>(a3h g (m_ g i) i (K_ g (m_ g i) x t)).set i (x,a7T g (m_ g i) x t)
 | none=>a3h g (m_ g i) i (m_ g i)
section
variable {g:Gm} {i:Nat}
theorem a1R (h:i<(m_ g i).length) (t:Nat):lvY g i t=(a3h g (m_ g i) i (K_ g (m_ g i) (m_ g i)[i] t)).set i ((m_ g i)[i],a7T g (m_ g i) (m_ g i)[i] t):=by
 unfold lvY;rw [List.getElem?_eq_getElem h]
theorem a8P (h:i<(m_ g i).length) (t:Nat):(lvY g i t).length=(K_ g (m_ g i) (m_ g i)[i] t).length:=by
 rw [a1R h,List.length_set,F_]
theorem a8Q (h:i<(m_ g i).length) (t:Nat):(lvY g i t).map Prod.fst=K_ g (m_ g i) (m_ g i)[i] t:=by
 have hp:=a0B g (m_ g i) (m_ g i)[i] t;rw [a1R h];apply List.ext_getElem
 · rw [List.length_map,List.length_set,F_]
 · intro j h1 h2
   rw [List.getElem_map,List.getElem_set];by_cases e:i=j
   · subst e
     rw [if_pos rfl];exact hp.getElem h
   · rw [if_neg e,a2Q h2]
theorem b9G (h:i<(m_ g i).length) (t:Nat):(lvY g i t)[i]'(by rw [a8P h];have:=(a0B g (m_ g i) (m_ g i)[i] t).length_le;omega)=((m_ g i)[i],a7T g (m_ g i) (m_ g i)[i] t):=by
 simp only [a1R h,List.getElem_set_self]
theorem b6x (h:i<(m_ g i).length):lvY g i 0=a3h g (m_ g i) i (m_ g i):=by
 rw [a1R h]
 show (a3h g (m_ g i) i (m_ g i)).set i _=_
 apply List.ext_getElem
 · rw [List.length_set]
 · intro j h1 h2
   have hj:j<(m_ g i).length:=by rw [F_] at h2;exact h2
   rw [List.getElem_set,a2Q hj];by_cases e:i=j
   · subst e
     rw [if_pos rfl,if_neg (Nat.lt_irrefl _),b4c]
   · rw [if_neg e]
theorem b6z (h:i<(m_ g i).length) {t:Nat} (hs:I_ g (m_ g i)[i] ((t+1:Nat):Int)=[]):lvY g i (t+1)=lvY g i t:=by
 rw [a1R h,a1R h,b4e hs]
 have:K_ g (m_ g i) (m_ g i)[i] (t+1)=K_ g (m_ g i) (m_ g i)[i] t:=b2m hs
 rw [this]
noncomputable def b5o (n:Nat) (L:List (Kr×List Int)) (x:Kr):List (Kr×List Int):=open Classical in if x∈L.map Prod.fst then L else L++[(x,List.replicate n (-1))]
theorem a6O {n:Nat} {L:List (Kr×List Int)} {x:Kr} (h:x∈L.map Prod.fst):b5o n L x=L:=if_pos h
theorem a6P {n:Nat} {L:List (Kr×List Int)} {x:Kr} (h:x ∉ L.map Prod.fst):b5o n L x=L++[(x,List.replicate n (-1))]:=if_neg h
theorem b7D (n:Nat) (L:List (Kr×List Int)) (x:Kr):L <+: b5o n L x:=by
 by_cases h:x∈L.map Prod.fst
 · rw [a6O h];exact List.prefix_refl _
 · rw [a6P h];exact List.prefix_append _ _
theorem b6y (h:i<(m_ g i).length) {t:Nat} {x:Kr} (hx:I_ g (m_ g i)[i] ((t+1:Nat):Int)=x) (hs:x≠[]) :
 lvY g i (t+1)=(b5o (g.all+1) (lvY g i t) x).set i ((m_ g i)[i],(a7T g (m_ g i) (m_ g i)[i] t).set (t+1) ((b1R ((lvY g i t).map Prod.fst) x).idxOf x:Int)):=by
 have hs':I_ g (m_ g i)[i] ((t+1:Nat):Int)≠[]:=by rw [hx];exact hs
 have hst:K_ g (m_ g i) (m_ g i)[i] (t+1)=b1R (K_ g (m_ g i) (m_ g i)[i] t) x:=by
  have:=b5w (K:=K_ g (m_ g i) (m_ g i)[i] t) hs'
  rw [hx] at this;exact this
 have hpl:=(a0B g (m_ g i) (m_ g i)[i] t).length_le
 have hn:a2f g (K_ g (m_ g i) (m_ g i)[i] (t+1)) (m_ g i)[i] (t+1)=((b1R ((lvY g i t).map Prod.fst) x).idxOf x:Int):=by
  unfold a2f;rw [if_neg hs',hst,a8Q h,hx]
 rw [← hn,b4d,a1R h (t+1),hst];have hset:∀ (L:List (Kr×List Int)) (j:Nat) (a b:Kr×List Int),(L.set j a).set j b=L.set j b:=fun L j a b=>List.set_set ..
 by_cases hm:x∈K_ g (m_ g i) (m_ g i)[i] t
 · rw [b0b hm,a6O (by rw [a8Q h];exact hm),a1R h t,hset]
 · rw [b3C hm,a6P (by rw [a8Q h];exact hm),a1R h t,b3g (by omega),List.set_append_left _ _ (by rw [F_];omega),List.set_append_left _ _ (by rw [List.length_set,F_];omega),hset]
theorem b6A (h:i<(m_ g i).length):lvY g i g.all=a3h g (m_ g (i+1)) (i+1) (m_ g (i+1)):=by
 have hp:=a1A g i;have hl:=hp.length_le;rw [a1R h,← W_ h];apply List.ext_getElem
 · rw [List.length_set,F_,F_]
 · intro j h1 h2
   have hj:j<(m_ g (i+1)).length:=by rw [F_] at h2;exact h2
   have e2:(a3h g (m_ g (i+1)) (i+1) (m_ g (i+1)))[j]=((m_ g (i+1))[j],if j<i+1 then a0J g (m_ g (i+1)) (m_ g (i+1))[j] else List.replicate (g.all+1) (-1)):=a2Q hj;rw [List.getElem_set,e2];by_cases e:i=j
   · subst e
     have ex:(m_ g (i+1))[i]=(m_ g i)[i]:=(hp.getElem h).symm;rw [if_pos rfl,if_pos (by omega),ex,b6Y,← W_ h]
   · rw [if_neg e,a2Q hj]
     by_cases e1:j<i
     · rw [if_pos e1,if_pos (by omega)]
       have hj1:j<(m_ g j).length:=by
        apply Classical.byContradiction
        intro hn
        have:=a0m (Nat.le_of_not_lt hn) i (by omega)
        rw [this] at h;omega
       have hji:=X_ g (show j+1≤i by omega);have hji2:=X_ g (show j+1≤i+1 by omega);have ex:(m_ g (i+1))[j]=(m_ g j)[j]:=((X_ g (show j≤i+1 by omega)).getElem hj1).symm;rw [W_ hj1] at hji hji2;rw [ex,a3J hji,a3J hji2]
     · rw [if_neg e1,if_neg (by omega)]
end
end Go.Proofs.YtjgedijclkoemaaGreatDoor
namespace Go.Proofs.YtjgedijclkoemaaGreatDoor
open Go.RowKit Go.Maps Go.Sort
def a3n (z:Int) (n k:Nat):List Int:=List.replicate k z++List.replicate (n - k) 0
theorem b5N {z:Int} {n k:Nat} (h:k≤n):(a3n z n k).length=n:=by unfold a3n;rw [List.length_append,List.length_replicate,List.length_replicate];omega
theorem b5O (z:Int) (n:Nat):a3n z n n=List.replicate n z:=by unfold a3n;rw [Nat.sub_self,List.replicate_zero,List.append_nil]
theorem b8W {z:Int} {n k j:Nat} (h:j<k):(k_ (a3n z n k))[j]?=some (.int .i64 z):=by
 unfold a3n k_;rw [List.getElem?_map,List.getElem?_append_left (by rw [List.length_replicate];exact h),List.getElem?_replicate,if_pos h];rfl
theorem b2I {z:Int} {n k c:Nat} (h:k+c≤n):splice (k_ (a3n z n k)) k (k_ (List.replicate c z))=k_ (a3n z n (k+c)):=by
 have e1:(List.replicate k (Value.int .i64 z)++List.replicate (n - k) (Value.int .i64 0)).take k=List.replicate k (Value.int .i64 z):=by
  rw [List.take_append_of_le_length (by rw [List.length_replicate];exact Nat.le_refl _),List.take_replicate,Nat.min_self]
 have e2:(List.replicate k (Value.int .i64 z)++List.replicate (n - k) (Value.int .i64 0)).drop (k+c)=List.replicate (n - (k+c)) (Value.int .i64 0):=by
  rw [List.drop_append,List.drop_replicate,List.drop_replicate,List.length_replicate,show k - (k+c)=0 by omega,show n - k - (k+c - k)=n - (k+c) by omega,List.replicate_zero,List.nil_append]
 unfold splice a3n k_;simp only [List.map_append,List.map_replicate,List.length_replicate];rw [e1,e2,← List.append_assoc,List.replicate_append_replicate]
set_option maxRecDepth 20000 in
theorem b4u {x:Nat} (h:x<9223372036854775808) (w:World):(convert 3 139 (.int .i64 (x:Int))).run Tryz.prog w=.ok (.int .u64 (x:Int)) w:=by
 have:IntKind.u64.wrap (x:Int)=x:=by rw [IntKind.wrap_u64];omega
 have h2:(convert 3 139 (.int .i64 (x:Int))).run Tryz.prog w=.ok (.int .u64 (IntKind.u64.wrap (x:Int))) w:=by
  simp [go_sem,convert]
 rw [h2,this]
set_option maxRecDepth 20000 in
theorem c0r {x:Nat} (h:x<9223372036854775808) (w:World):(convert 139 3 (.int .u64 (x:Int))).run Tryz.prog w=.ok (.int .i64 (x:Int)) w:=by
 have:IntKind.i64.wrap (x:Int)=x:=by rw [IntKind.wrap_i64];omega
 have h2:(convert 139 3 (.int .u64 (x:Int))).run Tryz.prog w=.ok (.int .i64 (IntKind.i64.wrap (x:Int))) w:=by
  simp [go_sem,convert]
 rw [h2,this]
set_option maxRecDepth 20000 in
theorem b0X {ops:Array Oper} {o:Oper} {a:Act} {w:World} {K:Act→World→Prop} {Q:Exit→Act→World→Prop} {E:Prop} (hgd:o.guard=none) (s x:Operand) (t:TypeId)
 (ho:o.op=.call { callee:=.builtin .copy,args:=#[s,x],argTypes:=#[t,t] }) (v vx:Value) (hs:a.eval s=v) (hx:a.eval x=vx) {v':Value} {w':World}
 (hr:(Builtin.copy_ #[t,t] o.type #[v,vx]).run Tryz.prog w=.ok v' w') (h:K (a.put o.dst v') w'):if Region.wanted o (yielded ops a.tmps)=true then Oper.wp Tryz.prog o a w K Q else E:=by
 have hw:Region.wanted o (yielded ops a.tmps)=true:=by simp [Region.wanted,hgd]
 rw [if_pos hw];unfold Oper.wp;simp [execOp,ho,resolve,invoke,builtin,hs,hx,hr,Result.andThen]
 exact h
set_option maxRecDepth 20000 in
theorem a7X {z:Int} {n k c so:Nat} {sb sl sc:Nat} {u:World} {nb dc:Nat} (hg:u.heap[nb]?=some (.cells (k_ (a3n z n k)).toArray 3 (0,0))) (hk:k≤n) (hc:c=Nat.min sl (n - k)) (hs:∀ j,j<c→u.cell? ⟨sb,so+j,none⟩=some (.int .i64 z)) :
 ∃ u',(Builtin.copy_ #[41,41] 3 #[.slice (some ⟨nb,k,none⟩) (n - k) dc,.slice (some ⟨sb,so,none⟩) sl sc]).run Tryz.prog u=.ok (.int .i64 (c:Int)) u'∧u'.heap[nb]?=some (.cells (k_ (a3n z n (k+c))).toArray 3 (0,0))∧∀ B w0,Below B w0 u→B≤nb→Below B w0 u':=by
 have hle:c≤n - k:=by rw [hc];exact Nat.min_le_right _ _
 have hsz:(Tryz.prog.info? 3).map (·.size)=some 1:=by kernel_rfl
 have hlen:(k_ (List.replicate c z)).length=c:=by rw [a0s,List.length_replicate]
 have hrun:=run_copy_row (P:=Tryz.prog) u 41 41 3 3 nb k (n - k) dc ⟨sb,so,none⟩ sl sc (k_ (a3n z n k)).toArray 3 (k_ (List.replicate c z)) Tryz.underlying41 hsz hg (by rw [hlen];exact hc) (fun j v hj=>by
  have hjc:j<c:=by rw [← hlen];exact (List.getElem?_eq_some_iff.1 hj).1
  have e:v=.int .i64 z:=by
   unfold k_ at hj;rw [List.getElem?_map,List.getElem?_replicate,if_pos hjc] at hj;injection hj with hj;exact hj.symm
  subst e;rw [Go.WideShapes.add_plain];exact hs j hjc) (by rw [List.size_toArray,hlen,a0s,b5N hk];omega) (a1u _)
 rw [hlen] at hrun;refine ⟨_,hrun,?_,fun B w0 hb hB=>below_setRow hb hB _⟩;have h1:=setRow_heap u nb (k_ (a3n z n k)).toArray ((k_ (a3n z n k)).take k++k_ (List.replicate c z)++(k_ (a3n z n k)).drop (k+c)).toArray 3 _ hg
 have h2:(k_ (a3n z n k)).take k++k_ (List.replicate c z)++(k_ (a3n z n k)).drop (k+c)=k_ (a3n z n (k+c)):=by
  rw [← b2I (by omega),splice,hlen,List.append_assoc]
 rw [h2] at h1
 show (World.setRow u nb ((k_ (a3n z n k)).take k++k_ (List.replicate c z)++(k_ (a3n z n k)).drop (k+c)).toArray).heap[nb]?=_
 rw [h2];exact h1
set_option maxRecDepth 100000 in
set_option maxHeartbeats 4000000 in
theorem b8V (lb n:Nat) (z:Int) (w:World) (h0:0<n) (hn:n≤1000000) (hl:w.heap[lb]?=some (.cells #[.int .i64 z] 3 (0,0))) :
 Calls Tryz.prog 48 #[.slice (some ⟨lb,0,none⟩) 1 1,.int .i64 (n:Int)] w fun e w'=>∃ nb,e=.returned (.slice (some ⟨nb,0,none⟩) n n)∧w'.heap[nb]?=some (.cells (k_ (List.replicate n z)).toArray 3 (0,0))∧w.heap.size≤nb∧Below w.heap.size w w':=by
 have c1:∀ w,(convert 3 139 (.int .i64 1)).run Tryz.prog w=.ok (.int .u64 1) w:=b4u (x:=1) (by omega);have c2:=b4u (x:=n) (by omega);have c3:=c0r (x:=n) (by omega);have GM:Hid (Calls Tryz.prog 72 #[.int .u64 1,.int .u64 (n:Int)] w fun e w'=>e=.returned (.tuple #[.int .u64 0,.int .u64 (n:Int)])∧w'=w):=hid ((Tryz.bits_Mul 1 n (by omega) (by omega) w).mono fun e w' ⟨h1,h2⟩=>⟨by rw [h1,Nat.one_mul,Nat.div_eq_of_lt (by omega),Nat.mod_eq_of_lt (by omega)];rfl,h2⟩);have hsz:(Tryz.prog.info? 3).map (·.size)=some 1:=by kernel_rfl
 obtain ⟨i0,hi,hz0,hz1,hz2⟩:=info_parts Tryz.info3
 have hmk:(Instr.makeSlice 41 (.int .i64 (n:Int)) (.int .i64 (n:Int))).run Tryz.prog w=.ok (.slice (some ⟨w.heap.size,0,none⟩) n n) (w.alloc (.cells (madeCells #[.int .i64 0] n) 3)):=by
  have hr:=run_make (P:=Tryz.prog) w 41 3 i0 (.int .i64 0) Tryz.underlying41 hi hz0 .i64 .i64 (n:Int) (n:Int) (by omega) (by omega) (by rw [hz2];omega) (by omega);rw [hz1,Int.toNat_natCast,Nat.mul_one] at hr;exact hr
 obtain ⟨W,hW⟩:∃ x,w.alloc (.cells (madeCells #[.int .i64 0] n) 3)=x:=⟨_,rfl⟩;have hB1:Below w.heap.size w W:=by rw [← hW];exact al' w _
 have hg0:W.heap[w.heap.size]?=some (.cells (k_ (a3n z n 0)).toArray 3 (0,0)):=by
  rw [← hW,b_]
  have e:(k_ (a3n z n 0)).toArray=madeCells #[.int .i64 0] n:=by
   apply Array.toList_inj.1
   rw [toList_madeCells_one];simp [a3n,k_]
  rw [e]
 have hl1:W.heap[lb]?=some (.cells #[.int .i64 z] 3 (0,0)):=g_ hl hB1;have hc1:W.cell? ⟨lb,0,none⟩=some (.int .i64 z):=c_ hl1 rfl;obtain ⟨nb,hnb⟩:∃ x,w.heap.size=x:=⟨_,rfl⟩;have hW':=hW;rw [hnb] at hB1 hg0;have hB1:=hid hB1;have hg0:=hid hg0;have hnz:(0:Int)≤(n:Int):=by omega
 have hn1:¬ (n:Int)<0:=by omega
 have hn2:¬ (9223372036854775807:Int)<(n:Int):=by omega
 have h1n:(1:Int)≤(n:Int):=by omega
 obtain ⟨W2,hcp,hg2,hb2⟩:=a7X (z:=z) (n:=n) (k:=0) (c:=1) (so:=0) (sb:=lb) (sl:=1) (sc:=1) (nb:=nb) (dc:=n) hg0.out (Nat.zero_le _) (Nat.min_eq_left (by omega)).symm (fun j hj=>by obtain rfl:j=0:=(by omega);exact hc1);have hcp:(Builtin.copy_ #[41,41] 3 #[.slice (some ⟨nb,0,none⟩) n n,.slice (some ⟨lb,0,none⟩) 1 1]).run Tryz.prog W=.ok (.int .i64 1) W2:=hcp;have hg2:=hid hg2;have hb2:=hid (hb2 nb w hB1.out (Nat.le_refl _));have hnbH:=hid hnb;clear hl hl1;rw [hnb];go_enter Tryz.func48,Tryz.ntmps48
 go_wp2_with (go_at_call 72;refine GM.out.mono ?_;clear GM;rintro e w1 ⟨rfl,rfl⟩)
 clear hW hW' hmk hcp hg0 hB1 c1 c2 c3 hc1;go_loopw [8] (fun v wr=>∃ k:Nat,0<k∧k≤n∧v=.int .i64 (k:Int)∧Hid (wr.heap[nb]?=some (.cells (k_ (a3n z n k)).toArray 3 (0,0)))∧Hid (Below nb w1 wr)) (fun v _=>n - (intOf v).toNat)
 case atStart=>exact ⟨1,by omega,by omega,rfl,hg2,hb2⟩
 case round =>
  clear hg2 hb2;obtain ⟨k,h1,hk,rfl,hG,hbl⟩:=hrel;by_cases hlt:k<n
  · have hltz:(k:Int)<(n:Int):=by omega
    have hkz:(0:Int)≤(k:Int):=by omega
    have hnk:¬ n=k:=by omega
    have hkn:(k:Int)≤(n:Int):=by omega
    obtain ⟨c,hc⟩:∃ c,c=Nat.min k (n - k):=⟨_,rfl⟩;have hc':c=min k (n - k):=hc;have hcs:0<c∧k+c≤n:=by omega
    have hGd:wr.drew.heap[nb]?=some (.cells (k_ (a3n z n k)).toArray 3 (0,0)):=hG.out;obtain ⟨u9,hrun,hg9,hb9⟩:=a7X (z:=z) (n:=n) (k:=k) (c:=c) (so:=0) (sb:=nb) (sl:=k) (sc:=n) (nb:=nb) (dc:=n - k) hGd hk hc (fun j hj=>c_ hGd (by rw [Nat.zero_add,List.getElem?_toArray];exact b8W (by omega)));have hg9:=hid hg9;have hb9:=hid (hb9 nb w1 hbl.out.drew (Nat.le_refl _));clear hGd;have hsum:IntKind.i64.wrap ((k:Int)+(c:Int))=((k+c:Nat):Int):=by rw [IntKind.wrap_i64];omega
    clear hc hc';go_wp2_with fail
    go_region_held3 (fun _=>True) (trivial) ((refine b0X (by rfl) (.tmp 41) (.tmp 44) 41 (by rfl) _ _ (by first | rfl | (show Value.slice (if n=k then _ else _) _ _=_;rw [if_neg hnk])) (by rfl) hrun ?_))
    all_goals
     go_wp2;go_roundw
     case rel=>exact ⟨k+c,by omega,hcs.2,by go_num,hg9,hb9⟩
     case measure=>simp [intOf];omega
  · have hltz:¬ (k:Int)<(n:Int):=by omega
    obtain rfl:k=n:=by omega
    have hG9:=hG.out;rw [b5O] at hG9;have hG9:=hid hG9;go_wp2;go_ret;exact ⟨nb,rfl,hG9.out,by omega,hbl.out⟩
end Go.Proofs.YtjgedijclkoemaaGreatDoor
