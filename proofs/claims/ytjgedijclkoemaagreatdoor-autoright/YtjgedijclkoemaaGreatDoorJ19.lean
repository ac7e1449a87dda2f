/- What the five laws of layer 17 share, part 19: no statement of its own. -/
import Derived.Test.YtjgedijclkoemaaGreatDoorJ18
import Derived.Shelf.SlSortCmp.NoneTotal
import Derived.Shelf.SlicesQ.IndexFunc
namespace Go.Proofs.YtjgedijclkoemaaGreatDoor
open Go.RowKit Go.Maps Go.Sort
structure TagI (w0:World) (τ:Nat→Nat) (w:World):Prop where
 low:Below w0.heap.size w0 w
 new:∀ k,w.heap.size≤k→τ k=0
structure StepT (w0:World) (t:Nat) (τ:Nat→Nat) (w:World) (τ':Nat→Nat) (w':World):Prop where
 size:w.heap.size≤w'.heap.size
 blk:∀ k,k<w.heap.size→(w0.heap.size≤k→τ k≠t)→w'.heap[k]?=w.heap[k]?
 tag:∀ k,k<w.heap.size→τ k≠t→τ' k=τ k
structure RowT (w0:World) (t:Nat) (l:List It) (τ:Nat→Nat) (w:World) (v:Value):Prop where
 own:OwnIt w w0.heap.size v l
 tag:∀ k,v.ownBlock=some k→τ k=t
theorem Its.stepB {w w':World} {v:Value} {l:List It} (h:Its w v l) (hs:w.heap.size≤w'.heap.size) (hb:∀ k,v.ownBlock=some k→k<w.heap.size→w'.heap[k]?=w.heap[k]?):Its w' v l:=by
 obtain ⟨a,cap,rfl,hc,hn,hat⟩:=h;refine ⟨a,cap,rfl,hc,hn,fun j hj=>?_⟩;obtain ⟨b,o,rfl,hlt,h1,h2⟩:=hat j hj;have he:∀ p,w'.cell? ⟨b,p,none⟩=w.cell? ⟨b,p,none⟩:=fun p=>World.cell?_of_block (w:=w) (hb b rfl hlt)
 exact ⟨b,o,rfl,Nat.lt_of_lt_of_le hlt hs,by rw [he];exact h1,by rw [he];exact h2⟩
theorem Nums.stepB {w w':World} {v:Value} {l:List Int} (h:Nums w v l) (hs:w.heap.size≤w'.heap.size) (hb:∀ k,v.ownBlock=some k→k<w.heap.size→w'.heap[k]?=w.heap[k]?):Nums w' v l:=by
 obtain ⟨a,cap,rfl,hc,hn,hat⟩:=h;refine ⟨a,cap,rfl,hc,hn,fun j hj=>?_⟩;obtain ⟨b,o,rfl,hlt,h1⟩:=hat j hj;have he:∀ p,w'.cell? ⟨b,p,none⟩=w.cell? ⟨b,p,none⟩:=fun p=>World.cell?_of_block (w:=w) (hb b rfl hlt)
 exact ⟨b,o,rfl,Nat.lt_of_lt_of_le hlt hs,by rw [he];exact h1⟩
def StabB (H:World→Value→Prop):Prop:=∀ w w' v,H w v→w.heap.size≤w'.heap.size→(∀ k,v.ownBlock=some k→k<w.heap.size→w'.heap[k]?=w.heap[k]?)→H w' v
def c3c (H:World→Value→Prop):Prop:=∀ w w' v,H w v→w.heap.size≤w'.heap.size→(∀ k,k<w.heap.size→w'.heap[k]?=w.heap[k]?)→H w' v
structure Cl where
 val:Option Value
 own:Option (Nat×List It)
 off:Option { H:World→Value→Prop // StabB H }
 low:Option { H:World→Value→Prop // c3c H }
def OffT (w0:World) (H:World→Value→Prop) (τ:Nat→Nat) (w:World) (v:Value):Prop:=(∀ w',H w' v)∨(H w v∧∀ k,v.ownBlock=some k→k<w.heap.size∧(w0.heap.size≤k→τ k=0))
def Cl.holds (c:Cl) (w0:World) (τ:Nat→Nat) (w:World) (v:Value):Prop:=
 (∀ V,c.val=some V→v=V)∧(∀ t l,c.own=some (t,l)→RowT w0 t l τ w v)∧(∀ H,c.off=some H→OffT w0 H.1 τ w v)∧∀ H,c.low=some H→H.1 w v
theorem OffT.at {w0:World} {H:World→Value→Prop} {τ:Nat→Nat} {w:World} {v:Value} (h:OffT w0 H τ w v):H w v:=h.elim (fun h=>h w) (fun h=>h.1)
def clV (V:Value):Cl:=⟨some V,none,none,none⟩
def clA:Cl:=⟨none,none,none,none⟩
theorem Cl.step {c:Cl} {w0:World} {t:Nat} {τ τ':Nat→Nat} {w w':World} {v:Value} (h:c.holds w0 τ w v) (hs:StepT w0 t τ w τ' w') (ht:t≠0) (hc:∀ t' l,c.own=some (t',l)→t'≠t) (hlw:c.low=none∨∀ k,k<w.heap.size→w'.heap[k]?=w.heap[k]?):c.holds w0 τ' w' v:=by
 refine ⟨h.1,fun t' l e=>?_,fun H e=>?_,fun H e=>?_⟩
 · have ho:=h.2.1 t' l e
   have hlt:∀ k,v.ownBlock=some k→k<w.heap.size:=fun k hk=>(ho.own.lt k hk).2
   exact ⟨y_ ho.own fun k hk=>hs.blk k (hlt k hk) fun _=>by rw [ho.tag k hk];exact hc t' l e,fun k hk=>by rw [hs.tag k (hlt k hk) (by rw [ho.tag k hk];exact hc t' l e)];exact ho.tag k hk⟩
 · rcases h.2.2.1 H e with h1 | ⟨h1,h2⟩
   · exact .inl h1
   · refine .inr ⟨H.2 w w' v h1 hs.size fun k hk hlt=>hs.blk k hlt fun hB=>by rw [(h2 k hk).2 hB];exact fun e=>ht e.symm,fun k hk=>?_⟩
     have hlt:=(h2 k hk).1;exact ⟨Nat.lt_of_lt_of_le hlt hs.size,fun hB=>by rw [hs.tag k hlt (by rw [(h2 k hk).2 hB];exact fun e=>ht e.symm)];exact (h2 k hk).2 hB⟩
 · rcases hlw with h1 | h1
   · rw [h1] at e;cases e
   · exact H.2 w w' v (h.2.2.2 H e) hs.size h1
theorem A_ (V:Value) (w0:World) (τ:Nat→Nat) (w:World):(clV V).holds w0 τ w V:=⟨fun _ e=>(by injection e),fun _ _ e=>(by cases e),fun _ e=>(by cases e),fun _ e=>(by cases e)⟩
theorem V_ {V v:Value} {w0:World} {τ:Nat→Nat} {w:World} (h:(clV V).holds w0 τ w v):v=V:=h.1 V rfl
def c5d (B:Nat) (w:World) (v:Value):Prop:=∀ k,v.ownBlock=some k→B≤k∧k<w.heap.size
theorem TagI.startD (w:World):TagI w (fun _=>0) w.drew:=⟨(Below.refl _ _).drew,fun _ _=>rfl⟩
theorem TagI.call {w0 w w':World} {τ:Nat→Nat} (h:TagI w0 τ w) (hb:Below w.heap.size w w'):TagI w0 τ w'∧∀ t,StepT w0 t τ w τ w':=
 ⟨⟨a_ h.low hb,fun k hk=>h.new k (Nat.le_trans hb.size hk)⟩,fun _=>⟨hb.size,fun k hk _=>hb.block k hk,fun _ _ _=>rfl⟩⟩
theorem OffT.fresh {w0 w w':World} {τ:Nat→Nat} {H:World→Value→Prop} {v:Value} (h:TagI w0 τ w) (hH:H w' v) (hn:c5d w.heap.size w' v):OffT w0 H τ w' v:=
 .inr ⟨hH,fun k hk=>⟨(hn k hk).2,fun _=>h.new k (hn k hk).1⟩⟩
def b3b (C:List Cl) (use:Nat→Option Nat) (i t:Nat):Bool:=(List.range C.length).all fun j=>decide (j=i) || decide (use j=some i) || match (C.getD j clA).own with
 | some p=>p.1 != t
 | none=>(C.getD j clA).low.isNone
theorem b6d {C:List Cl} {use:Nat→Option Nat} {i t:Nat} (h:b3b C use i t=true) {j:Nat} (hj:j≠i) (hu:use j≠some i) {t':Nat} {l:List It} (e:(C.getD j clA).own=some (t',l)):t'≠t:=by
 rcases Nat.lt_or_ge j C.length with hl | hl
 · unfold b3b at h
   rw [List.all_eq_true] at h
   have:=h j (List.mem_range.2 hl)
   rw [e,decide_eq_false hj,decide_eq_false hu] at this;simpa using this
 · rw [List.getD_eq_getElem?_getD,List.getElem?_eq_none hl] at e
   cases e
def Cl.good (c:Cl):Bool:=c.own.isNone || c.low.isNone
theorem b3a {C:List Cl} {use:Nat→Option Nat} {i t:Nat} (hg:C.all Cl.good=true) (h:b3b C use i t=true) {j:Nat} (hj:j≠i) (hu:use j≠some i):(C.getD j clA).low=none:=by
 rcases Nat.lt_or_ge j C.length with hl | hl
 · unfold b3b at h
   rw [List.all_eq_true] at h hg;have h1:=h j (List.mem_range.2 hl);have h2:=hg C[j] (List.getElem_mem hl);have e:C.getD j clA=C[j]:=by rw [List.getD_eq_getElem?_getD,List.getElem?_eq_getElem hl,Option.getD_some]
   rw [e,decide_eq_false hj,decide_eq_false hu] at h1;rw [e];unfold Cl.good at h2;cases ho:C[j].own with
   | none=>rw [ho] at h1;simpa using h1
   | some p=>rw [ho] at h2;simpa using h2
 · rw [List.getD_eq_getElem?_getD,List.getElem?_eq_none hl]
   rfl
def b5u:List Cl→Nat
 | []=>1
 | c :: C=>(match c.own with | some p=>p.1 | none=>0)+b5u C
theorem a5J:∀ C,1≤b5u C
 | []=>Nat.le_refl _
 | c :: C=>by have:=a5J C;unfold b5u;omega
theorem b2b:∀ (C:List Cl) (j t':Nat) (l:List It),(C.getD j clA).own=some (t',l)→t'<b5u C
 | [],j,t',l,e=>by cases e
 | c :: C,0,t',l,e=>by
  have e:c.own=some (t',l):=e
  have:=a5J C
  unfold b5u;rw [e]
  show t'<t'+b5u C
  omega
 | c :: C,j+1,t',l,e=>by
  have h1:=b2b C j t' l e;unfold b5u;omega
theorem b8C {C:List Cl} {j t':Nat} {l:List It} (e:(C.getD j clA).own=some (t',l)):t'≠b5u C:=Nat.ne_of_lt (b2b C j t' l e)
section
variable {P:Program} {Q:Exit→Act→World→Prop}
def c4C (P:Program) (Q:Exit→Act→World→Prop) (w0:World) (C:List Cl) (use:Nat→Option Nat) (l:List Oper) (A:(Nat→Value)→Act) (i:Nat) (o:Oper):Prop:=
 ∀ (xs:Nat→Value) (τ:Nat→Nat) (w:World) (a:Act),A xs=a→TagI w0 τ w→(∀ j,(o.after.toList.any fun e=>Region.binds .any e && decide (e.on=j) && (decide (use j=none) || decide (use j=some i)))=true→(C.getD j clA).holds w0 τ w (xs j)) →
  ∀ K:Act→World→Prop,(∀ v τ' w',TagI w0 τ' w'→((∀ t,StepT w0 t τ w τ' w')∨∃ t,t≠0∧StepT w0 t τ w τ' w'∧b3b C use i t=true)→(C.getD i clA).holds w0 τ' w' v→K (a.put o.dst v) w') →
   if Region.wanted o (yielded l.toArray a.tmps)=true then o.wp P a w K Q else K (a.put o.dst undef) w
theorem a1m (C:List Cl) (use:Nat→Option Nat) {A:(Nat→Value)→Act} {id:Nat} {l:List Oper} {a0:Act} {w0:World} (hm:P.follows .mixedOrders=true) (hB:rgB l=true) (hgd:C.all Cl.good=true)
 (hA:∀ xs,a2m l 0 xs a0=A xs) (hop:a3m (c4C P Q w0 C use l A) 0 l)
 (hfin:∀ xs τ w a,A xs=a→TagI w0 τ w→(∀ j,(decide (j<l.length) && (match use j with | none=>true | some k=>decide (l.length≤k)))=true→(C.getD j clA).holds w0 τ w (xs j))→Q .normal a w):(Code.region id l.toArray true).wp P Q a0 w0:=by
 refine a3d (G:=Nat→Nat) (fun τ w=>TagI w0 τ w) (fun i τ w v=>(C.getD i clA).holds w0 τ w v) use (fun _=>0) hm hB hA (TagI.startD w0) ?_ (fun xs τ w h1 h2=>hfin xs τ w (A xs) rfl h1 (fun j hj=>?_))
 · have:∀ (l':List Oper) (k:Nat),a3m (c4C P Q w0 C use l A) k l'→a3m (c3f P Q (fun τ w=>TagI w0 τ w) (fun i τ w v=>(C.getD i clA).holds w0 τ w v) use l A) k l':=by
    intro l'
    induction l' with
    | nil=>intro k _;trivial
    | cons o l' ih =>
     intro k h;refine ⟨?_,ih (k+1) h.2⟩;intro xs τ w hI hd K hK;refine h.1 xs τ w (A xs) rfl hI (fun j hj=>?_) K (fun v τ' w' hI' hs hv=>hK v τ' w' hI' hv (fun j u hj hu hh=>?_))
     · rw [List.any_eq_true] at hj
       obtain ⟨e,he,h2⟩:=hj;simp only [Bool.and_eq_true,Bool.or_eq_true,decide_eq_true_eq] at h2;obtain ⟨⟨hb,rfl⟩,hu⟩:=h2;exact hd e he hb hu
     · rcases hs with hs | ⟨t,ht,hs,hok⟩
       · exact Cl.step hh (hs (b5u C)) (by have:=a5J C;omega) (fun t' l e=>b8C e) (.inr fun k hk=>(hs (τ k+1)).blk k hk fun _=>by omega)
       · exact Cl.step hh hs ht (fun t' l e=>b6d hok hj hu e) (.inl (b3a hgd hok hj hu))
   exact this l 0 hop
 · rw [Bool.and_eq_true,decide_eq_true_eq] at hj
   refine h2 j hj.1 (fun k hk=>?_)
   have:=hj.2
   rw [hk] at this;simpa using this
end
theorem StepT.refl (w0:World) (τ:Nat→Nat) (w:World):∀ t,StepT w0 t τ w τ w:=fun _=>⟨Nat.le_refl _,fun _ _ _=>rfl,fun _ _ _=>rfl⟩
end Go.Proofs.YtjgedijclkoemaaGreatDoor
namespace Go.Proofs.YtjgedijclkoemaaGreatDoor
open Go.RowKit
set_option maxRecDepth 20000 in
theorem b3m (op:Int) (w:World):Calls Tryz.prog 177 #[.int .i64 op] w fun e w'=>e=.returned (.int .i64 (P_ op))∧w'=w:=by
 by_cases h1:op=1
 · subst h1;rw [show P_ 1=0 by decide];go_enter Tryz.func177,Tryz.ntmps177;go_wp2;go_ret;exact ⟨rfl,rfl⟩
 by_cases h2:op=2
 · subst h2;rw [show P_ 2=0 by decide];go_enter Tryz.func177,Tryz.ntmps177;go_wp2;go_ret;exact ⟨rfl,rfl⟩
 by_cases h3:op=3
 · subst h3;rw [show P_ 3=2 by decide];go_enter Tryz.func177,Tryz.ntmps177;go_wp2;go_ret;exact ⟨rfl,rfl⟩
 by_cases h4:op=4
 · subst h4;rw [show P_ 4=2 by decide];go_enter Tryz.func177,Tryz.ntmps177;go_wp2;go_ret;exact ⟨rfl,rfl⟩
 by_cases h5:op=5
 · subst h5;rw [show P_ 5=1 by decide];go_enter Tryz.func177,Tryz.ntmps177;go_wp2;go_ret;exact ⟨rfl,rfl⟩
 by_cases h6:op=6
 · subst h6;rw [show P_ 6=1 by decide];go_enter Tryz.func177,Tryz.ntmps177;go_wp2;go_ret;exact ⟨rfl,rfl⟩
 by_cases h7:op=7
 · subst h7;rw [show P_ 7=1 by decide];go_enter Tryz.func177,Tryz.ntmps177;go_wp2;go_ret;exact ⟨rfl,rfl⟩
 have c1:(op == 1)=false:=beq_eq_false_iff_ne.2 h1;have c2:(op == 2)=false:=beq_eq_false_iff_ne.2 h2;have c3:(op == 3)=false:=beq_eq_false_iff_ne.2 h3;have c4:(op == 4)=false:=beq_eq_false_iff_ne.2 h4;have c5:(op == 5)=false:=beq_eq_false_iff_ne.2 h5;have c6:(op == 6)=false:=beq_eq_false_iff_ne.2 h6;have c7:(op == 7)=false:=beq_eq_false_iff_ne.2 h7;have e:P_ op = -1:=by unfold P_;rw [if_neg (by omega),if_neg (by omega),if_neg (by omega)]
 rw [e];clear h1 h2 h3 h4 h5 h6 h7;go_enter Tryz.func177,Tryz.ntmps177;go_wp2;go_ret;exact ⟨rfl,rfl⟩
abbrev c4Y (op:Int) (a b c d:Nat):Value:=.agg #[.int .i64 op,.int .u64 (a:Int),.int .u64 (b:Int),.int .u64 (c:Int),.int .u64 (d:Int)]
set_option maxRecDepth 20000 in
set_option maxHeartbeats 1000000 in
theorem b2E (op:Int) (a b c d:Nat) (w:World):Calls Tryz.prog 178 #[c4Y op a b c d] w fun e w'=>e=.returned (.bool (!(decide ((⟨a,b,c,d⟩:W4)=n_) == (op == 1))))∧Below w.heap.size w w':=by
 have he:∀ u,(Op.equalIn 10000 202 (.agg #[.int .u64 (a:Int),.int .u64 (b:Int),.int .u64 (c:Int),.int .u64 (d:Int)]) (.agg #[.int .u64 0,.int .u64 0,.int .u64 0,.int .u64 0])).run Tryz.prog u=.ok (decide ((⟨a,b,c,d⟩:W4)=n_)) u:=fun u=>b4o 9998 a b c d 0 0 0 0 u
 generalize decide ((⟨a,b,c,d⟩:W4)=n_)=E at he ⊢;have hb:∀ x y:Bool,∀ u,(binOp .eql 4 (.bool x) (.bool y)).run Tryz.prog u=.ok (.bool (x == y)) u:=fun x y u=>by cases x <;> cases y <;> kernel_rfl
 go_enter Tryz.func178,Tryz.ntmps178
 go_wp2_with fail
 go_quiet (fail)
 go_wp2;go_ret;refine ⟨?_,?_⟩
 · cases E <;> cases (op == 1) <;> rfl
 · exact (al' w _).trans ⟨rfl,rfl,rfl,Nat.le_refl _,fun _ _=>rfl⟩
set_option maxRecDepth 20000 in
set_option maxHeartbeats 4000000 in
theorem c1s (v:Value) (l:List Cel) (w:World) (hA:Cels w v l):Calls Tryz.prog 140 #[v] w fun e w'=>e=.returned (.bool (v_ l))∧Below w.heap.size w w':=by
 obtain ⟨av,cv,rfl,_,_,hFl,hAt⟩:=hA;have hAt:=hid hAt;by_cases h60:60<l.length
 · have e:v_ l=false:=by unfold v_;rw [decide_eq_false (by omega:¬ l.length≤60)];simp
   rw [e];have h60z:(60:Int)<(l.length:Int):=by omega
   go_enter Tryz.func140,Tryz.ntmps140;go_wp2;go_ret;exact ⟨rfl,Below.refl _ _⟩
 have h60z:¬ (60:Int)<(l.length:Int):=by omega
 have hend:=hid (fun (h:1≤l.length) d=>@a7k l h (by omega) d);have hnil:Hid (l.length=0→v_ l=false):=hid (fun h=>by unfold v_;rw [decide_eq_false (by omega:¬ 1≤l.length)];rfl);have hbad:=hid (fun k (hk:k≤l.length) (h:C_ l k=none)=>a7l (a2X l h l.length hk));have hsucc:=hid (fun k d=>@a5t l k d);have GW:=hid b3m;have GS:=hid b2E;generalize v_ l=R at hend hbad hnil ⊢;go_enter Tryz.func140,Tryz.ntmps140
 go_wp2;go_loopw [3,12] (fun d i wr=>∃ (k:Nat) (z:Int),k≤l.length∧i=.int .i64 k∧d=.int .i64 z∧Hid (C_ l k=some z)∧0≤z∧z≤k∧Below w.heap.size w wr) (fun _ i _=>l.length - (intOf i).toNat)
 case atStart=>exact ⟨0,0,Nat.zero_le _,rfl,rfl,hid rfl,Int.le_refl _,by omega,Below.refl _ _⟩
 case round =>
  obtain ⟨k,z,hk,rfl,rfl,hdep,hz0,hzk,hbl⟩:=hrel;by_cases hlt:k<l.length
  · have hltz:(k:Int)<(l.length:Int):=by omega
    obtain ⟨b',o',rfl,hb',hat0⟩:=hAt.out k hlt;have hat:=hat0.keep hbl;clear hat0;have hs:=hid (hsucc.out k z hdep.out hlt);have hbk:=hid (hbad.out (k+1) (by omega));generalize l[k]=c at hat hs;obtain ⟨op,S⟩:=c;obtain ⟨sa,sb,sc,sd⟩:=S;obtain ⟨d0,d1,d2,d3,d4⟩:=hat;simp only at d0 d1 d2 d3 d4
    have GW0:=hid (fun u=>GW.out op u);have GS0:=hid (fun u=>GS.out op sa sb sc sd u);have hwl:=a9o op;have hbb:=hid (al' wr (.cells #[.int .i64 op,.int .u64 (sa:Int),.int .u64 (sb:Int),.int .u64 (sc:Int),.int .u64 (sd:Int)] 204));unfold b4Y at hs;simp only at hs
    generalize P_ op=q at GW0 hs hwl;have hop:decide (op=1)=(op == 1):=by rw [Bool.eq_iff_iff];simp
    rw [hop] at hs;clear hop;generalize (decide ((⟨sa,sb,sc,sd⟩:W4)=n_) == (op == 1))=E at GS0 hs;by_cases hq:q<0
    · have hR:R=false:=hbk.out (by rw [hs.out,decide_eq_true hq];rfl)
      subst hR;go_wp2_with (go_at_call 177;refine (GW0.out _).mono ?_;rintro e u1 ⟨rfl,hu⟩;subst u1)
      go_ret;exact ⟨rfl,a_ hbl hbb.out⟩
    · by_cases hd:z<q
      · have hR:R=false:=hbk.out (by rw [hs.out,decide_eq_true hd,Bool.or_true];rfl)
        subst hR;go_wp2_with (go_at_call 177;refine (GW0.out _).mono ?_;rintro e u1 ⟨rfl,hu⟩;subst u1)
        go_ret;exact ⟨rfl,a_ hbl hbb.out⟩
      · rw [decide_eq_false hq,decide_eq_false hd,Bool.false_or,Bool.false_or] at hs
        cases E with
        | true =>
         have hR:R=false:=hbk.out (by rw [hs.out];rfl);subst hR;clear hs
         go_wp2_with (first
          | (go_at_call 177;refine (GW0.out _).mono ?_;rintro e u1 ⟨rfl,hu⟩;subst u1)
          | (go_at_call 178;refine (GS0.out _).mono ?_;rintro e w1 ⟨rfl,hb1⟩))
         go_ret;exact ⟨rfl,a_ (a_ hbl hbb.out) hb1⟩
        | false =>
         rw [if_neg Bool.false_ne_true] at hs
         go_wp2_with (first
          | (go_at_call 177;refine (GW0.out _).mono ?_;rintro e u1 ⟨rfl,hu⟩;subst u1)
          | (go_at_call 178;refine (GS0.out _).mono ?_;rintro e w1 ⟨rfl,hb1⟩))
         go_roundw
         case rel=>exact ⟨k+1,z - q+1,by omega,by go_num,by go_num,hs,by omega,by omega,a_ (a_ hbl hbb.out) hb1⟩
         case measure=>simp [intOf];omega
  · have hltz:¬ (k:Int)<(l.length:Int):=by omega
    have e:k=l.length:=by omega
    subst e;by_cases hl0:l.length=0
    · have hR:=hnil.out hl0
      have hz:z=0:=by omega
      subst hz;subst hR;go_wp2;go_ret;exact ⟨rfl,hbl⟩
    · have hR:=hend.out (by omega) z hdep.out
      clear hl0;go_wp2;go_ret;exact ⟨by first | rfl | rw [hR],hbl⟩
end Go.Proofs.YtjgedijclkoemaaGreatDoor
namespace Go.Proofs
open Go.Shelf
def Tryz.sortIt_ren:Go.Shelf.Ren:=⟨fun | 6=>183 | 15=>79 | 14=>198 | 28=>114 | 29=>115 | 20=>210 | 21=>211 | 22=>212 | 23=>213 | 24=>214 | 25=>215 | 26=>216 | 27=>217 | 46=>226 | 47=>158 | 48=>159 | 49=>227 | 50=>228 | 57=>240 | n=>n,fun | 22=>40 | 24=>49 | 25=>226 | 3=>3 | 39=>139 | 0=>0 | 53=>94 | 55=>163 | 4=>4 | 46=>171 | 45=>170 | 50=>83 | 5=>5 | 9=>9 | 66=>210 | 70=>214 | 76=>231 | 77=>125 | n=>n,fun | n=>n⟩
theorem Tryz.sortIt:Go.Proofs.SlLaysF0.n6 Tryz.prog Tryz.sortIt_ren:={
 mixed:=by kernel_rfl
 f6:=⟨Tryz.f183.name,by decide,Tryz.func183.trans (congrArg some (by kernel_rfl))⟩
 f14:=⟨Tryz.f198.name,by decide,Tryz.func198.trans (congrArg some (by kernel_rfl))⟩
 f15:=Tryz.func79.trans (congrArg some (by kernel_rfl))
 f20:=⟨Tryz.f210.name,by decide,Tryz.func210.trans (congrArg some (by kernel_rfl))⟩
 f21:=⟨Tryz.f211.name,by decide,Tryz.func211.trans (congrArg some (by kernel_rfl))⟩
 f22:=⟨Tryz.f212.name,by decide,Tryz.func212.trans (congrArg some (by kernel_rfl))⟩
 f23:=⟨Tryz.f213.name,by decide,Tryz.func213.trans (congrArg some (by kernel_rfl))⟩
 f24:=⟨Tryz.f214.name,by decide,Tryz.func214.trans (congrArg some (by kernel_rfl))⟩
 f25:=⟨Tryz.f215.name,by decide,Tryz.func215.trans (congrArg some (by kernel_rfl))⟩
 f26:=⟨Tryz.f216.name,by decide,Tryz.func216.trans (congrArg some (by kernel_rfl))⟩
 f27:=⟨Tryz.f217.name,by decide,Tryz.func217.trans (congrArg some (by kernel_rfl))⟩
 f28:=Tryz.func114.trans (congrArg some (by kernel_rfl))
 f29:=Tryz.func115.trans (congrArg some (by kernel_rfl))
 f46:=⟨Tryz.f226.name,by decide,Tryz.func226.trans (congrArg some (by kernel_rfl))⟩
 f47:=Tryz.func158.trans (congrArg some (by kernel_rfl))
 f48:=Tryz.func159.trans (congrArg some (by kernel_rfl))
 f49:=⟨Tryz.f227.name,by decide,Tryz.func227.trans (congrArg some (by kernel_rfl))⟩
 f50:=⟨Tryz.f228.name,by decide,Tryz.func228.trans (congrArg some (by kernel_rfl))⟩
 f57:=⟨Tryz.f240.name,by decide,Tryz.func240.trans (congrArg some (by kernel_rfl))⟩
 t0:=Tryz.underlying0
 a0:=Tryz.isAgg0
 z0:=Tryz.sizeOf0
 v0:=Tryz.zeroValue0
 t3:=Tryz.underlying3
 a3:=Tryz.isAgg3
 z3:=Tryz.sizeOf3
 v3:=Tryz.zeroValue3
 t4:=Tryz.underlying4
 a4:=Tryz.isAgg4
 z4:=Tryz.sizeOf4
 v4:=Tryz.zeroValue4
 t5:=Tryz.underlying5
 a5:=Tryz.isAgg5
 z5:=Tryz.sizeOf5
 v5:=Tryz.zeroValue5
 t9:=Tryz.underlying9
 a9:=Tryz.isAgg9
 z9:=Tryz.sizeOf9
 v9:=Tryz.zeroValue9
 t22:=Tryz.underlying40
 a22:=Tryz.isAgg40
 z22:=Tryz.sizeOf40
 v22:=Tryz.zeroValue40
 t25:=Tryz.underlying226
 a25:=Tryz.isAgg226
 z25:=Tryz.sizeOf226
 v25:=Tryz.zeroValue226
 t39:=Tryz.underlying139
 a39:=Tryz.isAgg139
 z39:=Tryz.sizeOf139
 v39:=Tryz.zeroValue139
 t45:=Tryz.underlying170
 a45:=Tryz.isAgg170
 z45:=Tryz.sizeOf170
 v45:=Tryz.zeroValue170
 t46:=Tryz.underlying171
 a46:=Tryz.isAgg171
 z46:=Tryz.sizeOf171
 v46:=Tryz.zeroValue171
 t50:=Tryz.underlying83
 a50:=Tryz.isAgg83
 z50:=Tryz.sizeOf83
 v50:=Tryz.zeroValue83
 t53:=Tryz.underlying94
 a53:=Tryz.isAgg94
 z53:=Tryz.sizeOf94
 v53:=Tryz.zeroValue94
 t55:=Tryz.underlying163
 a55:=Tryz.isAgg163
 z55:=Tryz.sizeOf163
 v55:=Tryz.zeroValue163
 t66:=Tryz.underlying210
 a66:=Tryz.isAgg210
 z66:=Tryz.sizeOf210
 v66:=Tryz.zeroValue210
 t70:=Tryz.underlying214
 a70:=Tryz.isAgg214
 z70:=Tryz.sizeOf214
 v70:=Tryz.zeroValue214
 t76:=Tryz.underlying231
 a76:=Tryz.isAgg231
 z76:=Tryz.sizeOf231
 v76:=Tryz.zeroValue231
 t77:=Tryz.underlying125
 a77:=Tryz.isAgg125
 z77:=Tryz.sizeOf125
 v77:=Tryz.zeroValue125 }
def Tryz.anyIt_ren:Go.Shelf.Ren:=⟨fun | 8=>42 | 6=>68 | n=>n,fun | 22=>40 | 23=>49 | 25=>111 | 4=>4 | 3=>3 | 0=>0 | n=>n,fun | n=>n⟩
theorem Tryz.anyIt:Go.Proofs.SlLaysH0.n8 Tryz.prog Tryz.anyIt_ren:={
 mixed:=by kernel_rfl
 f6:=⟨Tryz.f68.name,by decide,Tryz.func68.trans (congrArg some (by kernel_rfl))⟩
 f8:=⟨Tryz.f42.name,by decide,Tryz.func42.trans (congrArg some (by kernel_rfl))⟩
 t0:=Tryz.underlying0
 a0:=Tryz.isAgg0
 z0:=Tryz.sizeOf0
 v0:=Tryz.zeroValue0
 t3:=Tryz.underlying3
 a3:=Tryz.isAgg3
 z3:=Tryz.sizeOf3
 v3:=Tryz.zeroValue3
 t4:=Tryz.underlying4
 a4:=Tryz.isAgg4
 z4:=Tryz.sizeOf4
 v4:=Tryz.zeroValue4
 t22:=Tryz.underlying40
 a22:=Tryz.isAgg40
 z22:=Tryz.sizeOf40
 v22:=Tryz.zeroValue40
 t25:=Tryz.underlying111
 a25:=Tryz.isAgg111
 z25:=Tryz.sizeOf111
 v25:=Tryz.zeroValue111 }
end Go.Proofs
