/- What the five laws of layer 17 share, part 34: no statement of its own. -/
import Derived.Test.YtjgedijclkoemaaGreatDoorJ33
namespace Go.Proofs.YtjgedijclkoemaaGreatDoor
structure Inv (P:Wd→Prop) (st:RS):Prop where
 ws:∀ x∈st.ws,P x
 sk:∀ x∈st.skips,P x
 te:∀ x∈st.terms,P x
 no:∀ x∈st.nons,P x
 la:∀ s∈st.later,P s.w∧(s.k=5∨s.k=6→s.a<st.prods.length)
 pr:∀ l∈st.prods,l≤st.nonts.length
theorem Inv.hd {P:Wd→Prop} {st:RS} (h:Inv P st) (h0:P (0,0,[])):P st.hd:=by
 unfold RS.hd;cases hw:st.ws with
 | nil=>exact h0
 | cons x l=>exact h.ws x (by rw [hw];exact List.mem_cons_self)
theorem Inv.give {P:Wd→Prop} {st:RS} (h:Inv P st) (p:Nat) (e:Int):Inv P (st.give p e):=by
 unfold RS.give;split
 · exact ⟨h.ws,h.sk,h.te,h.no,h.la,h.pr⟩
 · exact h
theorem Inv.take {P:Wd→Prop} {st:RS} (h:Inv P st) (b:Bool):Inv P (st.take b):=by
 unfold RS.take;split
 · exact ⟨fun x hx=>h.ws x (List.mem_of_mem_tail hx),h.sk,h.te,h.no,h.la,h.pr⟩
 · exact h.give _ _
theorem Inv.full {P:Wd→Prop} {st:RS} (h:Inv P st) (b:Bool) (p:Nat):Inv P (st.full b p):=by
 unfold RS.full;split
 · exact h.give _ _
 · exact h
theorem Inv.fail {P:Wd→Prop} {st:RS} (h:Inv P st) (p:Nat) (e:Int):Inv P (st.fail p e):=by
 unfold RS.fail;split
 · exact h
 · exact h.give _ _
theorem Inv.thn {P:Wd→Prop} {st:RS} (h:Inv P st) {s:Stp} (h1:P s.w) (h2:s.k=5∨s.k=6→s.a<st.prods.length):Inv P (st.thn s):=by
 refine ⟨h.ws,h.sk,h.te,h.no,fun x hx=>?_,h.pr⟩;have hx:x∈st.later++[s]:=hx;rw [List.mem_append,List.mem_singleton] at hx;rcases hx with hx | rfl
 · exact h.la x hx
 · exact ⟨h1,h2⟩
theorem Inv.addP {P:Wd→Prop} {st:RS} (h:Inv P st):Inv P st.addP:=by
 refine ⟨h.ws,h.sk,h.te,h.no,fun x hx=>⟨(h.la x hx).1,fun e=>?_⟩,fun l hl=>?_⟩
 · show x.a<(st.prods++[_]).length
   rw [List.length_append];exact Nat.lt_of_lt_of_le ((h.la x hx).2 e) (Nat.le_add_right _ _)
 · have hl:l∈st.prods++[st.nonts.length]:=hl
   rw [List.mem_append,List.mem_singleton] at hl;rcases hl with hl | rfl
   · exact h.pr l hl
   · exact Nat.le_refl _
theorem Inv.addN {P:Wd→Prop} {st:RS} (h:Inv P st) (t:Txt):Inv P (st.addN t):=⟨h.ws,h.sk,h.te,h.no,h.la,fun l hl=>by show l≤(st.nonts++[t]).length;rw [List.length_append];exact Nat.le_trans (h.pr l hl) (Nat.le_add_right _ _)⟩
theorem Inv.addR {P:Wd→Prop} {st:RS} (h:Inv P st) (r:Rl):Inv P (st.addR r):=⟨h.ws,h.sk,h.te,h.no,h.la,h.pr⟩
theorem Inv.addO {P:Wd→Prop} {st:RS} (h:Inv P st) {x:Wd} (hx:P x):Inv P (st.addO x):=by
 refine ⟨h.ws,h.sk,h.te,fun y hy=>?_,h.la,h.pr⟩;have hy:y∈st.nons++[x]:=hy;rw [List.mem_append,List.mem_singleton] at hy;rcases hy with hy | rfl
 · exact h.no y hy
 · exact hx
theorem Inv.addW {P:Wd→Prop} {st:RS} (h:Inv P st) {x:Wd} (hx:P x) (sk:Bool):Inv P (st.addW x sk):=by
 unfold RS.addW;split
 · refine ⟨h.ws,fun y hy=>?_,h.te,h.no,h.la,h.pr⟩
   have hy:y∈st.skips++[x]:=hy;rw [List.mem_append,List.mem_singleton] at hy;rcases hy with hy | rfl
   · exact h.sk y hy
   · exact hx
 · refine ⟨h.ws,h.sk,fun y hy=>?_,h.no,h.la,h.pr⟩
   have hy:y∈st.terms++[x]:=hy;rw [List.mem_append,List.mem_singleton] at hy;rcases hy with hy | rfl
   · exact h.te y hy
   · exact hx
theorem Inv.once {P:Wd→Prop} {st:RS} (h:Inv P st) {x:Wd} (hx:P x):Inv P (st.once x):=h.thn hx (fun e=>by rcases e with e | e <;> cases e)
section
variable {P:Wd→Prop} (h0:P (0,0,[]))
include h0
theorem Inv.rule {st:RS} (h:Inv P st):Inv P st.rule:=by
 have h1:Inv P st.rule1:=(h.take true).full _ _;have hx:=h1.hd h0;unfold RS.rule RS.rule2;exact Inv.once (((((h1.take _).take _).fail _ _).take _ |>.addR _).addW hx _) hx
theorem Inv.lvd {st:RS} (h:Inv P st) (p s:Nat):Inv P (st.lvd p s):=(h.take _).thn (h.hd h0) (fun e=>by rcases e with e | e <;> cases e)
theorem Inv.lvds (p s:Nat):∀ (n:Nat) (st:RS),Inv P st→Inv P (RS.lvds p s n st)
 | 0,_,h=>h
 | n+1,st,h=>by
  rw [RS.lvds];split
  · exact Inv.lvds p s n _ (Inv.lvd h0 h p s)
  · exact h
theorem Inv.level {st:RS} (h:Inv P st):Inv P st.level:=by
 have h1:Inv P st.lv1:=⟨h.ws,h.sk,h.te,h.no,h.la,h.pr⟩;unfold RS.level;exact (Inv.lvds h0 _ _ _ _ (Inv.lvd h0 (h1.take true) _ _)).take _
theorem Inv.start {st:RS} (h:Inv P st):Inv P st.start:=by
 have h1:Inv P st.st1:=⟨h.ws,h.sk,h.te,h.no,h.la,h.pr⟩;have h2:Inv P ((st.st1.take true).thn ⟨3,st.hd,if 1<st.starts+1 then 1 else 0,0⟩):=(h1.take true).thn (h.hd h0) (fun e=>by rcases e with e | e <;> cases e);unfold RS.start;exact ((h2.take _).take _).thn (h2.hd h0) (fun e=>by rcases e with e | e <;> cases e)
theorem Inv.symb {st:RS} (h:Inv P st) {pr:Nat} (hp:pr<st.prods.length):Inv P (st.symb pr):=(h.take _).thn (h.hd h0) (fun _=>by show pr<(st.take st.atN).prods.length;rw [(SameL.take st st.atN).prods];exact hp)
theorem Inv.prec {st:RS} (h:Inv P st) {pr:Nat} (hp:pr<st.prods.length):Inv P (st.prec pr):=(h.take _).thn (h.hd h0) (fun _=>by show pr<(st.take st.atN).prods.length;rw [(SameL.take st st.atN).prods];exact hp)
theorem Inv.syms (pr:Nat):∀ (f n:Nat) (st:RS),Inv P st→pr<st.prods.length→Inv P (RS.syms pr f n st)∧(RS.syms pr f n st).prods=st.prods
 | 0,_,_,h,_=>⟨h,rfl⟩
 | f+1,n,st,h,hp=>by
  rw [RS.syms];split
  · have e1:=(SameL.full st (decide (n=8)) st.hd.2.1).prods
    have hp1:pr<(st.full (decide (n=8)) st.hd.2.1).prods.length:=by rw [e1];exact hp
    have e2:((st.full (decide (n=8)) st.hd.2.1).symb pr).prods=st.prods:=by show (st.full (decide (n=8)) st.hd.2.1).tkN.prods=_;rw [(SameL.tkN _).prods,e1]
    obtain ⟨a,b⟩:=Inv.syms pr f (n+1) _ (Inv.symb h0 (h.full _ _) hp1) (by rw [e2];exact hp);exact ⟨a,b.trans e2⟩
  · exact ⟨h,rfl⟩
theorem Inv.alt {st:RS} (h:Inv P st):Inv P st.alt:=by
 have h1:Inv P st.alt1:=(h.full _ _).addP
 have e1:st.alt1.prods.length=st.prods.length+1:=by
  show ((st.full _ _).prods++[_]).length=_
  rw [List.length_append,(SameL.full _ _ _).prods];rfl
 obtain ⟨a,b⟩:=Inv.syms h0 st.prods.length st.alt1.ws.length 0 st.alt1 h1 (by omega);unfold RS.alt RS.pct;split
 · exact Inv.prec h0 (a.take _) (by rw [(SameL.take _ _).prods,b];omega)
 · exact a
theorem Inv.alts:∀ (f:Nat) (st:RS),Inv P st→Inv P (RS.alts f st)
 | 0,_,h=>h
 | f+1,st,h=>by
  rw [RS.alts];split
  · exact Inv.alts f _ (Inv.alt h0 (h.take _))
  · exact h
theorem Inv.nont {st:RS} (h:Inv P st):Inv P st.nont:=by
 have hx:=h.hd h0;unfold RS.nont RS.nont1;exact (Inv.alts h0 _ _ (Inv.alt h0 (Inv.once (((((h.take _).full _ _).take _).addN _).addO hx) hx))).take _
theorem Inv.item {st:RS} (h:Inv P st):Inv P st.item:=by
 unfold RS.item;split
 · exact h.give _ _
 · split
   · exact Inv.rule h0 h
   · split
     · exact Inv.start h0 h
     · split
       · exact Inv.level h0 h
       · exact Inv.nont h0 h
theorem Inv.items:∀ (f:Nat) (st:RS),Inv P st→Inv P (RS.items f st)
 | 0,_,h=>h
 | f+1,st,h=>by
  rw [RS.items];split
  · exact Inv.items f _ (Inv.item h0 h)
  · exact h
end
theorem give_err {st:RS} {p:Nat} {e:Int} (he:e≠0):(st.give p e).err≠0:=by
 unfold RS.give;split
 · exact he
 · assumption
theorem Y_ {st:RS} {b:Bool} (h:(st.take b).err=0):b=true∧st.err=0:=by
 unfold RS.take at h;split at h
 · rename_i e;exact ⟨e,h⟩
 · exact absurd h (give_err (by decide))
theorem a3O {st:RS} {b:Bool} {p:Nat} (h:(st.full b p).err=0):b=false∧st.err=0:=by
 unfold RS.full at h;split at h
 · exact absurd h (give_err (by decide))
 · rename_i e;exact ⟨by simpa using e,h⟩
theorem b7a {st:RS} {p:Nat} {e:Int} (h:(st.fail p e).err=0):e=0∧st.err=0:=by
 unfold RS.fail at h;split at h
 · rename_i e;exact ⟨e,h⟩
 · rename_i e;exact absurd h (give_err e)
theorem b7C (st:RS) (x:Wd) (sk:Bool):(st.addW x sk).err=st.err:=by
 unfold RS.addW;split <;> rfl
theorem c2Y {st:RS} (h:st.atN=true):st.ws=st.hd :: st.ws.tail:=by
 have h1:st.hd.1=1:=by
  unfold RS.atN at h;simp only [Bool.and_eq_true,decide_eq_true_eq] at h;exact h.1
 unfold RS.hd at h1 ⊢;cases hw:st.ws with
 | nil=>rw [hw] at h1;cases h1
 | cons x l=>rfl
structure Mv (a b:RS):Prop where
 same:SameL a b
 suf:b.ws <:+ a.ws
theorem Mv.refl (a:RS):Mv a a:=⟨SameL.refl a,List.suffix_refl _⟩
theorem Mv.trans {a b c:RS} (h:Mv a b) (g:Mv b c):Mv a c:=⟨h.same.trans g.same,g.suf.trans h.suf⟩
theorem Mv.give (st:RS) (p:Nat) {e:Int} (he:e≠0):Mv st (st.give p e):=⟨SameL.give st p he,by
 unfold RS.give;split <;> exact List.suffix_refl _⟩
theorem Mv.take (st:RS) (b:Bool):Mv st (st.take b):=by
 refine ⟨SameL.take st b,?_⟩;unfold RS.take;split
 · exact List.tail_suffix _
 · exact (Mv.give st _ (by decide)).suf
theorem Mv.full (st:RS) (b:Bool) (p:Nat):Mv st (st.full b p):=by
 unfold RS.full;split
 · exact Mv.give st _ (by decide)
 · exact Mv.refl st
theorem Mv.fail (st:RS) (p:Nat) (e:Int):Mv st (st.fail p e):=by
 unfold RS.fail;split
 · exact Mv.refl st
 · rename_i h;exact Mv.give st _ h
theorem Mv.cells (st:RS):Mv st st.cells:=(Mv.take _ _).trans (Mv.fail _ _ _)
def a8a (a:Nat) (l:List Stp):Nat:=(l.filter fun s=>decide (s.k=5) && decide (s.a=a)).length
theorem b0B (a:Nat) (l:List Stp) (s:Stp):a8a a (l++[s])=a8a a l+(if s.k=5∧s.a=a then 1 else 0):=by
 unfold a8a;rw [List.filter_append,List.length_append];by_cases h1:s.k=5 <;> by_cases h2:s.a=a <;> simp [h1,h2]
abbrev Bef (x y:Wd):Prop:=x.2.1<y.2.1
structure Gd (st:RS):Prop where
 ord:st.ws.Pairwise Bef
 tw:∀ x∈st.terms,∀ y∈st.ws,Bef x y
 nw:∀ x∈st.nons,∀ y∈st.ws,Bef x y
 tp:st.terms.Pairwise Bef
 np:st.nons.Pairwise Bef
 tn:∀ x∈st.terms,∀ y∈st.nons,x.2.1≠y.2.1
 rx:∀ r∈st.rules,∃ t,r.re=(rxA t).1∧(rxA t).2=0
 lr:st.rules.length≤16
 ln:st.nonts.length≤16
 ct:∀ a,a8a a st.later≤8
def GdI (st:RS):Prop:=st.err=0→Gd st
theorem Gd.mv {a b:RS} (h:Gd a) (m:Mv a b):Gd b:=by
 have hs:=m.suf.subset;refine ⟨h.ord.sublist m.suf.sublist,?_,?_,?_,?_,?_,?_,?_,?_,?_⟩
 · rw [m.same.terms];exact fun x hx y hy=>h.tw x hx y (hs hy)
 · rw [m.same.nons];exact fun x hx y hy=>h.nw x hx y (hs hy)
 · rw [m.same.terms];exact h.tp
 · rw [m.same.nons];exact h.np
 · rw [m.same.terms,m.same.nons];exact h.tn
 · rw [m.same.rules];exact h.rx
 · rw [m.same.rules];exact h.lr
 · rw [m.same.nonts];exact h.ln
 · rw [m.same.later];exact h.ct
theorem GdI.mv {a b:RS} (h:GdI a) (m:Mv a b):GdI b:=fun e=>(h (m.same.err e)).mv m
theorem Gd.thn {st:RS} (h:Gd st) {s:Stp} (hk:s.k≠5):Gd (st.thn s):=⟨h.ord,h.tw,h.nw,h.tp,h.np,h.tn,h.rx,h.lr,h.ln,fun a=>by
 show a8a a (st.later++[s])≤8
 rw [b0B,if_neg (fun e=>hk e.1)];exact h.ct a⟩
theorem GdI.thn {st:RS} (h:GdI st) {s:Stp} (hk:s.k≠5):GdI (st.thn s):=fun e=>(h e).thn hk
theorem Gd.told {st:RS} (h:Gd st) {x:Wd} {r:Rl} (sk:Bool) (h1:∀ y∈st.ws,Bef x y) (h2:∀ y∈st.terms,Bef y x) (h3:∀ y∈st.nons,Bef y x) (h4:∃ t,r.re=(rxA t).1∧(rxA t).2=0) (h5:st.rules.length<16):Gd (((st.addR r).addW x sk).once x):=by
 refine Gd.thn ?_ (by show (1:Nat)≠5;decide)
 have hrx:∀ r'∈st.rules++[r],∃ t,r'.re=(rxA t).1∧(rxA t).2=0:=fun r' hr=>by
  rw [List.mem_append,List.mem_singleton] at hr;rcases hr with hr | rfl
  · exact h.rx r' hr
  · exact h4
 have hln:(st.rules++[r]).length≤16:=by rw [List.length_append,List.length_singleton];omega
 unfold RS.addW;split
 · exact ⟨h.ord,h.tw,h.nw,h.tp,h.np,h.tn,hrx,hln,h.ln,h.ct⟩
 · refine ⟨h.ord,fun y hy z hz=>?_,h.nw,?_,h.np,fun y hy z hz=>?_,hrx,hln,h.ln,h.ct⟩
   · have hy:y∈st.terms++[x]:=hy
     rw [List.mem_append,List.mem_singleton] at hy;rcases hy with hy | rfl
     · exact h.tw y hy z hz
     · exact h1 z hz
   · show (st.terms++[x]).Pairwise Bef
     rw [List.pairwise_append];exact ⟨h.tp,List.pairwise_singleton _ _,fun a ha b hb=>by rw [List.mem_singleton] at hb;subst hb;exact h2 a ha⟩
   · have hy:y∈st.terms++[x]:=hy
     have hz:z∈st.nons:=hz;rw [List.mem_append,List.mem_singleton] at hy;rcases hy with hy | rfl
     · exact h.tn y hy z hz
     · exact fun e=>absurd (h3 z hz) (by unfold Bef;omega)
theorem Gd.toldN {st:RS} (h:Gd st) {x:Wd} (h1:∀ y∈st.ws,Bef x y) (h2:∀ y∈st.terms,Bef y x) (h3:∀ y∈st.nons,Bef y x) (h5:st.nonts.length<16):Gd (((st.addN x.2.2).addO x).once x):=by
 refine Gd.thn ?_ (by show (1:Nat)≠5;decide);refine ⟨h.ord,h.tw,fun y hy z hz=>?_,h.tp,?_,fun y hy z hz=>?_,h.rx,h.lr,?_,h.ct⟩
 · have hy:y∈st.nons++[x]:=hy
   rw [List.mem_append,List.mem_singleton] at hy;rcases hy with hy | rfl
   · exact h.nw y hy z hz
   · exact h1 z hz
 · show (st.nons++[x]).Pairwise Bef
   rw [List.pairwise_append];exact ⟨h.np,List.pairwise_singleton _ _,fun a ha b hb=>by rw [List.mem_singleton] at hb;subst hb;exact h3 a ha⟩
 · have hz:z∈st.nons++[x]:=hz
   rw [List.mem_append,List.mem_singleton] at hz;rcases hz with hz | rfl
   · exact h.tn y hy z hz
   · exact fun e=>absurd (h2 y hy) (by unfold Bef;omega)
 · show (st.nonts++[x.2.2]).length≤16
   rw [List.length_append,List.length_singleton];omega
theorem Gd.took {st:RS} (h:Gd st) (hN:st.atN=true):(∀ y∈st.tkN.ws,Bef st.hd y)∧(∀ y∈st.terms,Bef y st.hd)∧∀ y∈st.nons,Bef y st.hd:=by
 have hw:=c2Y hN;have hm:st.hd∈st.ws:=by rw [hw];exact List.mem_cons_self
 refine ⟨fun y hy=>?_,fun y hy=>h.tw y hy _ hm,fun y hy=>h.nw y hy _ hm⟩;have e:st.tkN.ws=st.ws.tail:=by unfold RS.tkN RS.take;rw [hN];rfl
 rw [e] at hy;have ho:=h.ord;rw [hw] at ho;exact (List.pairwise_cons.1 ho).1 y hy
theorem GdI.rule {st:RS} (h:GdI st):GdI st.rule:=by
 intro e;have m1:Mv st st.rule1:=(Mv.take _ _).trans (Mv.full _ _ _);unfold RS.rule RS.rule2 at e ⊢;generalize hx:st.rule1.hd=x at e ⊢
 have e4:(st.rule1.tkN.cells.tkS [59]).err=0:=by
  have e':(((st.rule1.tkN.cells.tkS [59]).addR ⟨x.2.2,(rxA st.rule1.tkN.hd.2.2).1,decide (st.hd.2.2=L_)⟩).addW x (decide (st.hd.2.2=L_))).err=0:=e;rw [b7C] at e';exact e'
 obtain ⟨-,e3⟩:=Y_ e4;obtain ⟨hr,e3'⟩:=b7a e3;obtain ⟨-,e2⟩:=Y_ e3';obtain ⟨hN,e1⟩:=Y_ e2;obtain ⟨h16,e0'⟩:=a3O e1;obtain ⟨-,e0⟩:=Y_ e0';have g0:=h e0;have g1:=g0.mv m1;obtain ⟨t1,t2,t3⟩:=g1.took hN;rw [hx] at t1 t2 t3;have m4:Mv st.rule1.tkN (st.rule1.tkN.cells.tkS [59]):=(Mv.cells _).trans (Mv.take _ _);have m5:Mv st.rule1 (st.rule1.tkN.cells.tkS [59]):=(Mv.take _ _).trans m4;have g4:=g1.mv m5;refine g4.told _ (fun y hy=>t1 y (m4.suf.subset hy)) (fun y hy=>t2 y (by rw [m5.same.terms] at hy;exact hy)) (fun y hy=>t3 y (by rw [m5.same.nons] at hy;exact hy)) ⟨_,rfl,hr⟩ ?_;rw [m5.same.rules,m1.same.rules]
 have:=g0.lr
 have h16:=of_decide_eq_false h16;omega
theorem GdI.lvds (p s:Nat):∀ (n:Nat) (st:RS),GdI st→GdI (RS.lvds p s n st)
 | 0,_,h=>h
 | n+1,st,h=>by
  rw [RS.lvds];split
  · exact GdI.lvds p s n _ ((h.mv (Mv.take _ _)).thn (by show (2:Nat)≠5;decide))
  · exact h
theorem GdI.level {st:RS} (h:GdI st):GdI st.level:=by
 have h1:GdI st.lv1:=fun e=>let g:=h e;⟨g.ord,g.tw,g.nw,g.tp,g.np,g.tn,g.rx,g.lr,g.ln,g.ct⟩
 unfold RS.level;exact (GdI.lvds _ _ _ _ (((h1.mv (Mv.take _ _)).mv (Mv.take _ _)).thn (by show (2:Nat)≠5;decide))).mv (Mv.take _ _)
theorem GdI.start {st:RS} (h:GdI st):GdI st.start:=by
 have h1:GdI st.st1:=fun e=>let g:=h e;⟨g.ord,g.tw,g.nw,g.tp,g.np,g.tn,g.rx,g.lr,g.ln,g.ct⟩
 unfold RS.start;exact ((((h1.mv (Mv.take _ _)).thn (by show (3:Nat)≠5;decide)).mv (Mv.take _ _)).mv (Mv.take _ _)).thn (by show (4:Nat)≠5;decide)
theorem GdI.syms (pr:Nat):∀ (f n:Nat) (st:RS),(st.err=0→Gd st∧a8a pr st.later=n∧n≤8)→GdI (RS.syms pr f n st)
 | 0,_,_,h=>fun e=>(h e).1
 | f+1,n,st,h=>by
  rw [RS.syms];split
  · refine GdI.syms pr f (n+1) _ (fun e=>?_)
    obtain ⟨-,e1⟩:=Y_ (st:=st.full (decide (n=8)) st.hd.2.1) e;obtain ⟨h8,e0⟩:=a3O e1;have h8:=of_decide_eq_false h8;obtain ⟨g,hc,hn⟩:=h e0;have m:Mv st (st.full (decide (n=8)) st.hd.2.1).tkN:=(Mv.full _ _ _).trans (Mv.take _ _);have g1:=g.mv m
    have hl:∀ a,a8a a ((st.full (decide (n=8)) st.hd.2.1).symb pr).later=a8a a st.later+(if pr=a then 1 else 0):=fun a=>by
     show a8a a ((st.full (decide (n=8)) st.hd.2.1).tkN.later++[_])=_
     rw [b0B,m.same.later];simp
    refine ⟨⟨g1.ord,g1.tw,g1.nw,g1.tp,g1.np,g1.tn,g1.rx,g1.lr,g1.ln,fun a=>?_⟩,?_,by omega⟩
    · rw [hl]
      by_cases ha:pr=a
      · subst ha
        rw [if_pos rfl];omega
      · rw [if_neg ha];exact g.ct a
    · rw [hl,if_pos rfl,hc]
  · exact fun e=>(h e).1
theorem b4C {a:Nat} {l:List Stp} (h:∀ s∈l,s.k=5∨s.k=6→s.a<a):a8a a l=0:=by
 unfold a8a;rw [List.length_eq_zero_iff,List.filter_eq_nil_iff];intro s hs;simp only [Bool.and_eq_true,decide_eq_true_eq];intro e
 have:=h s hs (.inl e.1)
 omega
theorem GdI.alt {st:RS} (h:GdI st) (hl:∀ s∈st.later,s.k=5∨s.k=6→s.a<st.prods.length):GdI st.alt:=by
 have m:=Mv.full st (decide (st.prods.length=40) && st.inA) st.hd.2.1
 have h1:GdI (RS.syms st.prods.length st.alt1.ws.length 0 st.alt1):=GdI.syms _ _ _ _ (fun e=>by
  have g:=(h (m.same.err e)).mv m;exact ⟨⟨g.ord,g.tw,g.nw,g.tp,g.np,g.tn,g.rx,g.lr,g.ln,g.ct⟩,by show a8a _ (st.full _ _).later=0;rw [m.same.later];exact b4C hl,by decide⟩)
 unfold RS.alt RS.pct;split
 · exact ((h1.mv (Mv.take _ _)).mv (Mv.take _ _)).thn (by show (6:Nat)≠5;decide)
 · exact h1
theorem GdI.alts:∀ (f:Nat) (st:RS),GdI st→Inv (fun _=>True) st→GdI (RS.alts f st)
 | 0,_,h,_=>h
 | f+1,st,h,hi=>by
  rw [RS.alts];split
  · have hi1:=hi.take (st.atS [124])
    exact GdI.alts f _ (GdI.alt (h.mv (Mv.take _ _)) (fun s hs=>(hi1.la s hs).2)) (Inv.alt trivial hi1)
  · exact h
theorem GdI.nont {st:RS} (h:GdI st) (hi:Inv (fun _=>True) st):GdI st.nont:=by
 have hi0:Inv (fun _=>True) st.nont0:=Inv.once ((((hi.take _).full _ _).take _ |>.addN _).addO trivial) trivial
 have h0:GdI st.nont0:=by
  intro e;have e3:((st.tkN.full (decide (st.nonts.length=16)) st.hd.2.1).tkS [58]).err=0:=e;obtain ⟨-,e2⟩:=Y_ e3;obtain ⟨h16,e1⟩:=a3O e2;obtain ⟨hN,e0⟩:=Y_ e1;have g0:=h e0;obtain ⟨t1,t2,t3⟩:=g0.took hN;have m2:Mv st.tkN ((st.tkN.full (decide (st.nonts.length=16)) st.hd.2.1).tkS [58]):=(Mv.full _ _ _).trans (Mv.take _ _);have m3:Mv st ((st.tkN.full (decide (st.nonts.length=16)) st.hd.2.1).tkS [58]):=(Mv.take _ _).trans m2;refine (g0.mv m3).toldN (fun y hy=>t1 y (m2.suf.subset hy)) (fun y hy=>t2 y (by rw [m3.same.terms] at hy;exact hy)) (fun y hy=>t3 y (by rw [m3.same.nons] at hy;exact hy)) ?_;rw [m3.same.nonts]
  have:=g0.ln
  have h16:=of_decide_eq_false h16;omega
 exact (GdI.alts _ _ (GdI.alt h0 (fun s hs=>(hi0.la s hs).2)) (Inv.alt trivial hi0)).mv (Mv.take _ _)
theorem GdI.item {st:RS} (h:GdI st) (hi:Inv (fun _=>True) st):GdI st.item:=by
 unfold RS.item;split
 · exact fun e=>absurd e (give_err (by decide))
 · split
   · exact h.rule
   · split
     · exact h.start
     · split
       · exact h.level
       · exact h.nont hi
theorem GdI.items:∀ (f:Nat) (st:RS),GdI st→Inv (fun _=>True) st→GdI (RS.items f st)
 | 0,_,h,_=>h
 | f+1,st,h,hi=>by
  rw [RS.items];split
  · exact GdI.items f _ (h.item hi) (Inv.item trivial hi)
  · exact h
structure IA (st:RS):Prop where
 tm:st.terms.map (fun w=>w.2.2)=(st.rules.filter fun r=>!r.skip).map Rl.name
 nn:st.nons.map (fun w=>w.2.2)=st.nonts
 p1:∀ l∈st.prods,1≤l
 on:∀ x,x∈st.terms∨x∈st.nons→∃ s∈st.later,s.k=1∧s.w=x
theorem IA.same {a b:RS} (h:IA a) (m:SameL a b):IA b:=by
 refine ⟨?_,?_,?_,?_⟩
 · rw [m.terms,m.rules];exact h.tm
 · rw [m.nons,m.nonts];exact h.nn
 · rw [m.prods];exact h.p1
 · rw [m.terms,m.nons,m.later];exact h.on
theorem IA.thn {st:RS} (h:IA st) (s:Stp):IA (st.thn s):=⟨h.tm,h.nn,h.p1,fun x hx=>by
 obtain ⟨s',h1,h2⟩:=h.on x hx;exact ⟨s',List.mem_append_left _ h1,h2⟩⟩
theorem IA.rule {st:RS} (h:IA st):IA st.rule:=by
 have m:SameL st (st.rule1.tkN.cells.tkS [59]):=(((SameL.rule1 st).trans (SameL.tkN _)).trans (SameL.cells _)).trans (SameL.tkS _ _);have g:=h.same m;unfold RS.rule RS.rule2;generalize st.rule1.hd=x;generalize (rxA st.rule1.tkN.hd.2.2).1=cs;generalize st.rule1.tkN.cells.tkS [59]=s4 at g;generalize hsk:decide (st.hd.2.2=L_)=sk;cases sk with
 | true =>
  refine ⟨?_,g.nn,g.p1,fun y hy=>?_⟩
  · show s4.terms.map _=((s4.rules++[(⟨x.2.2,cs,true⟩:Rl)]).filter _).map _
    rw [List.filter_append,List.map_append,g.tm];simp
  · obtain ⟨s',h1,h2⟩:=g.on y hy
    exact ⟨s',List.mem_append_left _ h1,h2⟩
 | false =>
  refine ⟨?_,g.nn,g.p1,fun y hy=>?_⟩
  · show (s4.terms++[x]).map _=((s4.rules++[(⟨x.2.2,cs,false⟩:Rl)]).filter _).map _
    rw [List.filter_append,List.map_append,List.map_append,g.tm];simp
  · have hy:y∈s4.terms++[x]∨y∈s4.nons:=hy
    rw [List.mem_append,List.mem_singleton] at hy;rcases hy with (hy | rfl) | hy
    · obtain ⟨s',h1,h2⟩:=g.on y (.inl hy)
      exact ⟨s',List.mem_append_left _ h1,h2⟩
    · exact ⟨⟨1,y,0,0⟩,List.mem_append_right _ (List.mem_singleton.2 rfl),rfl,rfl⟩
    · obtain ⟨s',h1,h2⟩:=g.on y (.inr hy)
      exact ⟨s',List.mem_append_left _ h1,h2⟩
theorem IA.lvds (p s:Nat):∀ (n:Nat) (st:RS),IA st→IA (RS.lvds p s n st)
 | 0,_,h=>h
 | n+1,st,h=>by
  rw [RS.lvds];split
  · exact IA.lvds p s n _ ((h.same (SameL.take _ _)).thn _)
  · exact h
theorem IA.level {st:RS} (h:IA st):IA st.level:=by
 have h1:IA st.lv1:=⟨h.tm,h.nn,h.p1,h.on⟩;unfold RS.level;exact (IA.lvds _ _ _ _ (((h1.same (SameL.take _ _)).same (SameL.take _ _)).thn _)).same (SameL.take _ _)
theorem IA.start {st:RS} (h:IA st):IA st.start:=by
 have h1:IA st.st1:=⟨h.tm,h.nn,h.p1,h.on⟩;unfold RS.start;exact ((((h1.same (SameL.take _ _)).thn _).same (SameL.take _ _)).same (SameL.take _ _)).thn _
theorem IA.syms (pr:Nat):∀ (f n:Nat) (st:RS),IA st→IA (RS.syms pr f n st)∧(RS.syms pr f n st).nonts=st.nonts
 | 0,_,_,h=>⟨h,rfl⟩
 | f+1,n,st,h=>by
  rw [RS.syms];split
  · have m:SameL st (st.full (decide (n=8)) st.hd.2.1).tkN:=(SameL.full _ _ _).trans (SameL.take _ _)
    obtain ⟨a,b⟩:=IA.syms pr f (n+1) ((st.full (decide (n=8)) st.hd.2.1).symb pr) ((h.same m).thn _);exact ⟨a,b.trans m.nonts⟩
  · exact ⟨h,rfl⟩
theorem IA.alt {st:RS} (h:IA st) (h1:1≤st.nonts.length):IA st.alt∧st.alt.nonts=st.nonts:=by
 have m:=SameL.full st (decide (st.prods.length=40) && st.inA) st.hd.2.1;have g:=h.same m
 have ha:IA st.alt1:=⟨g.tm,g.nn,fun l hl=>by
  have hl:l∈(st.full (decide (st.prods.length=40) && st.inA) st.hd.2.1).prods++[(st.full (decide (st.prods.length=40) && st.inA) st.hd.2.1).nonts.length]:=hl;rw [List.mem_append,List.mem_singleton] at hl;rcases hl with hl | rfl
  · exact g.p1 l hl
  · rw [m.nonts];exact h1,g.on⟩
 have hn:st.alt1.nonts=st.nonts:=m.nonts;obtain ⟨a,b⟩:=IA.syms st.prods.length st.alt1.ws.length 0 st.alt1 ha;unfold RS.alt RS.pct;split
 · exact ⟨((a.same (SameL.take _ _)).same (SameL.take _ _)).thn _,((SameL.take _ _).trans (SameL.take _ _)).nonts.trans (b.trans hn)⟩
 · exact ⟨a,b.trans hn⟩
theorem IA.alts:∀ (f:Nat) (st:RS),IA st→1≤st.nonts.length→IA (RS.alts f st)
 | 0,_,h,_=>h
 | f+1,st,h,h1=>by
  rw [RS.alts];split
  · have m:=SameL.take st (st.atS [124])
    obtain ⟨a,b⟩:=(h.same m).alt (by rw [m.nonts];exact h1);exact IA.alts f _ a (by rw [show ((st.tkS [124]).alt).nonts=_ from b,show (st.take (st.atS [124])).nonts=_ from m.nonts];exact h1)
  · exact h
theorem IA.nont {st:RS} (h:IA st):IA st.nont:=by
 have m:SameL st ((st.tkN.full (decide (st.nonts.length=16)) st.hd.2.1).tkS [58]):=((SameL.take _ _).trans (SameL.full _ _ _)).trans (SameL.take _ _);have g:=h.same m;unfold RS.nont RS.nont1;generalize ((st.tkN.full (decide (st.nonts.length=16)) st.hd.2.1).tkS [58])=s3 at g;generalize st.hd=x
 have g1:IA (((s3.addN x.2.2).addO x).once x):=⟨g.tm,by show (s3.nons++[x]).map _=s3.nonts++[x.2.2];rw [List.map_append,g.nn];rfl,g.p1,fun y hy=>by
  have hy:y∈s3.terms∨y∈s3.nons++[x]:=hy;rw [List.mem_append,List.mem_singleton] at hy;rcases hy with hy | hy | rfl
  · obtain ⟨s',h1,h2⟩:=g.on y (.inl hy)
    exact ⟨s',List.mem_append_left _ h1,h2⟩
  · obtain ⟨s',h1,h2⟩:=g.on y (.inr hy)
    exact ⟨s',List.mem_append_left _ h1,h2⟩
  · exact ⟨⟨1,y,0,0⟩,List.mem_append_right _ (List.mem_singleton.2 rfl),rfl,rfl⟩⟩
 have hn:1≤(((s3.addN x.2.2).addO x).once x).nonts.length:=by
  show 1≤(s3.nonts++[x.2.2]).length
  rw [List.length_append,List.length_singleton];omega
 obtain ⟨a,b⟩:=g1.alt hn;exact (IA.alts _ _ a (by rw [b];exact hn)).same (SameL.take _ _)
theorem IA.item {st:RS} (h:IA st):IA st.item:=by
 unfold RS.item;split
 · exact h.same (SameL.give _ _ (by decide))
 · split
   · exact h.rule
   · split
     · exact h.start
     · split
       · exact h.level
       · exact h.nont
theorem IA.items:∀ (f:Nat) (st:RS),IA st→IA (RS.items f st)
 | 0,_,h=>h
 | f+1,st,h=>by
  rw [RS.items];split
  · exact IA.items f _ h.item
  · exact h
def LP (st:RS):Prop:=st.err=0→st.prods.length≤40
def LQ (st:RS):Prop:=st.err=0→st.prods.length≤40∨(st.prods.length≤41∧st.inA=false)
theorem LP.same {a b:RS} (h:LP a) (m:SameL a b):LP b:=fun e=>by rw [m.prods];exact h (m.err e)
theorem a5i (p s:Nat):∀ (n:Nat) (st:RS),(RS.lvds p s n st).prods=st.prods∧((RS.lvds p s n st).err=0→st.err=0)
 | 0,_=>⟨rfl,id⟩
 | n+1,st=>by
  rw [RS.lvds];split
  · have m:=SameL.take st st.atN
    obtain ⟨a,b⟩:=a5i p s n (st.lvd p s);exact ⟨a.trans m.prods,fun e=>m.err (b e)⟩
  · exact ⟨rfl,id⟩
theorem a4U (pr:Nat):∀ (f n:Nat) (st:RS),(RS.syms pr f n st).prods=st.prods∧((RS.syms pr f n st).err=0→st.err=0)
 | 0,_,_=>⟨rfl,id⟩
 | f+1,n,st=>by
  rw [RS.syms];split
  · have m:SameL st (st.full (decide (n=8)) st.hd.2.1).tkN:=(SameL.full _ _ _).trans (SameL.take _ _)
    obtain ⟨a,b⟩:=a4U pr f (n+1) ((st.full (decide (n=8)) st.hd.2.1).symb pr);exact ⟨a.trans m.prods,fun e=>m.err (b e)⟩
  · exact ⟨rfl,id⟩
theorem b2f (pr:Nat) (f n:Nat) {st:RS} (h:st.atN=false):RS.syms pr f n st=st:=by
 cases f with
 | zero=>rfl
 | succ f=>rw [RS.syms,h];rfl
theorem a4q {st:RS} (h:st.inA=false):st.atN=false∧st.atS [37]=false∧st.atS [124]=false∧st.atS [59]=false:=by
 unfold RS.inA at h;simp only [Bool.or_eq_false_iff] at h;exact h
theorem LQ.alt {st:RS} (h:LP st):LQ st.alt:=by
 intro e;have m:=SameL.full st (decide (st.prods.length=40) && st.inA) st.hd.2.1
 have m2:((RS.syms st.prods.length st.alt1.ws.length 0 st.alt1).pct st.prods.length).prods=(RS.syms st.prods.length st.alt1.ws.length 0 st.alt1).prods∧(((RS.syms st.prods.length st.alt1.ws.length 0 st.alt1).pct st.prods.length).err=0→(RS.syms st.prods.length st.alt1.ws.length 0 st.alt1).err=0):=by
  unfold RS.pct;split
  · have m':∀ s:RS,SameL s (s.tkS [37]).tkN:=fun s=>(SameL.take _ _).trans (SameL.take _ _)
    exact ⟨(m' _).prods,(m' _).err⟩
  · exact ⟨rfl,id⟩
 obtain ⟨a,b⟩:=a4U st.prods.length st.alt1.ws.length 0 st.alt1;have e1:st.alt1.err=0:=b (m2.2 e);have e2:(st.full (decide (st.prods.length=40) && st.inA) st.hd.2.1).err=0:=e1;obtain ⟨hb,e0⟩:=a3O e2
 have hp:st.alt.prods.length=st.prods.length+1:=by
  show ((RS.syms st.prods.length st.alt1.ws.length 0 st.alt1).pct st.prods.length).prods.length=_
  rw [m2.1,a]
  show ((st.full _ _).prods++[_]).length=_
  rw [List.length_append,m.prods];rfl
 have h40:=h e0;by_cases h9:st.prods.length=40
 · rw [h9] at hb
   have hA:st.inA=false:=by simpa using hb
   refine .inr ⟨by omega,?_⟩;have hw:(st.full (decide (st.prods.length=40) && st.inA) st.hd.2.1)=st:=by rw [hA,Bool.and_false];rfl
   have hA1:st.alt1.inA=false:=by unfold RS.alt1;rw [hw];exact hA
   obtain ⟨p1,p2,-,-⟩:=a4q hA1
   have:st.alt=st.alt1:=by
    unfold RS.alt;rw [b2f _ _ _ p1];unfold RS.pct;rw [p2];rfl
   rw [this];exact hA1
 · exact .inl (by omega)
theorem LQ.alts:∀ (f:Nat) (st:RS),LQ st→LQ (RS.alts f st)
 | 0,_,h=>h
 | f+1,st,h=>by
  rw [RS.alts];split
  · rename_i h1
    refine LQ.alts f _ (LQ.alt (fun e=>?_));have m:=SameL.take st (st.atS [124]);rw [show (st.tkS [124]).prods=_ from m.prods];rcases h (m.err e) with h2 | ⟨-,h2⟩
    · exact h2
    · rw [(a4q h2).2.2.1] at h1;cases h1
  · exact h
theorem LP.nont {st:RS} (h:LP st):LP st.nont:=by
 have m:SameL st ((st.tkN.full (decide (st.nonts.length=16)) st.hd.2.1).tkS [58]):=((SameL.take _ _).trans (SameL.full _ _ _)).trans (SameL.take _ _);have h0:LP (((((st.tkN.full (decide (st.nonts.length=16)) st.hd.2.1).tkS [58]).addN st.hd.2.2).addO st.hd).once st.hd):=by have g:=h.same m;exact fun e=>g e
 intro e;unfold RS.nont at e ⊢;obtain ⟨hs,e1⟩:=Y_ e;have hq:=LQ.alts st.nont1.ws.length st.nont1 (LQ.alt h0) e1;rw [show ((RS.alts st.nont1.ws.length st.nont1).tkS [59]).prods=_ from (SameL.take _ _).prods];rcases hq with h2 | ⟨-,h2⟩
 · exact h2
 · rw [(a4q h2).2.2.2] at hs;cases hs
theorem LP.item {st:RS} (h:LP st):LP st.item:=by
 unfold RS.item;split
 · exact h.same (SameL.give _ _ (by decide))
 · split
   · have m:SameL st (st.rule1.tkN.cells.tkS [59]):=(((SameL.rule1 st).trans (SameL.tkN _)).trans (SameL.cells _)).trans (SameL.tkS _ _)
     have g:=h.same m;unfold RS.rule RS.rule2 RS.addW;split <;> exact g
   · split
     · intro e
       have e1:=(Y_ (Y_ (b:=((st.st1.take true).thn ⟨3,st.hd,if 1<st.starts+1 then 1 else 0,0⟩).tkN.atS [59]) e).2).2
       have:=h e1
       have p1:=(SameL.take (((st.st1.take true).thn ⟨3,st.hd,if 1<st.starts+1 then 1 else 0,0⟩).tkN) (((st.st1.take true).thn ⟨3,st.hd,if 1<st.starts+1 then 1 else 0,0⟩).tkN.atS [59])).prods;have p2:=(SameL.tkN ((st.st1.take true).thn ⟨3,st.hd,if 1<st.starts+1 then 1 else 0,0⟩)).prods
       show (RS.take (((st.st1.take true).thn ⟨3,st.hd,if 1<st.starts+1 then 1 else 0,0⟩).tkN) (((st.st1.take true).thn ⟨3,st.hd,if 1<st.starts+1 then 1 else 0,0⟩).tkN.atS [59])).prods.length≤40
       rw [p1,p2];exact this
     · split
       · intro e
         unfold RS.level at e ⊢;obtain ⟨a,b⟩:=a5i (st.levels+1) (sdN st.hd.2.2) ((st.lv1.take true).lvd (st.levels+1) (sdN st.hd.2.2)).ws.length ((st.lv1.take true).lvd (st.levels+1) (sdN st.hd.2.2));have e1:=b (Y_ e).2;have e2:=(Y_ e1).2
         have:=h e2
         rw [show (RS.tkS (RS.lvds (st.levels+1) (sdN st.hd.2.2) ((st.lv1.take true).lvd (st.levels+1) (sdN st.hd.2.2)).ws.length ((st.lv1.take true).lvd (st.levels+1) (sdN st.hd.2.2))) [59]).prods=_ from (SameL.take _ _).prods,a];rw [show ((st.lv1.take true).lvd (st.levels+1) (sdN st.hd.2.2)).prods=_ from (SameL.take (st.lv1.take true) (st.lv1.take true).atN).prods];exact this
       · exact h.nont
theorem LP.items:∀ (f:Nat) (st:RS),LP st→LP (RS.items f st)
 | 0,_,h=>h
 | f+1,st,h=>by
  rw [RS.items];split
  · exact LP.items f _ h.item
  · exact h
def OwG (a b:Nat) (o:Ow):Prop:=o.2.1≤a∧(o.2.2=0∨(a<o.2.2∧o.2.2≤b))
theorem b3d {a b:Nat} {o:Option Ow} {p t n:Nat} (ho:∀ x,o=some x→OwG a b x) (h:OwG a b (p,t,n)):OwG a b (b9l o p t n):=by
 unfold b9l;cases o with
 | none=>exact h
 | some x =>
  obtain ⟨h1,h2⟩:=ho x rfl;obtain ⟨h3,h4⟩:=h;obtain ⟨x1,x2,x3⟩:=x;refine ⟨?_,?_⟩
  · show max x2 t≤a
    exact Nat.max_le.2 ⟨h1,h3⟩
  · show max x3 n=0∨(a<max x3 n∧max x3 n≤b)
    have h2:x3=0∨(a<x3∧x3≤b):=h2;have h4:n=0∨(a<n∧n≤b):=h4;omega
theorem a7v {a b:Nat}:∀ (l:List (Wd×Nat×Nat)) (M:Txt→Option Ow),(∀ t x,M t=some x→OwG a b x)→(∀ y∈l,OwG a b (y.1.2.1,y.2.1,y.2.2))→∀ t x,a4l l M t=some x→OwG a b x
 | [],M,hM,_=>hM
 | y :: l,M,hM,hl=>by
  show ∀ t x,a4l l (b1Q M y.1 y.2.1 y.2.2) t=some x→OwG a b x
  refine a7v l _ (fun t x e=>?_) (fun z hz=>hl z (List.mem_cons_of_mem _ hz));unfold b1Q at e;split at e
  · injection e with e
    subst e;exact b3d (hM t) (hl y List.mem_cons_self)
  · exact hM t x e
theorem b9i {M:Txt→Option Ow} {w:Wd} {t n:Nat} {k:Txt} {p:Nat} (h:∃ x,M k=some x∧x.1≤p):∃ x,b1Q M w t n k=some x∧x.1≤p:=by
 obtain ⟨x,h1,h2⟩:=h;unfold b1Q;split
 · refine ⟨_,rfl,?_⟩
   rw [h1]
   show (if w.2.1<x.1 then w.2.1 else x.1)≤p
   split <;> omega
 · exact ⟨x,h1,h2⟩
theorem a7u {k:Txt} {p:Nat}:∀ (l:List (Wd×Nat×Nat)) (M:Txt→Option Ow),(∃ x,M k=some x∧x.1≤p)→∃ x,a4l l M k=some x∧x.1≤p
 | [],_,h=>h
 | y :: l,M,h=>a7u l (b1Q M y.1 y.2.1 y.2.2) (b9i h)
theorem b3c:∀ (l:List (Wd×Nat×Nat)) (M:Txt→Option Ow) (y:Wd×Nat×Nat),y∈l→∃ x,a4l l M y.1.2.2=some x∧x.1≤y.1.2.1
 | [],_,_,h=>absurd h List.not_mem_nil
 | z :: l,M,y,h=>by
  show ∃ x,a4l l (b1Q M z.1 z.2.1 z.2.2) y.1.2.2=some x∧x.1≤y.1.2.1
  rcases List.mem_cons.1 h with rfl | h
  · refine a7u l _ ⟨b9l (M y.1.2.2) y.1.2.1 y.2.1 y.2.2,if_pos rfl,?_⟩
    unfold b9l;split
    · exact Nat.le_refl _
    · dsimp only
      split <;> omega
  · exact b3c l _ y h
theorem a9T:∀ (l:List Wd) (k:Nat) (y:Wd×Nat×Nat),y∈a7y k l→k<y.2.1∧y.2.1≤k+l.length∧y.2.2=0
 | [],_,_,h=>absurd h List.not_mem_nil
 | x :: l,k,y,h=>by
  rw [a7y] at h;rcases List.mem_cons.1 h with rfl | h
  · exact ⟨Nat.lt_succ_self k,by rw [List.length_cons];show k+1≤_;omega,rfl⟩
  · obtain ⟨h1,h2,h3⟩:=a9T l (k+1) y h
    exact ⟨by omega,by rw [List.length_cons];omega,h3⟩
theorem a9R:∀ (l:List Wd) (k:Nat) (y:Wd×Nat×Nat),y∈a7x k l→k<y.2.2∧y.2.2≤k+l.length∧y.2.1=0
 | [],_,_,h=>absurd h List.not_mem_nil
 | x :: l,k,y,h=>by
  rw [a7x] at h;rcases List.mem_cons.1 h with rfl | h
  · exact ⟨Nat.lt_succ_self k,by rw [List.length_cons];show k+1≤_;omega,rfl⟩
  · obtain ⟨h1,h2,h3⟩:=a9R l (k+1) y h
    exact ⟨by omega,by rw [List.length_cons];omega,h3⟩
theorem a9U:∀ (l:List Wd) (k:Nat) (x:Wd),x∈l→∃ y∈a7y k l,y.1=x
 | [],_,_,h=>absurd h List.not_mem_nil
 | z :: l,k,x,h=>by
  rw [a7y];rcases List.mem_cons.1 h with rfl | h
  · exact ⟨_,List.mem_cons_self,rfl⟩
  · obtain ⟨y,h1,h2⟩:=a9U l (k+1) x h
    exact ⟨y,List.mem_cons_of_mem _ h1,h2⟩
theorem a9S:∀ (l:List Wd) (k:Nat) (x:Wd),x∈l→∃ y∈a7x k l,y.1=x
 | [],_,_,h=>absurd h List.not_mem_nil
 | z :: l,k,x,h=>by
  rw [a7x];rcases List.mem_cons.1 h with rfl | h
  · exact ⟨_,List.mem_cons_self,rfl⟩
  · obtain ⟨y,h1,h2⟩:=a9S l (k+1) x h
    exact ⟨y,List.mem_cons_of_mem _ h1,h2⟩
theorem b0r (st:RS) (t:Txt):OwG st.terms.length (st.terms.length+st.nons.length) (st.fnd t):=by
 have hall:∀ y∈st.told,OwG st.terms.length (st.terms.length+st.nons.length) (y.1.2.1,y.2.1,y.2.2):=fun y hy=>by
  unfold RS.told at hy;rw [List.mem_append,List.mem_append] at hy;rcases hy with hy | hy | hy
  · rw [List.mem_map] at hy
    obtain ⟨x,-,rfl⟩:=hy;exact ⟨Nat.zero_le _,.inl rfl⟩
  · obtain ⟨h1,h2,h3⟩:=a9T _ _ _ hy
    exact ⟨by show y.2.1≤_;omega,.inl h3⟩
  · obtain ⟨h1,h2,h3⟩:=a9R _ _ _ hy
    exact ⟨by show y.2.1≤_;omega,.inr ⟨h1,h2⟩⟩
 unfold RS.fnd;cases h:a4l st.told (fun _=>none) t with
 | none=>exact ⟨Nat.zero_le _,.inl rfl⟩
 | some x=>exact a7v _ _ (fun _ _ e=>by cases e) hall t x h
theorem c2l (st:RS) (x:Wd) (h:x∈st.terms∨x∈st.nons):(st.fnd x.2.2).1≤x.2.1:=by
 obtain ⟨y,hy,rfl⟩:∃ y∈st.told,y.1=x:=by
  unfold RS.told;rcases h with h | h
  · obtain ⟨y,h1,h2⟩:=a9U st.terms 0 x h
    exact ⟨y,List.mem_append_right _ (List.mem_append_left _ h1),h2⟩
  · obtain ⟨y,h1,h2⟩:=a9S st.nons st.terms.length x h
    exact ⟨y,List.mem_append_right _ (List.mem_append_right _ h1),h2⟩
 obtain ⟨o,h1,h2⟩:=b3c st.told (fun _=>none) y hy;unfold RS.fnd;rw [h1];exact h2
theorem IA.trm {st:RS} (h:IA st):st.trm=st.terms.length:=by
 have:=congrArg List.length h.tm
 rw [List.length_map,List.length_map] at this;unfold RS.trm a3z;rw [List.take_length,this]
theorem IA.nlen {st:RS} (h:IA st):st.nons.length=st.nonts.length:=by
 have:=congrArg List.length h.nn
 rwa [List.length_map] at this
theorem a4T (T:Txt):∀ (f a:Nat) (l:List Wd),(∀ x∈l,x.2.1<a∧x.2.1<T.length∧x.2.2.length≤T.length)→l.Pairwise Bef→(∀ x∈(a4G T f a l).1,x.2.1<T.length∧x.2.2.length≤T.length)∧(a4G T f a l).1.Pairwise Bef
 | 0,a,l,h,hp=>⟨fun x hx=>(h x hx).2,hp⟩
 | f+1,a,l,h,hp=>by
  rw [a4G];split
  · exact ⟨fun x hx=>(h x hx).2,hp⟩
  · rename_i ha
    split
    · exact ⟨fun x hx=>absurd hx List.not_mem_nil,List.Pairwise.nil⟩
    · rename_i n hn
      obtain ⟨h0,h1⟩:=a8W hn;refine a4T T f _ _ (fun x hx=>?_) ?_
      · rw [List.mem_append,List.mem_singleton] at hx
        rcases hx with hx | rfl
        · obtain ⟨p1,p2,p3⟩:=h x hx
          exact ⟨by omega,p2,p3⟩
        · refine ⟨by show a<_;omega,by show a<_;omega,?_⟩
          show (if _ then _ else _:Txt).length≤_
          split
          · rw [List.length_take,List.length_drop];omega
          · rw [List.length_take,List.length_drop];omega
      · rw [List.pairwise_append]
        exact ⟨hp,List.pairwise_singleton _ _,fun x hx y hy=>by rw [List.mem_singleton] at hy;subst hy;exact (h x hx).1⟩
theorem a6X (s:Txt):(∀ x∈wsE s,x.2.2.length≤s.length)∧(wsE s).Pairwise Bef:=by
 have h:(∀ x∈(a0w s).1,x.2.1<s.length∧x.2.2.length≤s.length)∧(a0w s).1.Pairwise Bef:=by
  unfold a0w;split
  · exact ⟨fun x hx=>absurd hx List.not_mem_nil,List.Pairwise.nil⟩
  · exact a4T s _ _ [] (fun x hx=>absurd hx List.not_mem_nil) List.Pairwise.nil
 unfold wsE;refine ⟨fun x hx=>?_,?_⟩
 · rw [List.mem_append,List.mem_singleton] at hx
   rcases hx with hx | rfl
   · exact (h.1 x hx).2
   · exact Nat.zero_le _
 · rw [List.pairwise_append]
   exact ⟨h.2,List.pairwise_singleton _ _,fun x hx y hy=>by rw [List.mem_singleton] at hy;subst hy;exact (h.1 x hx).1⟩
theorem a7M:∀ (f:Nat) (st:RS),(RS.items f st).pot≤st.pot
 | 0,_=>Nat.le_refl _
 | f+1,st=>by
  rw [RS.items];split
  · exact Nat.le_trans (a7M f _) (RS.item_pot st)
  · exact Nat.le_refl _
theorem b7P (s:Txt):IA (rdS s):=IA.items _ _ ⟨rfl,rfl,fun _ h=>absurd h List.not_mem_nil,fun _ h=>by rcases h with h | h <;> exact absurd h List.not_mem_nil⟩
theorem b2P (s:Txt) {P:Wd→Prop} (h0:P (0,0,[])) (h:∀ x∈wsE s,P x):Inv P (rdS s):=Inv.items h0 _ _ ⟨h,fun _ h=>absurd h List.not_mem_nil,fun _ h=>absurd h List.not_mem_nil,fun _ h=>absurd h List.not_mem_nil,fun _ h=>absurd h List.not_mem_nil,fun _ h=>absurd h List.not_mem_nil⟩
theorem b7Q (s:Txt):GdI (rdS s):=GdI.items _ _ (fun _=>⟨(a6X s).2,fun _ h=>absurd h List.not_mem_nil,fun _ h=>absurd h List.not_mem_nil,List.Pairwise.nil,List.Pairwise.nil,fun _ h=>absurd h List.not_mem_nil,fun _ h=>absurd h List.not_mem_nil,Nat.zero_le _,Nat.zero_le _,fun _=>Nat.zero_le _⟩) ⟨fun _ _=>trivial,fun _ h=>absurd h List.not_mem_nil,fun _ h=>absurd h List.not_mem_nil,fun _ h=>absurd h List.not_mem_nil,fun _ h=>absurd h List.not_mem_nil,fun _ h=>absurd h List.not_mem_nil⟩
theorem c1x (s:Txt):LP (rdS s):=LP.items _ _ (fun _=>Nat.zero_le _)
end Go.Proofs.YtjgedijclkoemaaGreatDoor
