/- What AutoOne alone needs of layer 17: no statement of its own. -/
import Derived.Test.YtjgedijclkoemaaGreatDoorJ22
namespace Go.Proofs.YtjgedijclkoemaaGreatDoor
def b7V (g:Gm) (y:It):Int:=if y.2<1 then 0 else (a0e g y.1).getD (y.2 - 1).toNat 0
theorem c0b {g:Gm} {l:Kr} (h:∀ y∈l,itB g y=true) {s:Int} {y:It} (hy:y∈I_ g l s):0<s∧1≤y.2∧b7V g y=s:=by
 obtain ⟨h1,h2,h3⟩:=a8L.1 ((b0n h).1 hy);have h4:=T_.1 (a0f h ((a1h h).1 h2));have h5:0≤y.2 - 1:=h4.2.2.1;refine ⟨h1,by omega,?_⟩;unfold b7V;rw [if_neg (by omega)];exact h3
theorem FinI.to {g:Gm} {K:List Kr} (h:FinI g K) {i:Nat} (hi:i<K.length) {s:Nat} (h0:0<s) (hs:s≤g.all):a2f g K K[i] s = -1∨∃ (t:Nat) (ht:t<K.length),a2f g K K[i] s=(t:Int)∧0<t∧∀ y∈K[t],1≤y.2∧b7V g y=(s:Int):=by
 by_cases he:I_ g K[i] (s:Int)=[]
 · exact .inl (by unfold a2f;exact if_pos he)
 · have hm:=h.got i hi s h0 hs he
   have ht:=List.idxOf_lt_length_iff.2 hm;have hat:=List.getElem_idxOf ht;have hr:=h.kr.right _ (List.getElem_mem hi);have hy:∀ y∈I_ g K[i] (s:Int),1≤y.2∧b7V g y=(s:Int):=fun y hy=>(c0b hr hy).2
   refine .inr ⟨_,ht,by unfold a2f;rw [if_neg he],?_,by rw [hat];exact hy⟩;rcases Nat.eq_zero_or_pos (K.idxOf (I_ g K[i] (s:Int))) with h9 | h9
   · exfalso
     have e:K[K.idxOf (I_ g K[i] (s:Int))]=K[0]'h.pos:=by simp only [h9]
     rw [hat,h.first] at e
     have:=(hy (-1,0) (by rw [e];exact List.mem_singleton.2 rfl)).1
     have h8:(1:Int)≤0:=this;omega
   · exact h9
theorem FinI.from {g:Gm} {K:List Kr} (h:FinI g K) {i:Nat} (hi:i<K.length) (h0:0<i):∃ (j:Nat) (hj:j<K.length) (t:Nat),j<i∧0<t∧t≤g.all∧a2f g K K[j] t=(i:Int):=by
 obtain ⟨j,hj,t,h1,h2,h3,h4,h5⟩:=h.new i hi h0;refine ⟨j,hj,t,h1,h2,h3,?_⟩;unfold a2f;rw [if_neg h5,← h4,h.kr.nd.idxOf_getElem i hi]
def a7e (g:Gm) (K:List Kr) (t:Nat):Int:=match (K[t]?).bind (·.head?) with
 | some y=>b7V g y
 | none=>0
theorem b2g {g:Gm} {K:List Kr} {t:Nat} (ht:t<K.length) (hne:K[t]≠[]) {s:Int} (h:∀ y∈K[t],b7V g y=s):a7e g K t=s:=by
 unfold a7e;rw [List.getElem?_eq_getElem ht,Option.bind_some];cases hc:K[t] with
 | nil=>exact absurd hc hne
 | cons y l=>exact h y (by rw [hc];exact List.mem_cons_self)
theorem FinI.lead {g:Gm} {K:List Kr} (h:FinI g K) {i:Nat} (hi:i<K.length) {s:Nat} (hs:s<(a0J g K K[i]).length):((a0J g K K[i])[s]<0)∨∃ t:Nat,(a0J g K K[i])[s]=(t:Int)∧0<t∧t<K.length∧a7e g K t=(s:Int)∧0<s:=by
 have hs2:s<g.all+1:=by rw [a3K] at hs;exact hs
 have e:(a0J g K K[i])[s]=if s=0 then -1 else a2f g K K[i] s:=by
  simp only [a0J,List.getElem_map,List.getElem_range]
 by_cases h0:s=0
 · rw [if_pos h0] at e
   exact .inl (by rw [e];decide)
 · rw [if_neg h0] at e
   rcases h.to hi (Nat.pos_of_ne_zero h0) (show s≤g.all by omega) with h1 | ⟨t,ht,h1,h2,h3⟩
   · exact .inl (by rw [e,h1];decide)
   · exact .inr ⟨t,e.trans h1,h2,ht,b2g ht (h.kr.ne _ (List.getElem_mem ht)) fun y hy=>(h3 y hy).2,Nat.pos_of_ne_zero h0⟩
theorem FinI.led {g:Gm} {K:List Kr} (h:FinI g K) {t:Nat} (ht:t<K.length) (h0:0<t):∃ (i:Nat) (hi:i<K.length) (s:Nat) (hs:s<(a0J g K K[i]).length),i<t∧(a0J g K K[i])[s]=(t:Int):=by
 obtain ⟨j,hj,s,h1,h2,h3,h4⟩:=h.from ht h0;refine ⟨j,hj,s,by rw [a3K];omega,h1,?_⟩;rw [← h4];simp only [a0J,List.getElem_map,List.getElem_range];rw [if_neg (by omega)]
theorem FinI.items {g:Gm} {K:List Kr} (h:FinI g K) {t:Nat} (ht:t<K.length) (h0:0<t):0<a7e g K t∧∀ y∈K[t],1≤y.2∧b7V g y=a7e g K t:=by
 obtain ⟨j,hj,s,h1,h2,h3,h4⟩:=h.from ht h0;rcases h.to hj h2 h3 with h5 | ⟨t',ht',h5,h6,h7⟩
 · rw [h5] at h4;omega
 · have e:t'=t:=by rw [h5] at h4;omega
   subst e;have hs:=b2g ht' (h.kr.ne _ (List.getElem_mem ht')) fun y hy=>(h7 y hy).2
   rw [hs];exact ⟨by omega,h7⟩
theorem FinI.once {g:Gm} {K:List Kr} (h:FinI g K) {i k:Nat} (hi:i<K.length) (hk:k<K.length) (hne:i≠k):K[i]≠K[k]:=fun e =>
 hne (((h.kr.nd.idxOf_getElem i hi).symm.trans (congrArg (fun x=>K.idxOf x) e)).trans (h.kr.nd.idxOf_getElem k hk))
end Go.Proofs.YtjgedijclkoemaaGreatDoor
namespace Go.Proofs.YtjgedijclkoemaaGreatDoor
open Go.RowKit Go.Maps Go.Sort
theorem b4U {B:Nat} {w u:World} (h:Below B w u) {b k:Nat} {v:Value} (hb:B≤b):Below B w (u.setCell ⟨b,k,none⟩ v):=by
 have kk:Kept (f_ b) u (u.setCell ⟨b,k,none⟩ v):=a3E;refine ⟨kk.os.trans h.os,kk.tape.trans h.tape,kk.output.trans h.output,Nat.le_trans h.size kk.size,fun j hj=>?_⟩;rw [← h.block j hj];exact Below.heap_setCell _ _ _ j (fun e=>by have e:j=b:=e;omega)
structure OneL (g:Gm) (L:List St) (sy:Nat→Int):Prop where
 pos:0<L.length
 lead:∀ i (hi:i<L.length) s (hs:s<L[i].2.length),L[i].2[s]<0∨∃ t:Nat,L[i].2[s]=(t:Int)∧0<t∧t<L.length∧sy t=(s:Int)∧0<s
 led:∀ t,t<L.length→0<t→∃ i,∃ hi:i<L.length,∃ s,∃ hs:s<L[i].2.length,i<t∧L[i].2[s]=(t:Int)
 items:∀ t (ht:t<L.length),0<t→0<sy t∧∀ y∈L[t].1,1≤y.2∧b7V g y=sy t
 once:∀ i (hi:i<L.length) k (hk:k<L.length),i≠k→L[i].1≠L[k].1
 wide:∀ i (hi:i<L.length),L[i].2.length=g.all+1
 its:∀ i (hi:i<L.length),∀ y∈L[i].1,itB g y=true
theorem OneL.out {g:Gm} {K:List Kr} (h:FinI g K):OneL g (a6c g K K.length) (a7e g K):=by
 have hl:=a0i g K K.length
 have hat:∀ i (hi:i<(a6c g K K.length).length) (hk:i<K.length),(a6c g K K.length)[i]=(K[i],a0J g K K[i]):=fun i hi hk=>by
  have e:(a6c g K K.length)[i]=(K[i],if i<K.length then a0J g K K[i] else []):=a0Z (K:=K) hk;rw [e,if_pos hk]
 generalize a6c g K K.length=L at *;refine ⟨by rw [hl];exact h.pos,fun i hi s hs=>?_,fun t ht h0=>?_,fun t ht h0=>?_,fun i hi k hk hne=>?_,fun i hi=>?_,fun i hi=>?_⟩
 · have hk:i<K.length:=by omega
   have e:=hat i hi hk;have hs':s<(a0J g K K[i]).length:=by rw [e] at hs;exact hs
   have e2:L[i].2[s]=(a0J g K K[i])[s]:=by simp only [e]
   rw [e2];rcases h.lead hk hs' with h1 | ⟨t,h1,h2,h3,h4,h5⟩
   · exact .inl h1
   · exact .inr ⟨t,h1,h2,by omega,h4,h5⟩
 · obtain ⟨i,hi,s,hs,h1,h2⟩:=h.led (show t<K.length by omega) h0
   have hi':i<L.length:=by omega
   have e:=hat i hi' hi;have hs':s<L[i].2.length:=by rw [e];exact hs
   have e2:L[i].2[s]=(a0J g K K[i])[s]:=by simp only [e]
   exact ⟨i,hi',s,hs',h1,e2.trans h2⟩
 · have hk:t<K.length:=by omega
   rw [hat t ht hk];exact h.items hk h0
 · have hi':i<K.length:=by omega
   have hk':k<K.length:=by omega
   rw [hat i hi hi',hat k hk hk'];exact h.once hi' hk' hne
 · have hk:i<K.length:=by omega
   rw [hat i hi hk];exact a3K g K K[i]
 · have hk:i<K.length:=by omega
   rw [hat i hi hk];exact fun y hy=>h.kr.right _ (List.getElem_mem hk) y hy
theorem OneL.of {g:Gm} (h:UsG g∧a0A g):OneL g (N_ g) (a7e g (a7S g)):=by
 have h1:=FinI.fin h.1.snd h.2;unfold N_;exact OneL.out h1
structure OneI (L:List St) (sy:Nat→Int) (B F:List Int) (i s:Nat):Prop where
 lb:B.length=L.length
 lf:F.length=L.length
 val:∀ t (h:t<B.length),B[t]=0∨B[t]=sy t
 cur:∀ t (h:t<B.length) (h':t<F.length),B[t]≠0→F[t]≤(i:Int)
 met:∀ i' (hi:i'<L.length) s' (hs:s'<L[i'].2.length) t (h:t<B.length) (h':t<F.length),(i'<i∨i'=i∧s'<s)→L[i'].2[s']=(t:Int)→B[t]≠0∧F[t]≤(i':Int)
section
variable {L:List St} {sy:Nat→Int} {B F:List Int} {i s:Nat}
theorem OneI.start:OneI L sy (List.replicate L.length 0) (List.replicate L.length 0) 0 0:=by
 refine ⟨List.length_replicate,List.length_replicate,fun t h=>.inl (List.getElem_replicate _),fun t h h' hne=>absurd (List.getElem_replicate _) hne,fun i' hi s' hs t h h' hlt=>?_⟩;omega
theorem OneI.skip (h:OneI L sy B F i s) (hi:i<L.length) (hs:s<L[i].2.length) (hn:L[i].2[s]<0):OneI L sy B F i (s+1):=by
 refine ⟨h.lb,h.lf,h.val,h.cur,fun i' hi' s' hs' t ht ht' hlt e=>?_⟩;rcases hlt with hlt | ⟨rfl,hlt⟩
 · exact h.met i' hi' s' hs' t ht ht' (.inl hlt) e
 · by_cases e2:s'=s
   · subst e2
     omega
   · exact h.met i' hi' s' hs' t ht ht' (.inr ⟨rfl,by omega⟩) e
theorem OneI.seen (h:OneI L sy B F i s) (hi:i<L.length) (hs:s<L[i].2.length) {t0:Nat} (ht0:t0<B.length) (hn:L[i].2[s]=(t0:Int)) (hb:B[t0]≠0):OneI L sy B F i (s+1):=by
 refine ⟨h.lb,h.lf,h.val,h.cur,fun i' hi' s' hs' t ht ht' hlt e=>?_⟩;rcases hlt with hlt | ⟨rfl,hlt⟩
 · exact h.met i' hi' s' hs' t ht ht' (.inl hlt) e
 · by_cases e2:s'=s
   · subst e2
     have e3:t=t0:=by omega
     subst e3;exact ⟨hb,h.cur t ht ht' hb⟩
   · exact h.met i' hi' s' hs' t ht ht' (.inr ⟨rfl,by omega⟩) e
theorem OneI.put (h:OneI L sy B F i s) (hi:i<L.length) (hs:s<L[i].2.length) {t0:Nat} (ht0:t0<B.length) (hn:L[i].2[s]=(t0:Int)) (hb:B[t0]=0) (hsy:sy t0=(s:Int)) (h0:0<s):OneI L sy (B.set t0 (s:Int)) (F.set t0 (i:Int)) i (s+1):=by
 refine ⟨by rw [List.length_set];exact h.lb,by rw [List.length_set];exact h.lf,fun t ht=>?_,fun t ht ht' hne=>?_,fun i' hi' s' hs' t ht ht' hlt e=>?_⟩
 · rw [List.getElem_set]
   by_cases e:t0=t
   · subst e
     rw [if_pos rfl];exact .inr hsy.symm
   · rw [if_neg e]
     exact h.val t (by rw [List.length_set] at ht;exact ht)
 · rw [List.getElem_set] at hne
   rw [List.getElem_set];by_cases e:t0=t
   · rw [if_pos e]
     exact Int.le_refl _
   · rw [if_neg e] at hne ⊢
     exact h.cur t (by rw [List.length_set] at ht;exact ht) _ hne
 · have ht1:t<B.length:=by rw [List.length_set] at ht;exact ht
   have ht2:t<F.length:=by rw [List.length_set] at ht';exact ht'
   rw [List.getElem_set,List.getElem_set];by_cases e2:i'=i∧s'=s
   · obtain ⟨rfl,rfl⟩:=e2
     have e3:t=t0:=by omega
     subst e3;rw [if_pos rfl,if_pos rfl];exact ⟨by omega,Int.le_refl _⟩
   · have h9:=h.met i' hi' s' hs' t ht1 ht2 (by omega) e
     have e4:t0≠t:=fun e4=>by
      subst e4;exact h9.1 hb
     rw [if_neg e4,if_neg e4];exact h9
theorem OneI.row (h:OneI L sy B F i s) (hi:i<L.length) (hs:s=L[i].2.length):OneI L sy B F (i+1) 0:=by
 refine ⟨h.lb,h.lf,h.val,fun t ht ht' hne=>?_,fun i' hi' s' hs' t ht ht' hlt e=>?_⟩
 · have:=h.cur t ht ht' hne
   omega
 · refine h.met i' hi' s' hs' t ht ht' ?_ e
   by_cases e2:i'=i
   · subst e2
     exact .inr ⟨rfl,by omega⟩
   · exact .inl (by omega)
theorem OneI.done {g:Gm} (h:OneI L sy B F L.length s) (hL:OneL g L sy) {t:Nat} (ht:t<L.length) (h0:0<t):∃ (h1:t<B.length) (h2:t<F.length),B[t]=sy t∧0<sy t∧F[t]<(t:Int):=by
 have h1:t<B.length:=by rw [h.lb];exact ht
 have h2:t<F.length:=by rw [h.lf];exact ht
 obtain ⟨i,hi,s',hs,h3,h4⟩:=hL.led t ht h0;obtain ⟨h5,h6⟩:=h.met i hi s' hs t h1 h2 (.inl hi) h4;refine ⟨h1,h2,(h.val t h1).resolve_left h5,(hL.items t ht h0).1,by omega⟩
end
theorem Own.cellV {w:World} {B g n:Nat} {X:List Int} (h:Own w B (.slice (some ⟨g,0,none⟩) n n) X) (hn:X.length=n) {j:Nat} (hj:j<X.length):w.cell? ⟨g,j,none⟩=some (.int .i64 X[j])∧w.frozen? ⟨g,j,none⟩=false:=by
 obtain ⟨-,h2⟩:=h.cellX hn (show j<n by omega);obtain ⟨b,o,c,e,-,-,hq⟩:=(Nums.of_row (hn▸h)).at (show 0<X.length by omega);injection e with e;injection e with e;injection e with e1 e2;subst e1 e2
 have:=hq j hj
 rw [Nat.zero_add] at this;exact ⟨this,h2⟩
structure TwoR (w3:World) (b1 b2 n:Nat) (u:World) (B F:List Int):Prop where
 by_:Own u w3.heap.size (.slice (some ⟨b1,0,none⟩) n n) B
 fr:Own u w3.heap.size (.slice (some ⟨b2,0,none⟩) n n) F
 low:Below w3.heap.size w3 u
 ne:b1≠b2
 le1:w3.heap.size≤b1
 le2:w3.heap.size≤b2
theorem a7s {w w':World} {B g n m:Nat} {X:List Int} (h:Own w B (.slice (some ⟨g,0,none⟩) n m) X) {b:Nat} (hg:w.grownBy w' (some b)) (hne:g≠b):Own w' B (.slice (some ⟨g,0,none⟩) n m) X:=
 y_ h fun k hk=>hg.block k (h.lt k hk).2 (fun e=>by
  injection e with e;have hk:some g=some k:=hk;injection hk with hk;omega)
theorem TwoR.set1 {w3 u:World} {b1 b2 n:Nat} {B F:List Int} (h:TwoR w3 b1 b2 n u B F) (hn:B.length=n) (t:Nat) (z:Int):TwoR w3 b1 b2 n (u.setCell ⟨b1,t,none⟩ (.int .i64 z)) (B.set t z) F:=by
 obtain ⟨h1,h2⟩:=h.by_.set hn t z;exact ⟨h1,a7s h.fr h2 h.ne.symm,b4U h.low h.le1,h.ne,h.le1,h.le2⟩
theorem TwoR.set2 {w3 u:World} {b1 b2 n:Nat} {B F:List Int} (h:TwoR w3 b1 b2 n u B F) (hn:F.length=n) (t:Nat) (z:Int):TwoR w3 b1 b2 n (u.setCell ⟨b2,t,none⟩ (.int .i64 z)) B (F.set t z):=by
 obtain ⟨h1,h2⟩:=h.fr.set hn t z;exact ⟨a7s h.by_ h2 h.ne,h1,b4U h.low h.le2,h.ne,h.le1,h.le2⟩
theorem TwoR.keep {w3 u u':World} {b1 b2 n:Nat} {B F:List Int} (h:TwoR w3 b1 b2 n u B F) (hb:Below u.heap.size u u'):TwoR w3 b1 b2 n u' B F:=⟨j_ h.by_ hb,j_ h.fr hb,a_ h.low hb,h.ne,h.le1,h.le2⟩
set_option maxRecDepth 100000 in
set_option maxHeartbeats 8000000 in
theorem b4Z (rv nv lv pv:Value) (g:Gm) (w:World) (HA:AutOK w) (HW:WkOK17 w) (h:GmV w rv nv lv pv g) (hn:¬ (FitsH g∧UsG g∧a0A g)):Calls Tryz.prog 6 #[gmA rv nv lv pv g.start] w fun e w'=>e=.returned (.bool true)∧Below w.heap.size w w':=by
 have hKp:=hid (fun u (hu:Below w.heap.size w u)=>h.keep hu);have hB1:=al' w (.cells #[rv,nv,lv,pv,.int .i64 g.start] 27);have k1:=b_ w (.cells #[rv,nv,lv,pv,.int .i64 g.start] 27);obtain ⟨W,hW⟩:∃ x,w.alloc (.cells #[rv,nv,lv,pv,.int .i64 g.start] 27)=x:=⟨_,rfl⟩;rw [hW] at hB1 k1;have hk1:=hid (fun u (hu:Below W.heap.size W u)=>l_ (g_ k1 hu));have hB:=hid hB1;have GW:=hid (HW.wakes W hB.out);by_cases hf:FitsH g
 · have GL:=hid (fun u (hu:Below w.heap.size w u)=>a0N _ _ _ _ g u (hKp.out u hu) hf)
   have hno:¬ (UsG g∧a0A g):=fun h9=>hn ⟨hf,h9⟩
   have GA:=hid (fun u (hu:Below w.heap.size w u)=>HA.build g rv nv lv pv u hu hf (hKp.out u hu));have hez:eB g≠0:=fun e=>hno (a8X.1 e)
   rw [a7J hno] at GA;clear h hB1 k1 HA HW hf hno hn;generalize eB g=ez at *;generalize g.start=st at *;go_enter Tryz.func6,Tryz.ntmps6
   go_wp2_with (first
    | (go_at_call 8;refine GW.out.mono ?_;clear GW;rintro e w1 ⟨rfl,hc1⟩;have h1:=hid hc1;obtain ⟨x0,x1,x2,x3,x4⟩:=hk1.out w1 h1.out;clear hc1)
    | (go_at_call 9;refine (GL.out _ (a_ hB.out h1.out)).mono ?_;clear GL;rintro e w2 ⟨rfl,hc2⟩;have h2:=hid (a_ h1.out hc2);clear hc2;clear x0 x1 x2 x3 x4;obtain ⟨x0,x1,x2,x3,x4⟩:=hk1.out w2 h2.out)
    | (go_at_call 10;refine (GA.out _ (a_ hB.out h2.out)).mono ?_;clear GA;rintro e w3 ⟨va,rfl,hS,hc3⟩;have h3:=hid (a_ h2.out hc3);clear hS hc3;clear x0 x1 x2 x3 x4))
   go_ret;exact ⟨rfl,a_ hB.out h3.out⟩
 · have GL:=hid (fun u (hu:Below w.heap.size w u)=>a1L _ _ _ _ g u (hKp.out u hu) hf)
   clear h hB1 k1 HA HW hf hn;generalize g.start=st at *;go_enter Tryz.func6,Tryz.ntmps6
   go_wp2_with (first
    | (go_at_call 8;refine GW.out.mono ?_;clear GW;rintro e w1 ⟨rfl,hc1⟩;have h1:=hid hc1;obtain ⟨x0,x1,x2,x3,x4⟩:=hk1.out w1 h1.out;clear hc1)
    | (go_at_call 9;refine (GL.out _ (a_ hB.out h1.out)).mono ?_;clear GL;rintro e w2 ⟨rfl,hc2⟩;have h2:=hid (a_ h1.out hc2);clear hc2;clear x0 x1 x2 x3 x4))
   go_ret;exact ⟨rfl,a_ hB.out h2.out⟩
set_option maxRecDepth 100000 in
set_option maxHeartbeats 32000000 in
theorem b1M (rv nv lv pv:Value) (g:Gm) (w:World) (HA:AutOK w) (HW:WkOK17 w) (h:GmV w rv nv lv pv g) (hf:FitsH g) (hu:UsG g∧a0A g):Calls Tryz.prog 6 #[gmA rv nv lv pv g.start] w fun e w'=>e=.returned (.bool true)∧Below w.heap.size w w':=by
 have hKp:=hid (fun u (hu:Below w.heap.size w u)=>h.keep hu);obtain ⟨nna,nnc,rfl⟩:=h.nonts.shape;have hB1:=al' w (.cells #[rv,.slice nna g.nonts.length nnc,lv,pv,.int .i64 g.start] 27);have k1:=b_ w (.cells #[rv,.slice nna g.nonts.length nnc,lv,pv,.int .i64 g.start] 27);obtain ⟨W,hW⟩:∃ x,w.alloc (.cells #[rv,.slice nna g.nonts.length nnc,lv,pv,.int .i64 g.start] 27)=x:=⟨_,rfl⟩;rw [hW] at hB1 k1;have hk1:=hid (fun u (hu:Below W.heap.size W u)=>l_ (g_ k1 hu));have hB:=hid hB1;have GW:=hid (HW.wakes W hB.out);have GL:=hid (fun u (hu:Below w.heap.size w u)=>a0N _ _ _ _ g u (hKp.out u hu) hf);have GA:=hid (fun u (hu:Below w.heap.size w u)=>HA.build g _ _ _ _ u hu hf (hKp.out u hu));have GT:=hid (fun u (hu:Below w.heap.size w u)=>a4h _ _ _ _ g u (hKp.out u hu) (by have:=hf.rules;omega));have GS:=hid (fun u p (hu:Below w.heap.size w u) h0 h1=>a8C g _ _ _ _ p u (hKp.out u hu) hf.fits.bnd h0 h1);have GI:=hid (fun u va vb l m (ha:Its u va l) (hb:Its u vb m) (hl:l.length≤1000) (hm:m.length≤1000)=>a5Y va vb l m u (by omega) (by omega) ha hb);have q1:=hid (fun (x:St) (hx:x∈N_ g)=>(by have:=a0W hu.1 x hx;omega:x.1.length≤1000∧x.2.length≤1000));have n1:=a1C hu.2;have hL0:=hid (OneL.of hu);have hitb:=hid (fun (y:It) (hy:itB g y=true)=>T_.1 hy);have hsl8:=hid (fun (p:Int) (hp:p<(g.prods.length:Int))=>a0X hu.1.snd hp);have hall:g.all=g.terms+g.nonts.length:=rfl;have htm:g.terms≤g.rules.length:=a0d g.rules _;have hru:=hf.rules
 have hno:=hf.nonts;rw [a1S hu,a2y hu] at GA;clear h hB1 k1 HA HW hf hu;generalize a7e g (a7S g)=sy at *;generalize N_ g=L at *;obtain ⟨n,hn⟩:∃ n,Hid (L.length=n):=⟨_,hid rfl⟩;rw [hn.out] at n1;have hn0:0<n:=by rw [← hn.out];exact hL0.out.pos
 generalize g.start=st at *;go_enter Tryz.func6,Tryz.ntmps6
 go_wp2_with (first
  | (go_at_call 8;refine GW.out.mono ?_;clear GW;rintro e w1 ⟨rfl,hc1⟩;have h1:=hid hc1;obtain ⟨x0,x1,x2,x3,x4⟩:=hk1.out w1 h1.out;clear hc1)
  | (go_at_call 9;refine (GL.out _ (a_ hB.out h1.out)).mono ?_;clear GL;rintro e w2 ⟨rfl,hc2⟩;have h2:=hid (a_ h1.out hc2);clear hc2;clear x0 x1 x2 x3 x4;obtain ⟨x0,x1,x2,x3,x4⟩:=hk1.out w2 h2.out)
  | (go_at_call 10;refine (GA.out _ (a_ hB.out h2.out)).mono ?_;clear GA;rintro e w3 ⟨va,rfl,hS,hc3⟩;have h3:=hid (a_ h2.out hc3);have hQ:=hid (hS w3 (Below.refl _ _)).1;clear hS hc3;clear x0 x1 x2 x3 x4;obtain ⟨sa,sc,hsh⟩:=hQ.out.shape;subst hsh;rw [hn.out];obtain ⟨w4,hmk1,hO1,hb4⟩:=a6l w3 w3.heap.size n (Nat.le_refl _) (by omega);obtain ⟨w5,hmk2,hO2,hb5⟩:=a6l w4 w3.heap.size n hb4.size (by omega);have hO1:=hid hO1;have hO2:=hid hO2;have hb4:=hid hb4;have hb5:=hid hb5))
 obtain ⟨sb,so,rfl⟩:∃ sb so,sa=some ⟨sb,so,none⟩:=by
  obtain ⟨b',o,e,-⟩:=hQ.out.at (show 0<L.length by rw [hn.out];exact hn0);exact ⟨b',o,e⟩
 have hst:=hid (fun k (hk:k<L.length)=>(by
  obtain ⟨b',o,e,-,vk,vn,p1,p2,p3,p4⟩:=hQ.out.at hk;injection e with e;injection e with e1 e2;subst e1 e2;obtain ⟨ka,kc,rfl⟩:=p3.shape;obtain ⟨na,nc,rfl,-⟩:=id p4;exact ⟨ka,kc,na,nc,fun u hu=>⟨d_ hu p1,d_ hu p2,p3.keep hu,p4.keep hu⟩⟩:∃ ka kc na nc,∀ u,Below w3.heap.size w3 u→u.cell? ⟨sb,so+k * 2,none⟩=some (.slice ka L[k].1.length kc)∧u.cell? ⟨sb,so+k * 2+1,none⟩=some (.slice na L[k].2.length nc)∧Its u (.slice ka L[k].1.length kc) L[k].1∧Nums u (.slice na L[k].2.length nc) L[k].2))
 obtain ⟨b1,hb1⟩:∃ x,w3.heap.size=x:=⟨_,rfl⟩;obtain ⟨b2,hb2⟩:∃ x,w4.heap.size=x:=⟨_,rfl⟩
 have hw34:w3.heap.size<w4.heap.size:=by
  obtain ⟨-,h9⟩:=hO1.out.cellX (List.length_replicate) (show 0<n from hn0)
  have:=hO1.out.lt w3.heap.size rfl
  omega
 have hT0:Hid (TwoR w3 b1 b2 n w5 (List.replicate n 0) (List.replicate n 0)):=hid ⟨by rw [← hb1];exact j_ hO1.out hb5.out,by rw [← hb2];exact hO2.out,a_ hb4.out hb5.out,by omega,by omega,by omega⟩;have hI0:Hid (OneI L sy (List.replicate n 0) (List.replicate n 0) 0 0):=hid (by rw [← hn.out];exact OneI.start);rw [hb1,hb2];clear hmk1 hmk2 hO1 hO2 hb4 hb5 hQ hw34 hb1 hb2;go_loopw [34] (fun i u=>∃ (k:Nat) (B F:List Int),k≤n∧i=.int .i64 (k:Int)∧Hid (TwoR w3 b1 b2 n u B F)∧Hid (OneI L sy B F k 0)) (fun i _=>n - (intOf i).toNat)
 case atStart=>exact ⟨0,_,_,Nat.zero_le _,rfl,hT0,hI0⟩
 case round =>
  clear hT0 hI0;obtain ⟨k,B,F,hk,rfl,hT,hI⟩:=hrel;by_cases hlt:k<n
  · have hltz:(k:Int)<(n:Int):=by omega
    have hkl:k<L.length:=by rw [hn.out];exact hlt
    obtain ⟨ka,kc,na,nc,hcl⟩:=hst.out k hkl;have hcl:=hid hcl;obtain ⟨p1,p2,-,p4⟩:=hcl.out wr hT.out.low
    have hnum:=hid (fun u (hu:Below w3.heap.size w3 u) s (hs:s<L[k].2.length)=>(by
     obtain ⟨-,-,-,p4⟩:=hcl.out u hu;obtain ⟨b,o,c,e,-,-,hq⟩:=p4.at (by omega);injection e with e;subst e;exact ⟨b,o,rfl,hq s hs⟩:∃ b o,na=some ⟨b,o,none⟩∧u.cell? ⟨b,o+s,none⟩=some (.int .i64 L[k].2[s])))
    have hlead:=hid (fun s (hs:s<L[k].2.length)=>hL0.out.lead k hkl s hs);have hskip:=hid (fun B F s (h:OneI L sy B F k s) (hs:s<L[k].2.length) hn=>h.skip hkl hs hn);have hseen:=hid (fun B F s (h:OneI L sy B F k s) (hs:s<L[k].2.length) t (ht:t<B.length) (hn:L[k].2[s]=(t:Int)) hb=>h.seen hkl hs ht hn hb);have hput:=hid (fun B F s (h:OneI L sy B F k s) (hs:s<L[k].2.length) t (ht:t<B.length) (hn:L[k].2[s]=(t:Int)) hb hsy h0=>h.put hkl hs ht hn hb hsy h0);have hrow:=hid (fun B F s (h:OneI L sy B F k s) (hs:s=L[k].2.length)=>h.row hkl hs);have hxb:=(q1.out _ (List.getElem_mem hkl)).2;generalize L[k].2=X at *;obtain ⟨sl,hsl⟩:∃ q,Hid (X.length=q):=⟨_,hid rfl⟩;rw [hsl.out] at p2 hxb;go_wp2;clear p1 p2 p4 hcl;go_loopw [43] (fun i u=>∃ (s:Nat) (B F:List Int),s≤sl∧i=.int .i64 (s:Int)∧Hid (TwoR w3 b1 b2 n u B F)∧Hid (OneI L sy B F k s)) (fun i _=>sl - (intOf i).toNat)
    case atStart=>exact ⟨0,B,F,Nat.zero_le _,rfl,hT,hI⟩
    case round =>
     clear hT hI;obtain ⟨s,B,F,hs,rfl,hT,hI⟩:=hrel;by_cases hst9:s<sl
     · have hstz:(s:Int)<(sl:Int):=by omega
       have hsx:s<X.length:=by rw [hsl.out];exact hst9
       obtain ⟨b,o,rfl,c0⟩:=hnum.out wr hT.out.low s hsx;have hBl:Hid (B.length=n):=hid (hI.out.lb.trans hn.out);have hFl:Hid (F.length=n):=hid (hI.out.lf.trans hn.out);rcases hlead.out s hsx with hz | ⟨t,hz,ht0,htn,hsy,hs0⟩
       · have hI2:=hid (hskip.out B F s hI.out hsx hz)
         generalize X[s]=z at *;clear hI;go_wp2;go_roundw
         case rel=>exact ⟨s+1,B,F,by omega,by go_num,hT,hI2⟩
         case measure=>simp [intOf];omega
       · rw [hn.out] at htn
         have htB:t<B.length:=by rw [hBl.out];exact htn
         have htF:t<F.length:=by rw [hFl.out];exact htn
         have hta:¬ (t:Int)=0:=by omega
         have htb:¬ (n:Int)≤(t:Int):=by omega
         have htc:(t:Int)<(n:Int):=by omega
         have htd:¬ (t:Int)<0:=by omega
         have hte:¬ (s:Int)=0:=by omega
         obtain ⟨c1,f1⟩:=hT.out.by_.cellV hBl.out htB;by_cases hb0:B[t]=0
         · have hI2:=hid (hput.out B F s hI.out hsx t htB hz hb0 hsy hs0)
           have hT1:=hT.out.set1 hBl.out t (s:Int);have hT2:=hid (hT1.set2 hFl.out t (k:Int));obtain ⟨c2,f2⟩:=hT1.fr.cellV hFl.out htF;rw [hz] at c0;rw [hb0] at c1;generalize F[t]=ft at *;clear hI hT hT1 hz hb0 hsy;go_wp2;go_roundw
           case rel=>exact ⟨s+1,_,_,by omega,by go_num,hT2,hI2⟩
           case measure=>simp [intOf];omega
         · have hbs:B[t]=(s:Int):=((hI.out.val t htB).resolve_left hb0).trans hsy
           have hI2:=hid (hseen.out B F s hI.out hsx t htB hz hb0);rw [hz] at c0;rw [hbs] at c1;clear hI hz hb0 hsy hbs;go_wp2;go_roundw
           case rel=>exact ⟨s+1,B,F,by omega,by go_num,hT,hI2⟩
           case measure=>simp [intOf];omega
     · have hstz:¬ (s:Int)<(sl:Int):=by omega
       have hI2:=hid (hrow.out B F s hI.out (by rw [hsl.out];omega));clear hI;go_wp2;go_roundw
       case rel=>exact ⟨k+1,B,F,by omega,by go_num,hT,hI2⟩
       case measure=>simp [intOf];omega
  · have hltz:¬ (k:Int)<(n:Int):=by omega
    obtain rfl:k=n:=by omega
    have hdone:=hid (fun t (ht:t<k) (h0:0<t)=>(by
     have h9:=hI.out;rw [← hn.out] at h9;exact h9.done hL0.out (by rw [hn.out];exact ht) h0:∃ (h1:t<B.length) (h2:t<F.length),B[t]=sy t∧0<sy t∧F[t]<(t:Int)))
    have hBl:Hid (B.length=k):=hid (hI.out.lb.trans hn.out);have hFl:Hid (F.length=k):=hid (hI.out.lf.trans hn.out);clear hI;have hk1z:(0:Int)<(k:Int):=by omega
    go_wp2_with fail
    go_loopw [10] (fun i u=>∃ (j:Nat),1≤j∧j≤k∧i=.int .i64 (j:Int)∧Hid (TwoR w3 b1 b2 k u B F)) (fun i _=>k - (intOf i).toNat)
    case atStart=>exact ⟨1,Nat.le_refl _,hn0,rfl,hT⟩
    case round =>
     clear hT;obtain ⟨j,hj1,hj,rfl,hT⟩:=hrel;by_cases hlt:j<k
     · have hltz:(j:Int)<(k:Int):=by omega
       have hjl:j<L.length:=by rw [hn.out];exact hlt
       obtain ⟨hB1,hF1,hBe,hsp,hFe⟩:=hdone.out j hlt hj1;obtain ⟨c1,-⟩:=hT.out.by_.cellV hBl.out hB1;obtain ⟨c2,-⟩:=hT.out.fr.cellV hFl.out hF1
       have hby:=hid (fun u (hT:TwoR w3 b1 b2 k u B F)=>(by
        have h9:=(hT.by_.cellV hBl.out hB1).1;rw [hBe] at h9;exact h9:u.cell? ⟨b1,j,none⟩=some (.int .i64 (sy j))))
       rw [hBe] at c1;obtain ⟨ka,kc,na,nc,hcl⟩:=hst.out j hjl;have hcl:=hid hcl;have hitm:=hid ((hL0.out.items j hjl hj1).2);have hits:=hid (hL0.out.its j hjl);have honce:=hid (fun i (hi:i<L.length) (hne:j≠i)=>hL0.out.once j hjl i hi hne);have hkb:=(q1.out _ (List.getElem_mem hjl)).1;generalize F[j]=fj at *;generalize hskk:sy j=sk at *;clear hskk hBe hdone;have hsk0:¬ sk=0:=by omega
       have hfj:¬ (j:Int)≤fj:=by omega
       have hfj2:fj<(j:Int):=by omega
       go_wp2_with fail
       clear c1 c2;go_loopw [108] (fun i u=>∃ q:Nat,q≤j∧i=.int .i64 (q:Int)∧Hid (TwoR w3 b1 b2 k u B F)) (fun i _=>j - (intOf i).toNat)
       case atStart=>exact ⟨0,Nat.zero_le _,rfl,hT⟩
       case round =>
        clear hT;obtain ⟨q,hq,rfl,hT⟩:=hrel;obtain ⟨p1,-,pI,-⟩:=hcl.out wr hT.out.low;by_cases hqt:q<j
        · have hqz:(q:Int)<(j:Int):=by omega
          have hqk:(q:Int)<(k:Int):=by omega
          have hql:q<L.length:=by omega
          obtain ⟨kaq,kcq,naq,ncq,hcq⟩:=hst.out q hql;obtain ⟨r1,-,rI,-⟩:=hcq wr hT.out.low;have hkq:=(q1.out _ (List.getElem_mem hql)).1
          have cI:Hid (∀ d os,Calls Tryz.prog 16 #[.slice ka L[j].1.length kc,.slice kaq L[q].1.length kcq] (grow (redrawn wr d) os) fun e w''=>e=.returned (.bool false)∧∃ p:Regrown,w''=grow (redrawn wr p.d) p.os):=hid (fun d os=>Calls.regrown_of (by
           have h9:=GI.out (grow (redrawn wr d) os) _ _ L[j].1 L[q].1 (pI.keep (below_regrown wr d os)) (rI.keep (below_regrown wr d os)) hkb hkq;rw [decide_eq_false (honce.out q hql (by omega))] at h9;exact h9))
          have g0:=cell_regrown p1;have g1:=cell_regrown r1;clear p1 r1 pI rI hcq;generalize L[j].1.length=ml at *;generalize L[q].1.length=mq at *;go_wp2_with fail
          refine wp_region_quiet_below (by kernel_rfl) (by kernel_rfl) ?_
          repeat (first | go_big_quiet_step (with_reducible exact cI.out _ _) | quiet_step (fail))
          refine wpQuiet_nil ?_;intro _ hw';obtain ⟨⟨dq,osq⟩,hw''⟩:=hw';subst hw'';have hT2:=hid (hT.out.keep (below_regrown wr dq osq));generalize grow (redrawn wr dq) osq=wy at *;go_wp2;go_roundw
          case rel=>exact ⟨q+1,by omega,by go_num,hT2⟩
          case measure=>simp [intOf];omega
        · have hqz:¬ (q:Int)<(j:Int):=by omega
          obtain ⟨m,hm⟩:∃ x,Hid (L[j].1.length=x):=⟨_,hid rfl⟩;rw [hm.out] at p1 hkb;clear pI;go_wp2_with fail
          clear p1;go_loopw [129] (fun i u=>∃ p:Nat,p≤m∧i=.int .i64 (p:Int)∧Hid (TwoR w3 b1 b2 k u B F)) (fun i _=>m - (intOf i).toNat)
          case atStart=>exact ⟨0,Nat.zero_le _,rfl,hT⟩
          case round =>
           clear hT;obtain ⟨p,hp,rfl,hT⟩:=hrel;by_cases hpt:p<m
           · have hpz:(p:Int)<(m:Int):=by omega
             have hpl:p<L[j].1.length:=by rw [hm.out];exact hpt
             obtain ⟨b3,o3,e,-,z0,z1⟩:=Lst.at ((hcl.out wr hT.out.low).2.2.1) hpl;subst e;have hmem:=List.getElem_mem hpl;obtain ⟨hd1,hps⟩:=hitm.out _ hmem;obtain ⟨i1,i2,i3,i4⟩:=hitb.out _ (hits.out _ hmem);clear hmem;generalize L[j].1[p]=y at *;obtain ⟨x1,x2⟩:=y;dsimp only at hd1 hps i1 i2 i3 i4 z0 z1;obtain ⟨dn,hdn⟩:∃ dn:Nat,x2=(dn:Int)+1:=⟨(x2 - 1).toNat,by omega⟩;have hsl:dn<(a0e g x1).length:=by omega
             have hse:(a0e g x1)[dn]=sk:=by
              have h9:(if x2<1 then (0:Int) else (a0e g x1).getD (x2 - 1).toNat 0)=sk:=hps;have h8:(x2 - 1).toNat=dn:=by omega
              rw [if_neg (by omega),h8,List.getD_eq_getElem?_getD,List.getElem?_eq_getElem hsl,Option.getD_some] at h9;exact h9
             have hSk:=hid (fun u v B (hO:Own u B v (a0e g x1))=>(by
              obtain ⟨b,o,cp,e,h1,h2,h3⟩:=(Nums.of_row hO).at (by omega);refine ⟨b,o,cp,e,?_⟩;have h9:=h3 dn hsl;rw [hse] at h9;exact h9:∃ b o cp,v=.slice (some ⟨b,o,none⟩) (a0e g x1).length cp∧u.cell? ⟨b,o+dn,none⟩=some (.int .i64 sk)))
             have GS1:=hid (fun u (hu:Below w.heap.size w u)=>GS.out u x1 hu i1 i2);obtain ⟨X1,hX1⟩:∃ z,wr.alloc (.cells #[.int .i64 x1,.int .i64 x2] 49)=z:=⟨_,rfl⟩;have hax:Below wr.heap.size wr X1:=by rw [← hX1];exact al' wr _
             have kX:X1.heap[wr.heap.size]?=some (.cells #[.int .i64 x1,.int .i64 x2] 49):=by rw [← hX1];exact b_ wr _
             have hbx:=hid (fun u (hu:Below X1.heap.size X1 u)=>w_ (g_ kX hu));obtain ⟨u0,u1⟩:=hbx.out X1 (Below.refl _ _);have hwX:=hid (show Below w.heap.size w X1 from a_ hB.out (a_ h3.out (a_ hT.out.low hax)));have haxH:=hid hax;obtain ⟨y0,y1,y2,y3,y4⟩:=hk1.out X1 (a_ h3.out (a_ hT.out.low hax));have hd2:¬ x2<1:=by omega
             have hd3:¬ (dn:Int)<0:=by omega
             have hd4:(dn:Int)<((a0e g x1).length:Int):=by omega
             have hd5:¬ ((a0e g x1).length:Int)≤(dn:Int):=by omega
             have hsbn:=hsl8.out x1 i2
             have hwr:IntKind.i64.wrap (x2 - 1)=(dn:Int):=by
              rw [IntKind.wrap_i64];omega
             clear hse hps hd1 i1 i2 i3 i4 hdn kX hax hsl;generalize (a0e g x1).length=sl at *;go_wp2_with (go_at_call 17;refine (GS1.out _ hwX.out).mono ?_;clear GS1;rintro e w5 ⟨v5,rfl,hO5,hc5⟩;obtain ⟨b5,o5,c5,rfl,hs5⟩:=hSk.out _ _ _ hO5;clear hO5;have hc5:=hid hc5;clear u0 u1 z0 z1 y0 y1 y2 y3 y4;obtain ⟨u0,u1⟩:=hbx.out w5 hc5.out;have hT5:=hid (hT.out.keep (a_ haxH.out hc5.out));have c1:=hby.out w5 hT5.out)
             have g0:=cell_regrown u0;have g1:=cell_regrown u1;have g2:=cell_regrown c1;have g3:=cell_regrown hs5;clear u0 u1 c1 hs5;refine wp_region_quiet_below (by kernel_rfl) (by kernel_rfl) ?_
             repeat (first | go_big_quiet_step (fail) | quiet_step (fail))
             refine wpQuiet_nil ?_;intro _ hw';obtain ⟨⟨dq,osq⟩,hw''⟩:=hw';subst hw'';have hT2:=hid (hT5.out.keep (below_regrown w5 dq osq));generalize grow (redrawn w5 dq) osq=wy at *;go_wp2;go_roundw
             case rel=>exact ⟨p+1,by omega,by go_num,hT2⟩
             case measure=>simp [intOf];omega
           · have hpz:¬ (p:Int)<(m:Int):=by omega
             go_wp2;go_roundw
             case rel=>exact ⟨j+1,by omega,by omega,by go_num,hT⟩
             case measure=>simp [intOf];omega
     · have hltz:¬ (j:Int)<(k:Int):=by omega
       have hl0:0<L.length:=by rw [hn.out];exact hn0
       obtain ⟨ka,kc,na,nc,hcl⟩:=hst.out 0 hl0;obtain ⟨-,p2,-,-⟩:=hcl wr hT.out.low;have hw0:=hL0.out.wide 0 hl0;rw [hw0,hall,Nat.zero_mul,Nat.add_zero] at p2;have hlo:=hid (show Below W.heap.size W wr from a_ h3.out hT.out.low);obtain ⟨y0,y1,y2,y3,y4⟩:=hk1.out wr hlo.out;have cT:Hid (∀ d os,Calls Tryz.prog 18 #[gmA rv (.slice nna g.nonts.length nnc) lv pv st] (grow (redrawn wr d) os) fun e w''=>e=.returned (.int .i64 (g.terms:Int))∧∃ p:Regrown,w''=grow (redrawn wr p.d) p.os):=hid (fun d os=>Calls.regrown_of (GT.out _ (a_ hB.out (a_ hlo.out (below_regrown wr d os)))));have g0:=cell_regrown p2;have e0:=cell_regrown y0;have e1:=cell_regrown y1;have e2:=cell_regrown y2;have e3:=cell_regrown y3;have e4:=cell_regrown y4;clear p2 y0 y1 y2 y3 y4 hw0 hcl;generalize g.terms=tn at *;generalize g.nonts.length=nn at *;have hwA:IntKind.i64.wrap ((tn:Int)+(nn:Int))=((tn+nn:Nat):Int):=by rw [IntKind.wrap_i64];omega
       have hwB:IntKind.i64.wrap (((tn+nn:Nat):Int)+1)=((tn+nn+1:Nat):Int):=by rw [IntKind.wrap_i64];omega
       go_wp2_with fail
       refine wp_region_quiet_below (by kernel_rfl) (by kernel_rfl) ?_
       repeat (first | go_big_quiet_step (with_reducible exact cT.out _ _) | quiet_step (fail))
       refine wpQuiet_nil ?_;intro _ hw';obtain ⟨⟨dq,osq⟩,hw''⟩:=hw';subst hw'';have hq9:=hid (a_ hlo.out (below_regrown wr dq osq));generalize grow (redrawn wr dq) osq=wy at *;go_wp2;go_ret;exact ⟨by first | rfl | simp,a_ hB.out hq9.out⟩
set_option maxRecDepth 20000 in
theorem a9g (rv nv lv pv:Value) (g:Gm) (w:World) (HA:AutOK w) (HW:WkOK17 w) (h:GmV w rv nv lv pv g):Calls Tryz.prog 6 #[gmA rv nv lv pv g.start] w fun e w'=>e=.returned (.bool true)∧Below w.heap.size w w':=by
 by_cases hn:FitsH g∧UsG g∧a0A g
 · exact b1M rv nv lv pv g w HA HW h hn.1 hn.2
 · exact b4Z rv nv lv pv g w HA HW h hn
end Go.Proofs.YtjgedijclkoemaaGreatDoor
