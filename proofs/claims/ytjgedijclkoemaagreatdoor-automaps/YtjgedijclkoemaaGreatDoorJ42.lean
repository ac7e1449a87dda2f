/- What the five laws of layer 17 share, part 42: no statement of its own. -/
import Derived.Test.YtjgedijclkoemaaGreatDoorJ39
namespace Go.Proofs.YtjgedijclkoemaaGreatDoor
open Go.RowKit Go.Maps Go.Sort
theorem a1x {g:Gm} {l out:List It} (h:∀ x,x∈out↔CloG g l x) (sym:Int):I_ g l sym=(b5n g).filter fun y=>decide (0<sym) && (out.contains (y.1,y.2 - 1) && decide (a0k g (y.1,y.2 - 1)=sym)):=by
 unfold I_;refine List.filter_congr fun y _=>?_
 rw [Bool.eq_iff_iff];have e:∀ (p:Prop) (i:Decidable p),(@decide p i=true)↔p:=fun p i=>@decide_eq_true_iff p i
 refine (e _ _).trans ?_;rw [Bool.and_eq_true,Bool.and_eq_true,decide_eq_true_eq,decide_eq_true_eq,List.contains_iff_mem,h]
def a1P:Kr:=[(-1,0)]
def a1U:Kr:=[(0,1)]
def a1T:Kr:=[(-1,1)]
def a2x:Kr:=[(0,2)]
theorem b0x:∀ k,k<2→k<(t_ exI).prods.length:=fun k hk=>by rw [a6B];exact hk
theorem b8j:∀ x,x∈([(-1,0),(0,0),(1,0)]:List It)↔CloG (t_ exI) a1P x:=by
 have h1:=(CI.start (t_ exI) a1P).add (b0x 0 (by decide)) (by decide) (x:=(-1,0)) (by decide) (by rw [a0U];decide +kernel);have h2:=h1.add (b0x 1 (by decide)) (by decide) (x:=(-1,0)) (by decide) (by rw [a0U];decide +kernel)
 exact h2.done (fun k hk=>.inl (by
  have hk2:=a6B▸hk;rcases k with _ | _ | k
  · decide
  · decide
  · omega))
theorem b8i:∀ x,x∈([(0,1),(0,0),(1,0)]:List It)↔CloG (t_ exI) a1U x:=by
 have h1:=(CI.start (t_ exI) a1U).add (b0x 0 (by decide)) (by decide) (x:=(0,1)) (by decide) (by rw [a0U];decide +kernel);have h2:=h1.add (b0x 1 (by decide)) (by decide) (x:=(0,1)) (by decide) (by rw [a0U];decide +kernel)
 exact h2.done (fun k hk=>.inl (by
  have hk2:=a6B▸hk;rcases k with _ | _ | k
  · decide
  · decide
  · omega))
theorem b8h:∀ x,x∈([(-1,1)]:List It)↔CloG (t_ exI) a1T x:=by
 exact (CI.start (t_ exI) a1T).done (fun k hk=>.inr (by
  rw [a0U];decide +kernel))
theorem b8g:∀ x,x∈([(0,2)]:List It)↔CloG (t_ exI) a2x x:=by
 exact (CI.start (t_ exI) a2x).done (fun k hk=>.inr (by
  rw [a0U];decide +kernel))
theorem a2W:(t_ exI).all=2:=by decide +kernel
theorem b8o:I_ (t_ exI) a1P ((1:Nat):Int)=a1U:=by rw [a1x b8j,a1y];decide +kernel
theorem b8n:I_ (t_ exI) a1P ((2:Nat):Int)=a1T:=by rw [a1x b8j,a1y];decide +kernel
theorem b8m:I_ (t_ exI) a1U ((1:Nat):Int)=a1U:=by rw [a1x b8i,a1y];decide +kernel
theorem b8l:I_ (t_ exI) a1U ((2:Nat):Int)=a2x:=by rw [a1x b8i,a1y];decide +kernel
theorem c2B:I_ (t_ exI) a1T ((1:Nat):Int)=[]:=by rw [a1x b8h,a1y];decide +kernel
theorem c2A:I_ (t_ exI) a1T ((2:Nat):Int)=[]:=by rw [a1x b8h,a1y];decide +kernel
theorem c2z:I_ (t_ exI) a2x ((1:Nat):Int)=[]:=by rw [a1x b8g,a1y];decide +kernel
theorem c2y:I_ (t_ exI) a2x ((2:Nat):Int)=[]:=by rw [a1x b8g,a1y];decide +kernel
theorem a2B {g:Gm} {i:Nat} {K:List Kr} (h:m_ g i=K) (hi:i<K.length):m_ g (i+1)=K_ g K K[i] g.all:=by
 subst h;exact W_ hi
theorem a3X {g:Gm} {K:List Kr} {x k:Kr} {s:Nat} (h:I_ g x (s:Int)=k) (h1:k≠[]) (h2:¬ k∈K):a2e g K x s=K++[k]:=by
 subst h;exact b2l h1 h2
theorem b2n {g:Gm} {K:List Kr} {x k:Kr} {s:Nat} (h:I_ g x (s:Int)=k) (h2:k∈K):a2e g K x s=K:=by
 subst h;exact b2k h2
theorem c2x:m_ (t_ exI) 1=[a1P,a1U,a1T]:=by
 have h:=a2B (g:=t_ exI) (i:=0) (K:=[a1P]) rfl (by decide);rw [a2W] at h;have e:K_ (t_ exI) [a1P] a1P 2=a2e (t_ exI) (a2e (t_ exI) [a1P] a1P 1) a1P 2:=rfl;rw [a3X b8o (by decide) (by decide)] at e;rw [a3X b8n (by decide) (by decide)] at e;exact h.trans e
theorem c2w:m_ (t_ exI) 2=[a1P,a1U,a1T,a2x]:=by
 have h:=a2B c2x (by decide);rw [a2W] at h;have e:K_ (t_ exI) [a1P,a1U,a1T] a1U 2=a2e (t_ exI) (a2e (t_ exI) [a1P,a1U,a1T] a1U 1) a1U 2:=rfl;rw [b2n b8m (by decide)] at e;rw [a3X b8l (by decide) (by decide)] at e;exact h.trans e
theorem c2v:m_ (t_ exI) 3=[a1P,a1U,a1T,a2x]:=by
 have h:=a2B c2w (by decide);rw [a2W] at h;have e:K_ (t_ exI) [a1P,a1U,a1T,a2x] a1T 2=a2e (t_ exI) (a2e (t_ exI) [a1P,a1U,a1T,a2x] a1T 1) a1T 2:=rfl;rw [a3W c2B] at e;rw [a3W c2A] at e;exact h.trans e
theorem b8k:m_ (t_ exI) 4=[a1P,a1U,a1T,a2x]:=by
 have h:=a2B c2v (by decide);rw [a2W] at h;have e:K_ (t_ exI) [a1P,a1U,a1T,a2x] a2x 2=a2e (t_ exI) (a2e (t_ exI) [a1P,a1U,a1T,a2x] a2x 1) a2x 2:=rfl;rw [a3W c2z] at e;rw [a3W c2y] at e;exact h.trans e
theorem b4j:a7S (t_ exI)=[a1P,a1U,a1T,a2x]:=by
 have h:=a0m (g:=t_ exI) (i:=4) (by rw [b8k];decide) 241 (by decide);unfold a7S;rw [h,b8k]
theorem b4i:a0A (t_ exI):=by
 unfold a0A;rw [b4j];decide
theorem a6f {g:Gm} {K:List Kr} {x k:Kr} {s:Nat} (h:I_ g x (s:Int)=k) (h1:k≠[]):a2f g K x s=(K.idxOf k:Int):=by
 subst h;exact a6e h1
theorem a9Q {g:Gm} (h:g.all=2) (K:List Kr) (x:Kr):a0J g K x=[-1,a2f g K x 1,a2f g K x 2]:=by
 unfold a0J;rw [h];rfl
theorem c2s:a0J (t_ exI) [a1P,a1U,a1T,a2x] a1P=[-1,1,2]:=by
 rw [a9Q a2W,a6f b8o (by decide),a6f b8n (by decide)];decide
theorem c2r:a0J (t_ exI) [a1P,a1U,a1T,a2x] a1U=[-1,1,3]:=by
 rw [a9Q a2W,a6f b8m (by decide),a6f b8l (by decide)];decide
theorem c0i:N_ (t_ exI)=[(a1P,[-1,1,2]),(a1U,[-1,1,3]),(a1T,a0J (t_ exI) [a1P,a1U,a1T,a2x] a1T),(a2x,a0J (t_ exI) [a1P,a1U,a1T,a2x] a2x)]:=by
 unfold N_;rw [b4j,← c2s,← c2r];generalize hK:[a1P,a1U,a1T,a2x]=K;rw [show K.length=4 by rw [← hK];rfl]
 have:∀ M:List Kr,M=[a1P,a1U,a1T,a2x]→(M.mapIdx fun j x=>(x,if j<4 then a0J (t_ exI) K x else []))=[(a1P,a0J (t_ exI) K a1P),(a1U,a0J (t_ exI) K a1U),(a1T,a0J (t_ exI) K a1T),(a2x,a0J (t_ exI) K a2x)]:=fun M e=>by
  subst e;rfl
 exact this K hK.symm
theorem c2u:(decide ((t_ exI).rules.length≤10) && decide ((t_ exI).nonts.length≤10) && decide ((t_ exI).levels.length≤20) && decide ((t_ exI).prods.length≤24) && decide (rsK (t_ exI) (t_ exI).prods.length≤60))=true:=by decide +kernel
theorem c2t:((t_ exI).rules.all (fun r=>decide (r.re.length≤30) && decide (r.name.length≤40)) && (t_ exI).nonts.all (fun t=>decide (t.length≤40)) && (t_ exI).prods.all (fun p=>decide (p.right.length≤8)))=true:=by decide +kernel
theorem b7b:FitsH (t_ exI):=by
 have h1:=c2u;have h2:=c2t;simp only [Bool.and_eq_true,decide_eq_true_eq,List.all_eq_true] at h1 h2;exact ⟨h1.1.1.1.1,h1.1.1.1.2,h1.1.1.2,h1.1.2,fun j h=>h2.1.1 _ (List.getElem_mem h),fun j h=>h2.1.2 _ (List.getElem_mem h),fun j h=>h2.2 _ (List.getElem_mem h),h1.2⟩
theorem c3a {l:List (Int×Int)} (e:l=[(0,0),(0,0)]):∀ i (h:i<l.length),lvB i l[i]=true:=by
 subst e;intro i h;rcases i with _ | _ | i
 · rfl
 · rfl
 · have h2:i+1+1<2:=h
   omega
theorem c2q:(decide ((t_ exI).rules.length≤16) && decide ((t_ exI).nonts.length≤16) && decide ((t_ exI).prods.length≤40) && (t_ exI).rules.all (fun r=>v_ r.re) && (t_ exI).allN.all a0V && decide ((t_ exI).allN.Nodup))=true:=by decide +kernel
theorem c2p:(decide ((t_ exI).levels.length=(t_ exI).terms+1) && decide (((t_ exI).terms:Int)<(t_ exI).start) && decide ((t_ exI).start≤((t_ exI).all:Int)) && (t_ exI).prods.all (pdB (t_ exI)))=true:=by decide +kernel
theorem c2o:(t_ exI).levels=[(0,0),(0,0)]:=by decide +kernel
theorem c0j:SndG (t_ exI):=by
 have h1:=c2q;have h2:=c2p;simp only [Bool.and_eq_true,decide_eq_true_eq,List.all_eq_true] at h1 h2;exact ⟨h1.1.1.1.1.1,h1.1.1.1.1.2,h1.1.1.1.2,h1.1.1.2,h1.1.2,h1.2,h2.1.1.1,c3a c2o,(fun h=>by rw [a7W] at h;cases h),fun _=>⟨h2.1.1.2,h2.1.2⟩,h2.2⟩
set_option maxRecDepth 20000 in
set_option maxHeartbeats 16000000 in
theorem b1X {w0:World} (HA:AutOK w0) (hs:SndG (t_ exI)) (P0:∀ u,Below w0.heap.size w0 u→Calls Tryz.prog 22 #[.string (e_ exI)] u fun e w'=>∃ rv nv lv pv,e=.returned (.tuple #[gmA rv nv lv pv (t_ exI).start,.int .i64 0,.int .i64 0])∧GmV w' rv nv lv pv (t_ exI)∧Below u.heap.size u w'):WkOK17 w0:=⟨fun w hw=>by
 have P1:=hid (P0 w hw);rw [show e_ exI=⟨#[116,111,107,101,110,32,97,32,47,97,47,59,32,115,58,32,97,32,115,32,124,32,59]⟩ from rfl] at P1;have hu:UsG (t_ exI):=⟨by rw [a7W];decide,hs⟩;have GB:=hid (fun rv nv lv pv u (hu':Below w0.heap.size w0 u) (h:GmV u rv nv lv pv (t_ exI))=>HA.build (t_ exI) rv nv lv pv u hu' b7b h);rw [a1S ⟨hu,b4i⟩,a2y ⟨hu,b4i⟩,c0i] at GB
 have GS:Hid (∀ v v' (l:List Int) u,l.length≤10→Nums u v l→Nums u v' l→Calls Tryz.prog 21 #[v,v'] u fun e w'=>e=.returned (.bool true)∧Below u.heap.size u w'):=hid (fun v v' l u hl h1 h2=>by
  have:=a8D v v' l l u (by omega) (by omega) h1 h2
  rw [decide_eq_true rfl] at this;exact this)
 generalize a0J (t_ exI) [a1P,a1U,a1T,a2x] a1T=X2 at *;generalize a0J (t_ exI) [a1P,a1U,a1T,a2x] a2x=X3 at *;have hw:=hid hw;clear hs P0 hu HA;generalize t_ exI=g at *;generalize hst:g.start=st at *;clear hst;go_enter Tryz.func8,Tryz.ntmps8
 go_wp2_with (first
  | (go_at_call 22;refine P1.out.mono ?_;clear P1;rintro e w1 ⟨rv,nv,lv,pv,rfl,hV,hc1⟩;obtain ⟨ra,rc,hre⟩:=hV.rules.shape;obtain ⟨na,nc,hne⟩:=hV.nonts.shape;obtain ⟨la,lc,hle⟩:=hV.levels.shape;obtain ⟨pa,pc,hpe⟩:=hV.prods.shape;subst hre hne hle hpe
     have hal:=al' w1 (.cells #[.slice ra g.rules.length rc,.slice na g.nonts.length nc,.slice la g.levels.length lc,.slice pa g.prods.length pc,.int .i64 st] 27);have hk1:=b_ w1 (.cells #[.slice ra g.rules.length rc,.slice na g.nonts.length nc,.slice la g.levels.length lc,.slice pa g.prods.length pc,.int .i64 st] 27)
     have hq1:=hid (hV.keep hal);obtain ⟨W1,hW1⟩:∃ x,w1.alloc (.cells #[.slice ra g.rules.length rc,.slice na g.nonts.length nc,.slice la g.levels.length lc,.slice pa g.prods.length pc,.int .i64 st] 27)=x:=⟨_,rfl⟩;rw [hW1] at hal hk1 hq1;have hw1:=hid (a_ hc1 hal);obtain ⟨a0,a1,a2,a3,a4⟩:=l_ hk1;clear hc1 hal hV hk1)
  | (go_at_call 10;refine (GB.out _ _ _ _ _ (a_ hw.out hw1.out) hq1.out).mono ?_;clear GB;rintro e w2 ⟨v2,rfl,hS,hc2⟩;have hQ:=(hS w2 (Below.refl _ _)).1;obtain ⟨v2a,v2c,e2⟩:=hQ.shape;subst e2
     obtain ⟨sb,so,e,-,vk0,vn0,p1,p2,p3,p4⟩:=hQ.at (j:=0) (by simp);subst e
     obtain ⟨sb',so',e,-,vk1,vn1,q1,q2,q3,q4⟩:=hQ.at (j:=1) (by simp);injection e with e;injection e with e1 e2;subst e1 e2
     have hw2:=hid (a_ hw1.out hc2);have hal:=al' w2 (.cells #[.int .i64 (-1),.int .i64 1,.int .i64 2] 3);have hY2:=hid (Nums.of_row (Own.lit3 w2 (-1) 1 2));have hN0:=hid (p4.keep hal);have hN1:=hid (q4.keep hal);have p5:=d_ hal p2;have q5:=hid (d_ hal q2);obtain ⟨n0a,n0c,rfl,-⟩:=id p4;obtain ⟨n1a,n1c,rfl,-⟩:=id q4;have hw3:=hid (a_ hw2.out hal);clear hc2 hS hQ a0 a1 a2 a3 a4 p1 p3 q1 q3 hal)
  | (go_at_call 21;refine (GS.out _ _ [-1,1,3] _ (by decide) hN4.out hY4.out).mono ?_;rintro e w6 ⟨rfl,hc6⟩;have hw6:=hid (a_ hw5.out hc6);clear hc6)
  | (go_at_call 21;refine (GS.out _ _ [-1,1,2] _ (by decide) hN0.out hY2.out).mono ?_;rintro e w4 ⟨rfl,hc4⟩
     have hw4:=hid (a_ hw3.out hc4);have hal:=al' w4 (.cells #[.int .i64 (-1),.int .i64 1,.int .i64 3] 3);have hY4:=hid (Nums.of_row (Own.lit3 w4 (-1) 1 3));have hN4:=hid ((hN1.out.keep hc4).keep hal);have q6:=d_ hc4 q5.out;have hw5:=hid (a_ hw4.out hal);clear hc4 hal))
 go_ret;exact ⟨by first | rfl | simp,hw6.out⟩⟩
end Go.Proofs.YtjgedijclkoemaaGreatDoor
