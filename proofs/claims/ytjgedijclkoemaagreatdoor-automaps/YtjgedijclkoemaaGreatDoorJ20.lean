/- What the five laws of layer 17 share, part 20: no statement of its own. -/
import Derived.Test.YtjgedijclkoemaaGreatDoorJ19
namespace Go.Proofs.YtjgedijclkoemaaGreatDoor
abbrev Kr:=List It
noncomputable def a2e (g:Gm) (K:List Kr) (x:Kr) (s:Nat):List Kr:=open Classical in if I_ g x (s:Int)=[] then K else if I_ g x (s:Int)∈K then K else K++[I_ g x (s:Int)]
noncomputable def K_ (g:Gm) (K:List Kr) (x:Kr):Nat→List Kr
 | 0=>K
 | s+1=>a2e g (K_ g K x s) x (s+1)
noncomputable def m_ (g:Gm):Nat→List Kr
 | 0=>[[(-1,0)]]
 | i+1=>match (m_ g i)[i]? with
  | some x=>K_ g (m_ g i) x g.all
  | none=>m_ g i
theorem a5S {g:Gm} {K:List Kr} {x:Kr} {s:Nat}:a2e g K x s=K∨(a2e g K x s=K++[I_ g x (s:Int)]∧I_ g x (s:Int)≠[]∧¬ I_ g x (s:Int)∈K):=by
 unfold a2e;split
 · exact .inl rfl
 · split
   · exact .inl rfl
   · exact .inr ⟨rfl,‹_›,‹_›⟩
theorem a5R (g:Gm) (K:List Kr) (x:Kr) (s:Nat):K <+: a2e g K x s:=by
 rcases a5S (g:=g) (K:=K) (x:=x) (s:=s) with h | h
 · rw [h];exact List.prefix_refl _
 · rw [h.1];exact List.prefix_append _ _
theorem a0B (g:Gm) (K:List Kr) (x:Kr):∀ s,K <+: K_ g K x s
 | 0=>List.prefix_refl _
 | s+1=>(a0B g K x s).trans (a5R g _ x _)
theorem a3Y (g:Gm) (K:List Kr) (x:Kr) {s t:Nat} (h:s≤t):K_ g K x s <+: K_ g K x t:=by
 induction h with
 | refl=>exact List.prefix_refl _
 | step _ ih=>exact ih.trans (a5R g _ x _)
theorem a1A (g:Gm) (i:Nat):m_ g i <+: m_ g (i+1):=by
 show _ <+: (match (m_ g i)[i]? with | some x=>K_ g (m_ g i) x g.all | none=>m_ g i)
 split
 · exact a0B g _ _ _
 · exact List.prefix_refl _
theorem X_ (g:Gm) {i j:Nat} (h:i≤j):m_ g i <+: m_ g j:=by
 induction h with
 | refl=>exact List.prefix_refl _
 | step _ ih=>exact ih.trans (a1A g _)
theorem W_ {g:Gm} {i:Nat} (h:i<(m_ g i).length):m_ g (i+1)=K_ g (m_ g i) (m_ g i)[i] g.all:=by
 show (match (m_ g i)[i]? with | some x=>K_ g (m_ g i) x g.all | none=>m_ g i)=_
 rw [List.getElem?_eq_getElem h]
theorem a0m {g:Gm} {i:Nat} (h:(m_ g i).length≤i):∀ j,i≤j→m_ g j=m_ g i:=fun j hj=>by
 induction hj with
 | refl=>rfl
 | @step j hj ih =>
  show (match (m_ g j)[j]? with | some x=>K_ g (m_ g j) x g.all | none=>m_ g j)=_
  rw [ih,List.getElem?_eq_none (Nat.le_trans h hj)]
theorem a5T (g:Gm) (K:List Kr) (x:Kr):∀ s,(K_ g K x s).length≤K.length+s
 | 0=>Nat.le_refl _
 | s+1=>by
  have ih:=a5T g K x s
  show (a2e g (K_ g K x s) x (s+1)).length≤_
  rcases a5S (g:=g) (K:=K_ g K x s) (x:=x) (s:=s+1) with h | h
  · rw [h];omega
  · rw [h.1,List.length_append,List.length_singleton];omega
structure KrI (g:Gm) (K:List Kr):Prop where
 nd:K.Nodup
 ne:∀ x∈K,x≠[]
 right:∀ x∈K,∀ y∈x,itB g y=true
 few:∀ x∈K,x.length≤369
theorem a5s {g:Gm} {x:Kr} (_h:∀ y∈x,itB g y=true) {s:Int}:∀ y∈I_ g x s,itB g y=true:=fun y hy=>by
 unfold I_ at hy;rw [List.mem_filter] at hy;exact a6N.1 hy.1
theorem KrI.step {g:Gm} (hg:SndG g) {K:List Kr} (h:KrI g K) {x:Kr} (hx:x∈K) (s:Nat):KrI g (a2e g K x s):=by
 rcases a5S (g:=g) (K:=K) (x:=x) (s:=s) with e | e
 · rw [e];exact h
 · rw [e.1]
   refine ⟨?_,fun y hy=>?_,fun y hy=>?_,fun y hy=>?_⟩
   · rw [List.nodup_append]
     refine ⟨h.nd,by simp,fun a ha b hb=>?_⟩;rw [List.mem_singleton] at hb;subst hb;exact fun e2=>e.2.2 (e2▸ha)
   all_goals
    rw [List.mem_append,List.mem_singleton] at hy
   · rcases hy with hy | rfl
     · exact h.ne y hy
     · exact e.2.1
   · rcases hy with hy | rfl
     · exact h.right y hy
     · exact a5s (h.right x hx)
   · rcases hy with hy | rfl
     · exact h.few y hy
     · exact a6y hg _ _
theorem KrI.steps {g:Gm} (hg:SndG g) {K:List Kr} (h:KrI g K) {x:Kr} (hx:x∈K):∀ s,KrI g (K_ g K x s)
 | 0=>h
 | s+1=>(KrI.steps hg h hx s).step hg ((a0B g K x s).subset hx) (s+1)
theorem KrI.build {g:Gm} (hg:SndG g):∀ i,KrI g (m_ g i)
 | 0=>⟨by show [_].Nodup;simp,fun x hx=>by rw [List.mem_singleton.1 hx];simp,fun x hx y hy=>by
  rw [List.mem_singleton.1 hx,List.mem_singleton] at hy;subst hy;exact T_.2 ⟨Int.le_refl _,by show (-1:Int)<_;omega,Int.le_refl _,Int.natCast_nonneg _⟩,fun x hx=>by rw [List.mem_singleton.1 hx];decide⟩
 | i+1=>by
  by_cases h:i<(m_ g i).length
  · rw [W_ h]
    exact (KrI.build hg i).steps hg (List.getElem_mem h) _
  · rw [a0m (Nat.le_of_not_lt h) (i+1) (Nat.le_succ i)]
    exact KrI.build hg i
noncomputable def a2f (g:Gm) (K:List Kr) (x:Kr) (s:Nat):Int:=open Classical in if I_ g x (s:Int)=[] then -1 else (K.idxOf (I_ g x (s:Int)):Int)
noncomputable def a0J (g:Gm) (K:List Kr) (x:Kr):List Int:=(List.range (g.all+1)).map fun s=>if s=0 then -1 else a2f g K x s
theorem b9Y {K M:List Kr} (h:K <+: M) {k:Kr} (hk:k∈K):M.idxOf k=K.idxOf k:=by
 obtain ⟨r,rfl⟩:=h;rw [List.idxOf_append,if_pos hk]
theorem b5x {g:Gm} {K:List Kr} {x:Kr} {s:Nat} (h:I_ g x (s:Int)≠[]):I_ g x (s:Int)∈a2e g K x s:=by
 unfold a2e;rw [if_neg h];split
 · assumption
 · exact List.mem_append_right _ (List.mem_singleton.2 rfl)
theorem a3C {g:Gm} {K:List Kr} {x:Kr} {s t:Nat} (hs:0<s) (ht:s≤t) (h:I_ g x (s:Int)≠[]):I_ g x (s:Int)∈K_ g K x t:=by
 refine (a3Y g K x ht).subset ?_;obtain ⟨r,rfl⟩:∃ r,s=r+1:=⟨s - 1,by omega⟩;exact b5x h
theorem a6d {g:Gm} {K M:List Kr} {x:Kr} {s:Nat} (h:K <+: M) (hk:I_ g x (s:Int)≠[]→I_ g x (s:Int)∈K):a2f g M x s=a2f g K x s:=by
 unfold a2f;by_cases e:I_ g x (s:Int)=[]
 · rw [if_pos e,if_pos e]
 · rw [if_neg e,if_neg e,b9Y h (hk e)]
theorem a3J {g:Gm} {K M:List Kr} {x:Kr} (h:K_ g K x g.all <+: M):a0J g M x=a0J g (K_ g K x g.all) x:=by
 unfold a0J;refine List.map_congr_left fun s hs=>?_
 rw [List.mem_range] at hs;by_cases e:s=0
 · rw [if_pos e,if_pos e]
 · rw [if_neg e,if_neg e]
   exact a6d h fun hk=>a3C (by omega) (by omega) hk
theorem a3K (g:Gm) (K:List Kr) (x:Kr):(a0J g K x).length=g.all+1:=by
 unfold a0J;rw [List.length_map,List.length_range]
noncomputable def a8n (g:Gm) (K:List Kr) (x:Kr) (t:Nat):List Int:=(List.range (g.all+1)).map fun s=>if s=0 then -1 else if s≤t then a2f g (K_ g K x s) x s else 0
theorem a6A (g:Gm) (K:List Kr) (x:Kr) (t:Nat):(a8n g K x t).length=g.all+1:=by
 unfold a8n;rw [List.length_map,List.length_range]
theorem b4h {g:Gm} {K:List Kr} {x:Kr} {t i:Nat} (h:i<(a8n g K x t).length):(a8n g K x t)[i]=if i=0 then -1 else if i≤t then a2f g (K_ g K x i) x i else 0:=by
 simp only [a8n,List.getElem_map,List.getElem_range]
theorem b4f (g:Gm) (K:List Kr) (x:Kr):(List.replicate (g.all+1) (0:Int)).set 0 (-1)=a8n g K x 0:=by
 unfold a8n;apply List.ext_getElem
 · simp
 · intro i h1 h2
   have hi:i<g.all+1:=by simpa using h1
   rw [List.getElem_set,List.getElem_map,List.getElem_range];by_cases e:i=0
   · rw [if_pos e.symm,if_pos e]
   · rw [if_neg (fun h=>e h.symm),if_neg e,if_neg (by omega),List.getElem_replicate]
theorem b4g {g:Gm} {K:List Kr} {x:Kr} {t:Nat} (_h:t<g.all):(a8n g K x t).set (t+1) (a2f g (K_ g K x (t+1)) x (t+1))=a8n g K x (t+1):=by
 apply List.ext_getElem
 · rw [List.length_set,a6A,a6A]
 · intro i h1 h2
   rw [List.getElem_set,b4h,b4h];by_cases e:t+1=i
   · subst e
     rw [if_pos rfl,if_neg (by omega),if_pos (Nat.le_refl _)]
   · rw [if_neg e]
     by_cases e0:i=0
     · rw [if_pos e0,if_pos e0]
     · rw [if_neg e0,if_neg e0]
       by_cases e1:i≤t
       · rw [if_pos e1,if_pos (by omega)]
       · rw [if_neg e1,if_neg (by omega)]
theorem b6Z (g:Gm) (K:List Kr) (x:Kr):a8n g K x g.all=a0J g (K_ g K x g.all) x:=by
 unfold a8n a0J;refine List.map_congr_left fun s hs=>?_
 rw [List.mem_range] at hs;by_cases e:s=0
 · rw [if_pos e,if_pos e]
 · rw [if_neg e,if_neg e,if_pos (by omega)]
   exact (a6d (a3Y g K x (by omega)) fun hk=>a3C (by omega) (Nat.le_refl _) hk).symm
noncomputable def a6c (g:Gm) (K:List Kr) (i:Nat):List (Kr×List Int):=K.mapIdx fun j x=>(x,if j<i then a0J g K x else [])
theorem a0i (g:Gm) (K:List Kr) (i:Nat):(a6c g K i).length=K.length:=by unfold a6c;exact List.length_mapIdx
noncomputable def a7S (g:Gm):List Kr:=m_ g 241
noncomputable def N_ (g:Gm):List (Kr×List Int):=a6c g (a7S g) (a7S g).length
def a0A (g:Gm):Prop:=(a7S g).length≤240
theorem b8f {g:Gm} {n:Nat} (h:(m_ g n).length=n) (hn:n≤240):m_ g n=a7S g∧a0A g:=by
 have e:m_ g 241=m_ g n:=a0m (by omega) 241 (by omega);refine ⟨e.symm,?_⟩;unfold a0A a7S;rw [e];omega
theorem b0t {g:Gm} {i:Nat} (hi:i≤241) (h:240<(m_ g i).length):¬ a0A g:=fun hf=>by
 have:=(X_ g hi).length_le
 unfold a0A a7S at hf;omega
theorem KrI.fin {g:Gm} (hg:SndG g):KrI g (a7S g):=by
 unfold a7S;exact KrI.build hg 241
noncomputable def a4K (g:Gm) (K:List Kr) (i:Nat) (M:List Kr):List (Kr×List Int):=M.mapIdx fun j x=>(x,if j<i then a0J g K x else [])
theorem a1G (g:Gm) (K:List Kr) (i:Nat) (M:List Kr):(a4K g K i M).length=M.length:=by unfold a4K;exact List.length_mapIdx
theorem a9O (g:Gm) (K:List Kr) (i:Nat) (M:List Kr):(a4K g K i M).map Prod.fst=M:=by
 unfold a4K;apply List.ext_getElem
 · simp
 · intro j h1 h2
   simp
theorem a0Z {g:Gm} {K:List Kr} {i:Nat} {M:List Kr} {j:Nat} (h:j<M.length):(a4K g K i M)[j]'(by rw [a1G];exact h)=(M[j],if j<i then a0J g K M[j] else []):=by
 unfold a4K;rw [List.getElem_mapIdx]
theorem b3h {g:Gm} {K:List Kr} {i:Nat} {M:List Kr} (h:i≤M.length) (k:Kr):a4K g K i (M++[k])=a4K g K i M++[(k,[])]:=by
 unfold a4K;rw [List.mapIdx_append];congr 1
 simp only [List.mapIdx_cons,List.mapIdx_nil,Nat.zero_add];rw [if_neg (by omega)]
theorem b3i {g:Gm} {i:Nat} (h:i<(m_ g i).length):(a4K g (m_ g i) i (m_ g (i+1))).set i ((m_ g i)[i],a8n g (m_ g i) (m_ g i)[i] g.all)=a6c g (m_ g (i+1)) (i+1):=by
 have hp:=a1A g i;have hl:=hp.length_le;apply List.ext_getElem
 · rw [List.length_set,a1G,a0i]
 · intro j h1 h2
   have hj:j<(m_ g (i+1)).length:=by rw [a0i] at h2;exact h2
   rw [List.getElem_set];have e2:(a6c g (m_ g (i+1)) (i+1))[j]=((m_ g (i+1))[j],if j<i+1 then a0J g (m_ g (i+1)) (m_ g (i+1))[j] else []):=a0Z (K:=m_ g (i+1)) hj;rw [e2];by_cases e:i=j
   · subst e
     have ex:(m_ g (i+1))[i]=(m_ g i)[i]:=(hp.getElem h).symm;rw [if_pos rfl,if_pos (by omega),ex,b6Z,← W_ h]
   · rw [if_neg e,a0Z hj]
     by_cases e1:j<i
     · rw [if_pos e1,if_pos (by omega)]
       have hj1:j<(m_ g j).length:=by
        apply Classical.byContradiction
        intro hn
        have:=a0m (Nat.le_of_not_lt hn) i (by omega)
        rw [this] at h;omega
       have hji:=X_ g (show j+1≤i by omega);have hji2:=X_ g (show j+1≤i+1 by omega);have ex:(m_ g (i+1))[j]=(m_ g j)[j]:=((X_ g (show j≤i+1 by omega)).getElem hj1).symm;rw [W_ hj1] at hji hji2;rw [ex,a3J hji,a3J hji2]
     · rw [if_neg e1,if_neg (by omega)]
end Go.Proofs.YtjgedijclkoemaaGreatDoor
namespace Go.Proofs.YtjgedijclkoemaaGreatDoor
open Go.RowKit Go.Maps Go.Sort
abbrev St:=Kr×List Int
def c5c (w:World) (b o:Nat) (x:St):Prop:=∃ vk vn,w.cell? ⟨b,o,none⟩=some vk∧w.cell? ⟨b,o+1,none⟩=some vn∧Its w vk x.1∧Nums w vn x.2
abbrev Sts (w:World) (v:Value) (l:List St):Prop:=Lst 2 c5c w v l
theorem Sts.keep {w u:World} {v:Value} {l:List St} (h:Sts w v l) (hu:Below w.heap.size w u):Sts u v l:=
 h.keepR hu.size fun _ _ _ _ ⟨vk,vn,h1,h2,h3,h4⟩=>⟨vk,vn,d_ hu h1,d_ hu h2,h3.keep hu,h4.keep hu⟩
set_option maxRecDepth 20000 in
theorem b8a:(Tryz.prog.info? 43).map (fun i=>(i.zero,i.size,i.bytes))=some (some (.agg #[.slice none 0 0,.slice none 0 0]),2,48):=by kernel_rfl
def stC (p:Value×Value):List Value:=[p.1,p.2]
def J_ (l:List (Value×Value)):List Value:=l.flatMap stC
theorem a4a (l m:List (Value×Value)):J_ (l++m)=J_ l++J_ m:=by unfold J_;rw [List.flatMap_append]
theorem a0E:∀ (l:List (Value×Value)) (j:Nat) (hj:j<l.length),(J_ l)[j * 2]?=some l[j].1∧(J_ l)[j * 2+1]?=some l[j].2
 | [],_,hj=>absurd hj (Nat.not_lt_zero _)
 | a :: l,0,_=>⟨rfl,rfl⟩
 | a :: l,j+1,hj=>by
  have h:=a0E l j (by simpa using hj);have e:J_ (a :: l)=stC a++J_ l:=rfl;have hl:(stC a).length=2:=rfl;rw [e,List.getElem?_append_right (by rw [hl];omega),List.getElem?_append_right (by rw [hl];omega),hl,show (j+1) * 2 - 2=j * 2 by omega,show (j+1) * 2+1 - 2=j * 2+1 by omega];exact h
theorem a8y (l:List (Value×Value)) (i:Nat) (v:Value) (hi:i<l.length):(J_ l).set (i * 2+1) v=J_ (l.set i (l[i].1,v)):=by
 induction l generalizing i with
 | nil=>exact absurd hi (Nat.not_lt_zero _)
 | cons a l ih =>
  cases i with
  | zero=>rfl
  | succ i =>
   have hi':i<l.length:=by simpa using hi
   have e:J_ (a :: l)=a.1 :: a.2 :: J_ l:=rfl;rw [e,show (i+1) * 2+1=(i * 2+1)+1+1 by omega,List.set_cons_succ,List.set_cons_succ,ih i hi',List.set_cons_succ];rfl
structure BsM (W u:World) (q:Option Nat) (vo:Value) (vs:List (Value×Value)) (L:List St):Prop where
 len:vs.length=L.length
 row:u.ownsRow W.heap.size 43 2 vo vs.length (J_ vs)
 ker:∀ j (h:j<L.length) (h':j<vs.length),Its u vs[j].1 L[j].1
 nxt:∀ j (h:j<L.length) (h':j<vs.length),Nums u vs[j].2 L[j].2
 one:∀ p∈vs,p.1.oneCell'=true∧p.2.oneCell'=true
 blk:∀ p∈vs,∀ k,(p.1.ownBlock=some k∨p.2.ownBlock=some k)→k<u.heap.size∧vo.ownBlock≠some k∧q≠some k
 off:∀ k,vo.ownBlock=some k→q≠some k
 low:Below W.heap.size W u
section
variable {W u:World} {q:Option Nat} {vo:Value} {vs:List (Value×Value)} {L:List St}
theorem BsM.start (W:World):BsM W W none (.slice none 0 0) [] [] where
 len:=rfl
 row:=World.ownsRow_nil _ _ _ _
 ker _ h:=absurd h (Nat.not_lt_zero _)
 nxt _ h:=absurd h (Nat.not_lt_zero _)
 one _ h:=absurd h List.not_mem_nil
 blk _ h:=absurd h List.not_mem_nil
 off _ h:=by cases h
 low:=Below.refl _ _
theorem BsM.keep (h:BsM W u q vo vs L) {u':World} (hb:Below u.heap.size u u'):BsM W u' q vo vs L where
 len:=h.len
 row:=j_ h.row hb
 ker j h1 h2:=(h.ker j h1 h2).keep hb
 nxt j h1 h2:=(h.nxt j h1 h2).keep hb
 one:=h.one
 blk p hp k hk:=⟨Nat.lt_of_lt_of_le (h.blk p hp k hk).1 hb.size,(h.blk p hp k hk).2⟩
 off:=h.off
 low:=a_ h.low hb
theorem BsM.side (h:BsM W u q vo vs L) {u':World} (hg:u.grownBy u' q) (hq:∀ k,q=some k→W.heap.size≤k):BsM W u' q vo vs L where
 len:=h.len
 row:=y_ h.row fun k hk=>hg.block k (h.row.lt k hk).2 (fun e=>h.off k hk e.symm)
 ker j h1 h2:=(h.ker j h1 h2).stepB hg.size fun k hk hl=>hg.block k hl (fun e=>(h.blk _ (List.getElem_mem h2) k (.inl hk)).2.2 e.symm)
 nxt j h1 h2:=(h.nxt j h1 h2).stepB hg.size fun k hk hl=>hg.block k hl (fun e=>(h.blk _ (List.getElem_mem h2) k (.inr hk)).2.2 e.symm)
 one:=h.one
 blk p hp k hk:=⟨Nat.lt_of_lt_of_le (h.blk p hp k hk).1 hg.size,(h.blk p hp k hk).2⟩
 off:=h.off
 low:=h.low.grown hg h.low.size hq
theorem BsM.fresh (h:BsM W u q vo vs L) {n:Nat} (hn:u.heap.size≤n):BsM W u (some n) vo vs L where
 len:=h.len
 row:=h.row
 ker:=h.ker
 nxt:=h.nxt
 one:=h.one
 blk p hp k hk:=by
  have h1:=h.blk p hp k hk;exact ⟨h1.1,h1.2.1,fun e=>by injection e with e;omega⟩
 off k hk e:=by
  have:=(h.row.lt k hk).2
  injection e with e;omega
 low:=h.low
set_option maxRecDepth 20000 in
theorem BsM.push (h:BsM W u q vo vs L) {x:Kr} {vk:Value} (hx:Its u vk x) (h1:vk.oneCell'=true) (hb:∀ k,vk.ownBlock=some k→k<u.heap.size∧vo.ownBlock≠some k∧q≠some k) (hq:∀ k,q=some k→k<u.heap.size) (hn:L.length≤100000) :
 ∃ v' u',(Builtin.append_ #[30,30] 30 #[vo,.slice (some ⟨u.heap.size,0,none⟩) 1 1]).run Tryz.prog (u.alloc (.cells #[vk,.slice none 0 0] 43))=.ok v' u' ∧
  BsM W u' q v' (vs++[(vk,.slice none 0 0)]) (L++[(x,[])])∧u.grownBy u' vo.ownBlock:=by
 obtain ⟨i0,hi,hz0,hz1,hz2⟩:=info_parts b8a;have hal:=al' u (.cells #[vk,.slice none 0 0] 43);have hk:=h.keep hal;have hg0:u.grownBy (u.alloc (.cells #[vk,.slice none 0 0] 43)) vo.ownBlock:=World.grownBy_alloc u _ _;obtain ⟨z0,z1⟩:=w_ (b_ u (.cells #[vk,.slice none 0 0] 43));have hsz:u.heap.size<(u.alloc (.cells #[vk,.slice none 0 0] 43)).heap.size:=by rw [World.size_alloc];omega
 have hlen:=h.len
 obtain ⟨v',u',hap,hown,hgr,-,hloc⟩:=run_append_own_at (P:=Tryz.prog) (u.alloc (.cells #[vk,.slice none 0 0] 43)) W.heap.size 30 30 43 i0 (.agg #[.slice none 0 0,.slice none 0 0]) 2 48 Tryz.underlying30 hi hz0 hz1 hz2 rfl (by decide) _ _ _ hk.row ⟨u.heap.size,0,none⟩ 1 1 (J_ [(vk,.slice none 0 0)]) rfl (fun j y hy=>by
  have hj:j<2:=(List.getElem?_eq_some_iff.1 hy).1;rcases (by omega:j=0∨j=1) with rfl | rfl
  · have hy:some vk=some y:=hy
    injection hy with hy;subst hy;exact z0
  · have hy:some (Value.slice none 0 0)=some y:=hy
    injection hy with hy;subst hy;exact z1) (fun y hy=>by
  have hy:y∈[vk,Value.slice none 0 0]:=hy;simp only [List.mem_cons,List.not_mem_nil,or_false] at hy;rcases hy with rfl | rfl
  · exact h1
  · rfl) (by unfold maxLen;omega) (by omega) hk.low.size
 have hv:∀ k,v'.ownBlock=some k→vo.ownBlock=some k∨k=(u.alloc (.cells #[vk,.slice none 0 0] 43)).heap.size:=fun k e=>by
  rcases hloc with h9 | h9
  · exact .inl (by rw [← h9];exact e)
  · rw [h9] at e
    injection e with e;exact .inr e.symm
 have hgu:u.grownBy u' vo.ownBlock:=hg0.trans hgr;have hX:Its u' vk x:=hx.stepB hgu.size fun k e hl=>hgu.block k hl fun e2=>(hb k e).2.1 e2.symm
 refine ⟨v',u',hap,⟨by rw [List.length_append,List.length_append,h.len];rfl,?_,fun j j1 j2=>?_,fun j j1 j2=>?_,fun p hp=>?_,fun p hp k e=>?_,fun k e=>?_,hk.low.grown hgr hk.low.size (fun j hj=>(hk.row.lt j hj).1)⟩,hgu⟩
 · rw [a4a,List.length_append]
   exact hown
 · by_cases hj:j<vs.length
   · rw [List.getElem_append_left hj,List.getElem_append_left (by rw [← hlen];exact hj)]
     exact (h.ker j (by rw [← hlen];exact hj) hj).stepB hgu.size fun k e hl=>hgu.block k hl fun e2=>(h.blk _ (List.getElem_mem hj) k (.inl e)).2.1 e2.symm
   · obtain rfl:j=vs.length:=by rw [List.length_append,List.length_singleton] at j2;omega
     simp only [List.getElem_concat_length,hlen];exact hX
 · by_cases hj:j<vs.length
   · rw [List.getElem_append_left hj,List.getElem_append_left (by rw [← hlen];exact hj)]
     exact (h.nxt j (by rw [← hlen];exact hj) hj).stepB hgu.size fun k e hl=>hgu.block k hl fun e2=>(h.blk _ (List.getElem_mem hj) k (.inr e)).2.1 e2.symm
   · obtain rfl:j=vs.length:=by rw [List.length_append,List.length_singleton] at j2;omega
     simp only [List.getElem_concat_length,hlen];exact Nums.nil _
 · rw [List.mem_append,List.mem_singleton] at hp
   rcases hp with hp | rfl
   · exact h.one p hp
   · exact ⟨h1,rfl⟩
 · rw [List.mem_append,List.mem_singleton] at hp
   have key:k<u.heap.size∧vo.ownBlock≠some k∧q≠some k:=by
    rcases hp with hp | rfl
    · exact h.blk p hp k e
    · rcases e with e | e
      · exact hb k e
      · cases e
   refine ⟨Nat.lt_of_lt_of_le key.1 hgu.size,fun e2=>?_,key.2.2⟩;rcases hv k e2 with e3 | e3
   · exact key.2.1 e3
   · omega
 · rcases hv k e with e3 | e3
   · exact h.off k e3
   · intro e4
     have:=hq k e4
     omega
theorem BsM.setN {g c n:Nat} (h:BsM W u q (.slice (some ⟨g,0,none⟩) n c) vs L) {i:Nat} (hi:i<L.length) (hn:n=L.length) {vx:Value} {X:List Int} (hx:Nums u vx X) (h1:vx.oneCell'=true) (hb:∀ k,vx.ownBlock=some k→k<u.heap.size∧k≠g) :
 ∃ vs',BsM W (u.setCell ⟨g,i * 2+1,none⟩ vx) none (.slice (some ⟨g,0,none⟩) n c) vs' (L.set i (L[i].1,X)):=by
 subst hn;have hlen:=h.len;have hiv:i<vs.length:=by rw [hlen];exact hi
 have hrow:=h.row;rw [hlen] at hrow;obtain ⟨hs,hg⟩:=hrow.stored (i * 2+1) vx;refine ⟨vs.set i (vs[i].1,vx),by rw [List.length_set,List.length_set];exact hlen,?_,fun j j1 j2=>?_,fun j j1 j2=>?_,fun p hp=>?_,fun p hp k e=>?_,fun k _ e=>(by cases e),h.low.grown hg h.low.size (fun k e=>by injection e with e;subst e;exact (h.row.lt _ rfl).1)⟩
 · rw [List.length_set,hlen,← a8y vs i vx hiv]
   exact hs
 · have j1':j<L.length:=by simpa using j1
   have j2':j<vs.length:=by simpa using j2
   have hold:Its (u.setCell ⟨g,i * 2+1,none⟩ vx) vs[j].1 L[j].1:=(h.ker j j1' j2').stepB hg.size fun k e hl=>hg.block k hl fun e2=>(h.blk _ (List.getElem_mem j2') k (.inl e)).2.1 e2.symm
   by_cases e:i=j
   · subst e
     simp only [List.getElem_set_self];exact hold
   · rw [List.getElem_set_ne e,List.getElem_set_ne e]
     exact hold
 · have j1':j<L.length:=by simpa using j1
   have j2':j<vs.length:=by simpa using j2
   by_cases e:i=j
   · subst e
     simp only [List.getElem_set_self];exact hx.stepB hg.size fun k e hl=>hg.block k hl fun e2=>(hb k e).2 (by injection e2)
   · rw [List.getElem_set_ne e,List.getElem_set_ne e]
     exact (h.nxt j j1' j2').stepB hg.size fun k e hl=>hg.block k hl fun e2=>(h.blk _ (List.getElem_mem j2') k (.inr e)).2.1 e2.symm
 · rcases List.mem_or_eq_of_mem_set hp with hp | rfl
   · exact h.one p hp
   · exact ⟨(h.one _ (List.getElem_mem hiv)).1,h1⟩
 · have key:k<u.heap.size∧k≠g:=by
    rcases List.mem_or_eq_of_mem_set hp with hp | rfl
    · have h2:=h.blk p hp k e
      exact ⟨h2.1,fun e3=>h2.2.1 (by rw [e3];rfl)⟩
    · rcases e with e | e
      · have h2:=h.blk _ (List.getElem_mem hiv) k (.inl e)
        exact ⟨h2.1,fun e3=>h2.2.1 (by rw [e3];rfl)⟩
      · exact hb k e
   refine ⟨Nat.lt_of_lt_of_le key.1 hg.size,fun e2=>key.2 (by injection e2 with e2;exact e2.symm),fun e2=>by cases e2⟩
theorem BsM.sts (h:BsM W u q vo vs L):Sts u vo L:=by
 have hr:=h.row;rcases hr.2 with ⟨rfl,h0⟩ | ⟨g,cap,cur,rfl,_,_,hc,_⟩
 · have:L=[]:=List.length_eq_zero_iff.1 (by rw [← h.len];exact h0)
   subst this;exact Lst.nil u
 · have hlt:=(hr.lt g rfl).2
   have hcells:=hr.cells (g:=g) rfl;refine ⟨some ⟨g,0,none⟩,cap,by rw [h.len],by rw [← h.len];exact hc,fun h=>(by cases h),fun j hj=>⟨g,0,rfl,hlt,?_⟩⟩;have hjv:j<vs.length:=by rw [h.len];exact hj
   obtain ⟨h1,h2⟩:=a0E vs j hjv;have e1:=hcells _ _ h1;have e2:=hcells _ _ h2;rw [Go.WideShapes.add_plain] at e1 e2;exact ⟨_,_,e1,by rw [show 0+j * 2+1=0+(j * 2+1) by omega];exact e2,h.ker j hj hjv,h.nxt j hj hjv⟩
end
def fnS (K:List Kr) (k:Kr):Int:=open Classical in if k∈K then (K.idxOf k:Int) else -1
open Classical in
theorem c2m {K:List Kr} {k:Kr} {i:Nat} (hi:i<K.length) (he:K[i]=k) (hb:∀ j (hj:j<K.length),j<i→K[j]≠k):fnS K k=(i:Int):=by
 unfold fnS;rw [if_pos (by rw [← he];exact List.getElem_mem hi)];have hm:k∈K:=by rw [← he];exact List.getElem_mem hi
 have h1:=List.idxOf_lt_length_of_mem hm;have h2:K[K.idxOf k]=k:=List.getElem_idxOf h1;have h3:¬ K.idxOf k<i:=fun h=>hb _ h1 h h2
 have h4:¬ i<K.idxOf k:=fun h=>by
  have:=List.not_of_lt_findIdx h
  simp [he] at this
 omega
open Classical in
theorem b8d {K:List Kr} {k:Kr} (hb:∀ j (hj:j<K.length),K[j]≠k):fnS K k = -1:=by
 unfold fnS
 rw [if_neg (fun h=>by
  obtain ⟨j,hj,e⟩:=List.getElem_of_mem h;exact hb j hj e)]
set_option maxRecDepth 20000 in
set_option maxHeartbeats 4000000 in
theorem b5V (vl vk:Value) (L:List St) (k:Kr) (w:World) (hL:Sts w vl L) (hK:Its w vk k) (hl:L.length≤1000) (hlk:∀ x∈L,x.1.length≤1000) (hk:k.length≤1000) :
 Calls Tryz.prog 29 #[vl,vk] w fun e w'=>e=.returned (.int .i64 (fnS (L.map Prod.fst) k))∧Below w.heap.size w w':=by
 have hSm:=hid (fun u vx x (hu:Below w.heap.size w u) (hx:Its u vx x) (hlx:x.length≤1000)=>a5Y vx vk x k u (by omega) (by omega) hx (hK.keep hu));obtain ⟨la,lc,rfl⟩:=hL.shape
 have hat:=hid (fun u (hu:Below w.heap.size w u) j (hj:j<L.length)=>by
  obtain ⟨b,o,e,-,vk,vn,h1,h2,h3,h4⟩:=(Sts.keep hL hu).at hj;exact (⟨b,o,e,vk,h1,h3⟩:∃ b o,la=some ⟨b,o,none⟩∧∃ vk,u.cell? ⟨b,o+j * 2,none⟩=some vk∧Its u vk L[j].1))
 have hyes:=hid (fun i (hi:i<(L.map Prod.fst).length) he hb=>c2m (K:=L.map Prod.fst) (k:=k) (i:=i) hi he hb);have hno:=hid (fun hb=>b8d (K:=L.map Prod.fst) (k:=k) hb);have hlk:=hid hlk;have h0:Hid (∀ j (hj:j<L.length),j<0→L[j].1≠k):=hid (fun j _ h=>absurd h (Nat.not_lt_zero _));have b0:=hid (Below.refl w.heap.size w);clear hL hK;obtain ⟨R,hR⟩:∃ r,Hid (fnS (L.map Prod.fst) k=r):=⟨_,hid rfl⟩;rw [hR.out];obtain ⟨n,hn⟩:∃ n,Hid (L.length=n):=⟨_,hid rfl⟩;rw [hn.out] at hl ⊢;go_enter Tryz.func29,Tryz.ntmps29
 go_wp2;go_loopw [5] (fun i wr=>∃ j:Nat,j≤n∧i=.int .i64 (j:Int)∧Hid (∀ j' (hj:j'<L.length),j'<j→L[j'].1≠k)∧Hid (Below w.heap.size w wr)) (fun i _=>n - (intOf i).toNat)
 case atStart=>exact ⟨0,Nat.zero_le _,rfl,h0,b0⟩
 case round =>
  clear h0 b0;obtain ⟨j,hj,rfl,hG,hbl⟩:=hrel;by_cases hlt:j<n
  · have hltz:(j:Int)<(n:Int):=by omega
    have hjl:j<L.length:=by rw [hn.out];exact hlt
    obtain ⟨b,o,e,vk1,z0,hI⟩:=hat.out wr hbl.out j hjl;subst e;have GS:=hid (hSm.out wr vk1 L[j].1 hbl.out hI (hlk.out _ (List.getElem_mem hjl)));clear hI;by_cases hd:L[j].1=k
    · rw [decide_eq_true hd] at GS
      have hRj:R=(j:Int):=by
       rw [← hR.out];exact hyes.out j (by rw [List.length_map];exact hjl) (by rw [List.getElem_map];exact hd) (fun j' hj' h=>by rw [List.getElem_map];exact hG.out j' (by simpa using hj') h)
      subst hRj;clear hd hG;go_wp2_with (go_at_call 16;refine GS.out.mono ?_;clear GS;rintro e w4 ⟨rfl,hc4⟩;have hc4:=hid hc4)
      go_ret;exact ⟨rfl,a_ hbl.out hc4.out⟩
    · rw [decide_eq_false hd] at GS
      have hG9:Hid (∀ j' (hj:j'<L.length),j'<j+1→L[j'].1≠k):=hid (fun j' h1 h2=>by
       rcases Nat.lt_or_ge j' j with h | h
       · exact hG.out j' h1 h
       · obtain rfl:j'=j:=by omega
         exact hd)
      clear hd hG;go_wp2_with (go_at_call 16;refine GS.out.mono ?_;clear GS;rintro e w4 ⟨rfl,hc4⟩;have hc4:=hid hc4)
      go_roundw
      case rel=>exact ⟨j+1,by omega,by go_num,hG9,hid (a_ hbl.out hc4.out)⟩
      case measure=>simp [intOf];omega
  · have hltz:¬ (j:Int)<(n:Int):=by omega
    obtain rfl:j=n:=by omega
    have hRj:R = -1:=by
     rw [← hR.out];exact hno.out (fun j' hj'=>by rw [List.getElem_map];exact hG.out j' (by simpa using hj') (by rw [← hn.out];simpa using hj'))
    subst hRj;clear hG;go_wp2;go_ret;exact ⟨rfl,hbl.out⟩
theorem a3i (l:List Int) (j:Nat) (z:Int):(k_ l).set j (.int .i64 z)=k_ (l.set j z):=by
 unfold k_;rw [List.map_set]
def NewI (B:Nat) (l:List It) (w:World) (v:Value):Prop:=Its w v l∧v.oneCell'=true∧∀ k,v.ownBlock=some k→B≤k∧k<w.heap.size
theorem b3y (B:Nat) (l:List It):StabB (NewI B l):=fun _w _w' _v h hs hb=>⟨h.1.stepB hs hb,h.2.1,fun k hk=>⟨(h.2.2 k hk).1,Nat.lt_of_lt_of_le (h.2.2 k hk).2 hs⟩⟩
def clF (B:Nat) (l:List It):Cl:=⟨none,none,some ⟨_,b3y B l⟩,none⟩
theorem NewI.of_own {w:World} {B:Nat} {v:Value} {l:List It} (h:OwnIt w B v l):NewI B l w v:=by
 refine ⟨Its.of_row h,?_,fun k hk=>h.lt k hk⟩;obtain ⟨a,c,rfl⟩:=(Its.of_row h).shape;rfl
theorem NewI.of_low {w w':World} {B:Nat} {v:Value} {l:List It} (hB:B≤w.heap.size) (h:OwnIt w' w.heap.size v l):NewI B l w' v:=NewI.of_own (a0o h hB)
theorem c2f {B:Nat} {l:List It} {v:Value} {w0:World} {τ:Nat→Nat} {w:World} (h:OffT w0 (NewI B l) τ w v):(clF B l).holds w0 τ w v:=⟨fun _ e=>(by cases e),fun _ _ e=>(by cases e),fun _ e=>(by cases e;exact h),fun _ e=>(by cases e)⟩
theorem c3S {B:Nat} {l:List It} {v:Value} {w0:World} {τ:Nat→Nat} {w:World} (h:(clF B l).holds w0 τ w v):NewI B l w v:=(h.2.2.1 _ rfl).at
theorem Own.set {w:World} {B g n:Nat} {X:List Int} (h:Own w B (.slice (some ⟨g,0,none⟩) n n) X) (hn:X.length=n) (j:Nat) (z:Int):Own (w.setCell ⟨g,j,none⟩ (.int .i64 z)) B (.slice (some ⟨g,0,none⟩) n n) (X.set j z)∧w.grownBy (w.setCell ⟨g,j,none⟩ (.int .i64 z)) (some g):=by
 subst hn;obtain ⟨h1,h2⟩:=World.ownsRow.stored h j (.int .i64 z);refine ⟨?_,h2⟩;unfold Own;rw [List.length_set,← a3i];exact h1
theorem b3p {g:Gm} {K:List Kr} {x:Kr} {s:Nat} (h:I_ g x (s:Int)=[]):a2f g K x s = -1:=by
 unfold a2f;rw [if_pos h]
theorem c0e {K:List Kr} (h:∀ x∈K,x≠[]):fnS K [] = -1:=b8d fun _j hj e=>h _ (List.getElem_mem hj) e
open Classical in
theorem c0f {K:List Kr} {k:Kr} (h:k∈K):fnS K k=(K.idxOf k:Int):=by
 unfold fnS;rw [if_pos h]
open Classical in
theorem c0d {K:List Kr} {k:Kr} (h:¬ k∈K):fnS K k = -1:=by
 unfold fnS;rw [if_neg h]
theorem a3W {g:Gm} {K:List Kr} {x:Kr} {s:Nat} (h:I_ g x (s:Int)=[]):a2e g K x s=K:=by
 unfold a2e;rw [if_pos h]
theorem b2k {g:Gm} {K:List Kr} {x:Kr} {s:Nat} (h:I_ g x (s:Int)∈K):a2e g K x s=K:=by
 unfold a2e;split <;> rfl
theorem b2l {g:Gm} {K:List Kr} {x:Kr} {s:Nat} (h:I_ g x (s:Int)≠[]) (h2:¬ I_ g x (s:Int)∈K):a2e g K x s=K++[I_ g x (s:Int)]:=by
 unfold a2e;rw [if_neg h,if_neg h2]
open Classical in
theorem a6e {g:Gm} {K:List Kr} {x:Kr} {s:Nat} (h:I_ g x (s:Int)≠[]):a2f g K x s=(K.idxOf (I_ g x (s:Int)):Int):=by
 unfold a2f;rw [if_neg h]
theorem b9Z {K:List Kr} {k:Kr} (h:¬ k∈K):(K++[k]).idxOf k=K.length:=by
 rw [List.idxOf_append,if_neg h];simp
theorem BsM.shape {W u:World} {q:Option Nat} {vo:Value} {vs:List (Value×Value)} {L:List St} (h:BsM W u q vo vs L) (h0:0<L.length):∃ g c,vo=.slice (some ⟨g,0,none⟩) L.length c:=by
 rcases h.row.2 with ⟨rfl,h1⟩ | ⟨g,cap,cur,rfl,_⟩
 · rw [h.len] at h1;omega
 · exact ⟨g,cap,by rw [h.len]⟩
theorem BsM.cell {W u:World} {q:Option Nat} {g c n:Nat} {vs:List (Value×Value)} {L:List St} (h:BsM W u q (.slice (some ⟨g,0,none⟩) n c) vs L) {i:Nat} (hi:i<L.length) :
 ∃ vk,u.cell? ⟨g,i * 2,none⟩=some vk∧Its u vk L[i].1:=by
 have hiv:i<vs.length:=by rw [h.len];exact hi
 obtain ⟨h1,h2⟩:=a0E vs i hiv;have e1:=h.row.cells rfl _ _ h1;rw [Go.WideShapes.add_plain,Nat.zero_add] at e1;exact ⟨_,e1,h.ker i hi hiv⟩
theorem BsM.put {W u:World} {q:Option Nat} {g c n:Nat} {vs:List (Value×Value)} {L:List St} (h:BsM W u q (.slice (some ⟨g,0,none⟩) n c) vs L) {i:Nat} (hi:i<L.length) :
 (∃ z,u.cell? ⟨g,i * 2+1,none⟩=some z)∧u.frozen? ⟨g,i * 2+1,none⟩=false:=by
 have hiv:i<vs.length:=by rw [h.len];exact hi
 obtain ⟨h1,h2⟩:=a0E vs i hiv;have e1:=h.row.cells rfl _ _ h2;rw [Go.WideShapes.add_plain,Nat.zero_add] at e1;have hr:=h.row
 have e:vs.length=n:=by
  rcases hr.2 with ⟨e,_⟩ | ⟨g',cap',cur,e,_⟩
  · cases e
  · injection e with _ e _
    exact e.symm
 rw [e] at hr;exact ⟨⟨_,e1⟩,hr.frozenAt _⟩
theorem Own.cellX {w:World} {B g n:Nat} {X:List Int} (h:Own w B (.slice (some ⟨g,0,none⟩) n n) X) (hn:X.length=n) {j:Nat} (hj:j<n):(∃ z,w.cell? ⟨g,j,none⟩=some (.int .i64 z))∧w.frozen? ⟨g,j,none⟩=false:=by
 subst hn;have h1:=World.ownsRow.cells h (g:=g) rfl j (.int .i64 X[j]) (by simp [k_,hj]);rw [Go.WideShapes.add_plain,Nat.zero_add] at h1;exact ⟨⟨_,h1⟩,World.ownsRow.frozenAt h _⟩
set_option maxRecDepth 20000 in
theorem a6l (w:World) (B N:Nat) (hB:B≤w.heap.size) (hN:N≤1000):∃ w',(Instr.makeSlice 41 (.int .i64 (N:Int)) (.int .i64 (N:Int))).run Tryz.prog w=.ok (.slice (some ⟨w.heap.size,0,none⟩) N N) w'∧Own w' B (.slice (some ⟨w.heap.size,0,none⟩) N N) (List.replicate N 0)∧Below w.heap.size w w':=by
 obtain ⟨i0,hi,hz0,hz1,hz2⟩:=info_parts Tryz.info3;obtain ⟨w',h1,h2,h3⟩:=run_make_full (P:=Tryz.prog) w B 41 3 i0 (.int .i64 0) 1 Tryz.underlying41 hi hz0 hz1 .i64 .i64 N (by rw [hz2];omega) (by unfold maxLen;omega) hB;refine ⟨w',h1,?_,(Below.refl _ w).grown h3 (Nat.le_refl _) (by simp)⟩;unfold Own;rw [List.length_replicate]
 have e:k_ (List.replicate N 0)=(madeCells (Value.int .i64 0).cells (N * 1)).toList:=by
  unfold k_;rw [List.map_replicate,Nat.mul_one];exact (toList_madeCells_one _ _).symm
 rw [e];exact h2
set_option maxRecDepth 20000 in
theorem a8q {ops:Array Oper} {rest:List Oper} {o:Oper} {a:Act} {Q:Exit→Act→World→Prop} (w:World) (hgd:o.guard=none) (s x:Operand) (t:TypeId)
 (ho:o.op=.call { callee:=.builtin .append,args:=#[s,x],argTypes:=#[t,t] }) (v vx:Value) (hs:a.eval s=v) (hx:a.eval x=vx) {v':Value} {w':World}
 (hr:(Builtin.append_ #[t,t] o.type #[v,vx]).run Tryz.prog w=.ok v' w') (h:wpList Tryz.prog ops Q rest (a.put o.dst v') w'):wpList Tryz.prog ops Q (o :: rest) a w:=by
 refine wpList_plain hgd fun K hK=>?_
 unfold Oper.wp execOp;simp only [ho,resolve,invoke,builtin,Sem.run_bind,Sem.run_pure,Result.andThen_ok,List.map_toArray,List.map_cons,List.map_nil,hs,hx,hr];exact hK _ _ h
set_option maxRecDepth 20000 in
theorem BsM.pushX {W w6:World} {nb gb Ml oc N:Nat} {vs:List (Value×Value)} {L:List St} {X:List Int} {x:Kr} {vk:Value} (h:BsM W w6 (some nb) (.slice (some ⟨gb,0,none⟩) Ml oc) vs L) (hX:Own w6 W.heap.size (.slice (some ⟨nb,0,none⟩) N N) X) (hl:X.length=N) (hI:Its w6 vk x) (h1:vk.oneCell'=true)
 (hb:∀ k,vk.ownBlock=some k→k<w6.heap.size∧k≠gb∧k≠nb) (hn:L.length≤100000) (hq:W.heap.size≤nb) (j:Nat) (z1 z2:Int) :
 ∃ v' u' vs',(Builtin.append_ #[30,30] 30 #[.slice (some ⟨gb,0,none⟩) Ml oc,.slice (some ⟨w6.heap.size,0,none⟩) 1 1]).run Tryz.prog (((w6.setCell ⟨nb,j,none⟩ (.int .i64 z1)).setCell ⟨nb,j,none⟩ (.int .i64 z2)).alloc (.cells #[vk,.slice none 0 0] 43))=.ok v' u' ∧
  BsM W u' (some nb) v' vs' (L++[(x,[])])∧Own u' W.heap.size (.slice (some ⟨nb,0,none⟩) N N) (X.set j z2):=by
 have hX7:=Own.set hX hl j z1;have hX8:=Own.set hX7.1 (by rw [List.length_set];exact hl) j z2;rw [List.set_set] at hX8;have hqq:∀ k,some nb=some k→W.heap.size≤k:=fun k hk=>by injection hk with hk;subst hk;exact hq
 have hM8:=(h.side hX7.2 hqq).side hX8.2 hqq;have hnb:∀ k,vk.ownBlock=some k→some nb≠some k:=fun k hk e=>by injection e with e;exact (hb k hk).2.2 e.symm
 have hI7:=hI.stepB hX7.2.size fun k e hl2=>hX7.2.block k hl2 (fun e2=>hnb k e e2.symm)
 have hI8:=hI7.stepB hX8.2.size fun k e hl2=>hX8.2.block k hl2 (fun e2=>hnb k e e2.symm)
 have hs8:((w6.setCell ⟨nb,j,none⟩ (.int .i64 z1)).setCell ⟨nb,j,none⟩ (.int .i64 z2)).heap.size=w6.heap.size:=by simp
 obtain ⟨v',u',hap,hM9,hg9⟩:=hM8.push hI8 h1 (fun k hk=>⟨by rw [hs8];exact (hb k hk).1,fun e=>by
  have e:some gb=some k:=e;injection e with e;exact (hb k hk).2.1 e.symm,hnb k hk⟩) (fun k hk=>by
  injection hk with hk;subst hk;exact (World.ownsRow.lt hX8.1 nb rfl).2) hn
 rw [hs8] at hap;refine ⟨v',u',_,hap,hM9,y_ hX8.1 fun k hk=>hg9.block k (World.ownsRow.lt hX8.1 k hk).2 fun e=>?_⟩;have e:some gb=some k:=e.symm;have hk:some nb=some k:=hk;exact h.off gb rfl (by rw [hk,← e])
set_option maxRecDepth 20000 in
theorem a8S {W w5 w4:World} {v4:Value} {x:List It} (hc5:Below W.heap.size W w5) (hO4:OwnIt w4 (w5.heap.size+1) v4 x) (hx:x≠[]) (hb4:Below (w5.heap.size+1) ((w5.alloc (.cells #[.slice none 0 0,.slice none 0 0] 43)).alloc (.cells #[.int .i64 (-1),.int .i64 0] 49)) w4) :
 ∃ g c,v4=.slice (some ⟨g,0,none⟩) x.length c∧w4.cell? ⟨w5.heap.size,0,none⟩=some (.slice none 0 0)∧w4.cell? ⟨w5.heap.size,1,none⟩=some (.slice none 0 0)∧w4.frozen? ⟨w5.heap.size,0,none⟩=false ∧
  ∃ v' u' vs,(Builtin.append_ #[30,30] 30 #[.slice none 0 0,.slice (some ⟨w4.heap.size,0,none⟩) 1 1]).run Tryz.prog ((w4.setCell ⟨w5.heap.size,0,none⟩ v4).alloc (.cells #[v4,.slice none 0 0] 43))=.ok v' u' ∧
   BsM W u' none v' vs [(x,[])]:=by
 have hbox:w4.heap[w5.heap.size]?=some (.cells #[.slice none 0 0,.slice none 0 0] 43 (0,0)):=by
  rw [hb4.block w5.heap.size (by omega)];have h1:=b_ w5 (.cells #[.slice none 0 0,.slice none 0 0] 43);exact (al' (w5.alloc (.cells #[.slice none 0 0,.slice none 0 0] 43)) (.cells #[.int .i64 (-1),.int .i64 0] 49)).block w5.heap.size (by rw [World.size_alloc];omega) |>.trans h1
 obtain ⟨z0,z1⟩:=w_ hbox;have hlt:=hO4.lt
 have hs:v4≠.slice none 0 0∧∃ g c,v4=.slice (some ⟨g,0,none⟩) x.length c:=by
  rcases hO4.2 with ⟨rfl,h0⟩ | ⟨g,cap,cur,rfl,_⟩
  · exact absurd (List.length_eq_zero_iff.1 h0) hx
  · exact ⟨fun e=>(by cases e),g,cap,rfl⟩
 obtain ⟨-,g,c,rfl⟩:=hs;refine ⟨g,c,rfl,z0,z1,frozen_of_row w4 _ 0 _ _ hbox,?_⟩;have hsz:(w4.setCell ⟨w5.heap.size,0,none⟩ (.slice (some ⟨g,0,none⟩) x.length c)).heap.size=w4.heap.size:=by simp
 have hw:Below W.heap.size W w4:=by
  have h1:=a_ (a_ hc5 (al' w5 (.cells #[.slice none 0 0,.slice none 0 0] 43))) (al' (w5.alloc (.cells #[.slice none 0 0,.slice none 0 0] 43)) (.cells #[.int .i64 (-1),.int .i64 0] 49));exact h1.trans (hb4.mono (by have:=hc5.size;omega))
 have hu:Below W.heap.size W (w4.setCell ⟨w5.heap.size,0,none⟩ (.slice (some ⟨g,0,none⟩) x.length c)):=hw.setCell hc5.size _;have hgl:=hlt g rfl
 have hI:Its (w4.setCell ⟨w5.heap.size,0,none⟩ (.slice (some ⟨g,0,none⟩) x.length c)) (.slice (some ⟨g,0,none⟩) x.length c) x:=Its.of_row (ownsRow_setCell_other hO4 (by
  intro e;have e:g=w5.heap.size:=by injection e
  omega) _)
 obtain ⟨v',u',hap,hM,-⟩:=((BsM.start W).keep hu).push hI rfl (fun k hk=>by
  have hk:g=k:=by injection hk
  subst hk;exact ⟨by rw [hsz];exact hgl.2,fun e=>(by cases e),fun e=>(by cases e)⟩) (fun k hk=>by cases hk) (by decide)
 rw [hsz] at hap;exact ⟨v',u',_,hap,hM⟩
end Go.Proofs.YtjgedijclkoemaaGreatDoor
