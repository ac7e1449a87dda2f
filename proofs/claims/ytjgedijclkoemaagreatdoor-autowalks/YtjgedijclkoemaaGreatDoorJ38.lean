/- What the five laws of layer 17 share, part 38: no statement of its own. -/
import Derived.Test.YtjgedijclkoemaaGreatDoorJ34
import Derived.Test.YtjgedijclkoemaaGreatDoorJ37
namespace Go.Proofs.YtjgedijclkoemaaGreatDoor
theorem a3F (F:Txt→Ow):∀ (l:List Stp) (f:FS),(a2j F l f).err=0→f.err=0
 | [],_,h=>h
 | s :: l,f,h=>by
  rw [a2j] at h;split at h
  · rename_i e;exact absurd h e
  · rename_i e;exact Decidable.not_not.1 e
theorem a4e {F:Txt→Ow} {s:Stp} {l:List Stp} {f:FS} (h:(a2j F (s :: l) f).err=0):f.err=0∧(a0c F s f).2=0∧a2j F (s :: l) f=a2j F l (a0c F s f).1:=by
 have h0:=a3F F _ _ h;rw [a2j,if_neg (fun e=>e h0)] at h;have h1:=a3F F _ _ h
 have h2:(a0c F s f).2=0:=by
  unfold FS.fail at h1;split at h1
  · assumption
  · rename_i e;exact absurd h1 e
 refine ⟨h0,h2,?_⟩;rw [a2j,if_neg (fun e=>e h0)];unfold FS.fail;rw [if_pos h2]
theorem a7i {F:Txt→Ow}:∀ (l:List Stp) (f:FS),(a2j F l f).err=0→∀ s∈l,s.k=1→s.w.2.1≤(F s.w.2.2).1
 | [],_,_,_,hs,_=>absurd hs List.not_mem_nil
 | x :: l,f,h,s,hs,hk=>by
  obtain ⟨-,h2,h3⟩:=a4e h;rcases List.mem_cons.1 hs with rfl | hs
  · unfold a0c at h2
    rw [if_pos hk] at h2;dsimp only at h2;split at h2
    · cases h2
    · omega
  · rw [h3] at h
    exact a7i l _ h s hs hk
theorem a6k (l:List Pd) (k:Nat) (f:Pd→Pd) (i:Nat):(U_ l k f)[i]?=if i=k then (l[i]?).map f else l[i]?:=by
 unfold U_;split
 · rename_i p hp
   rw [List.getElem?_set];by_cases h:k=i
   · subst h
     rw [if_pos rfl,if_pos rfl,hp];obtain ⟨h1,-⟩:=List.getElem?_eq_some_iff.1 hp;rw [if_pos h1];rfl
   · rw [if_neg h,if_neg (fun e=>h e.symm)]
 · rename_i hp
   by_cases h:i=k
   · subst h
     rw [if_pos rfl,hp];rfl
   · rw [if_neg h]
structure PdG (a b m:Nat) (p:Pd):Prop where
 left:(a:Int)<p.left∧p.left≤(b:Int)
 prec:0≤p.prec∧p.prec≤(a:Int)
 len:p.right.length+m≤8
 syms:∀ k∈p.right,1≤k∧k≤(b:Int)
theorem a4t (i:Nat) (s:Stp) (l:List Stp):a8a i (s :: l)=(if s.k=5∧s.a=i then 1 else 0)+a8a i l:=by
 unfold a8a;rw [List.filter_cons];by_cases h1:s.k=5 <;> by_cases h2:s.a=i <;> simp [h1,h2] <;> omega
theorem PdG.less {a b m n:Nat} {p:Pd} (h:PdG a b m p) (hn:n≤m):PdG a b n p:=⟨h.left,h.prec,by have:=h.len;omega,h.syms⟩
theorem a4Y {F:Txt→Ow} {a b:Nat} (hab:a≤b) (hF:∀ t,OwG a b (F t)):∀ (l:List Stp) (f:FS),(a2j F l f).err=0→(∀ (i:Nat) (p:Pd),f.prods[i]?=some p→PdG a b (a8a i l) p)→∀ (i:Nat) (p:Pd),(a2j F l f).prods[i]?=some p→PdG a b 0 p
 | [],f,_,h=>h
 | s :: l,f,he,h=>by
  obtain ⟨-,h2,h3⟩:=a4e he;rw [h3] at he ⊢;refine a4Y hab hF l _ he (fun i p hp=>?_);have hless:∀ (i:Nat) (p:Pd),f.prods[i]?=some p→PdG a b (a8a i l) p:=fun i p hp=>(h i p hp).less (by rw [a4t];omega)
  obtain ⟨o1,o2⟩:=hF s.w.2.2;unfold a0c at hp h2;by_cases k1:s.k=1
  · rw [if_pos k1] at hp;exact hless i p hp
  rw [if_neg k1] at hp h2;by_cases k2:s.k=2
  · rw [if_pos k2] at hp
    have hp:f.prods[i]?=some p:=by
     revert hp
     repeat (first | exact id | split)
    exact hless i p hp
  rw [if_neg k2] at hp h2;by_cases k3:s.k=3
  · rw [if_pos k3] at hp;exact hless i p hp
  rw [if_neg k3] at hp h2;by_cases k4:s.k=4
  · rw [if_pos k4] at hp;exact hless i p hp
  rw [if_neg k4] at hp h2;by_cases k5:s.k=5
  · rw [if_pos k5] at hp h2
    by_cases t0:0<(F s.w.2.2).2.1
    · rw [if_pos t0] at hp
      have hp:(U_ f.prods s.a fun p=>⟨p.left,p.right++[((F s.w.2.2).2.1:Int)],((F s.w.2.2).2.1:Int)⟩)[i]?=some p:=hp;rw [a6k] at hp;split at hp
      · rename_i hi
        cases hq:f.prods[i]? with
        | none=>rw [hq] at hp;cases hp
        | some q =>
         rw [hq] at hp;injection hp with hp;subst hp;have g:=h i q hq;rw [a4t,if_pos ⟨k5,hi.symm⟩] at g;refine ⟨g.left,⟨by show (0:Int)≤((F s.w.2.2).2.1:Int);omega,by show ((F s.w.2.2).2.1:Int)≤(a:Int);omega⟩,?_,fun k hk=>?_⟩
         · show (q.right++[_]).length+_≤8
           rw [List.length_append,List.length_singleton]
           have:=g.len
           omega
         · have hk:k∈q.right++[((F s.w.2.2).2.1:Int)]:=hk
           rw [List.mem_append,List.mem_singleton] at hk;rcases hk with hk | rfl
           · exact g.syms k hk
           · omega
      · exact hless i p hp
    · rw [if_neg t0] at hp h2
      by_cases n0:0<(F s.w.2.2).2.2
      · rw [if_pos n0] at hp
        have hp:(U_ f.prods s.a fun p=>⟨p.left,p.right++[((F s.w.2.2).2.2:Int)],p.prec⟩)[i]?=some p:=hp;rw [a6k] at hp;split at hp
        · rename_i hi
          cases hq:f.prods[i]? with
          | none=>rw [hq] at hp;cases hp
          | some q =>
           rw [hq] at hp;injection hp with hp;subst hp;have g:=h i q hq;rw [a4t,if_pos ⟨k5,hi.symm⟩] at g;refine ⟨g.left,g.prec,?_,fun k hk=>?_⟩
           · show (q.right++[_]).length+_≤8
             rw [List.length_append,List.length_singleton]
             have:=g.len
             omega
           · have hk:k∈q.right++[((F s.w.2.2).2.2:Int)]:=hk
             rw [List.mem_append,List.mem_singleton] at hk;rcases hk with hk | rfl
             · exact g.syms k hk
             · omega
        · exact hless i p hp
      · rw [if_neg n0] at hp;exact hless i p hp
  rw [if_neg k5] at hp h2;by_cases t0:(F s.w.2.2).2.1=0
  · rw [if_pos t0] at hp;exact hless i p hp
  · rw [if_neg t0] at hp
    have hp:(U_ f.prods s.a fun p=>⟨p.left,p.right,((F s.w.2.2).2.1:Int)⟩)[i]?=some p:=hp;rw [a6k] at hp;split at hp
    · cases hq:f.prods[i]? with
      | none=>rw [hq] at hp;cases hp
      | some q =>
       rw [hq] at hp;injection hp with hp;subst hp;have g:=hless i q hq;exact ⟨g.left,⟨by show (0:Int)≤((F s.w.2.2).2.1:Int);omega,by show ((F s.w.2.2).2.1:Int)≤(a:Int);omega⟩,g.len,g.syms⟩
    · exact hless i p hp
theorem b3A (l:List Pd) (k:Nat) (f:Pd→Pd):(U_ l k f).length=l.length:=by
 unfold U_;split
 · exact List.length_set
 · rfl
theorem b2o (F:Txt→Ow) (s:Stp) (f:FS):(a0c F s f).1.levels.length=f.levels.length∧(a0c F s f).1.prods.length=f.prods.length:=by
 unfold a0c
 repeat (first | exact ⟨rfl,rfl⟩ | exact ⟨List.length_set,rfl⟩ | exact ⟨rfl,b3A _ _ _⟩ | split)
theorem a4d {F:Txt→Ow}:∀ (l:List Stp) (f:FS),(a2j F l f).levels.length=f.levels.length∧(a2j F l f).prods.length=f.prods.length
 | [],_=>⟨rfl,rfl⟩
 | s :: l,f=>by
  rw [a2j];split
  · exact ⟨rfl,rfl⟩
  · obtain ⟨a,b⟩:=a4d (F:=F) l ((a0c F s f).1.fail s.w.2.1 (a0c F s f).2)
    obtain ⟨c,d⟩:=b2o F s f
    have e:((a0c F s f).1.fail s.w.2.1 (a0c F s f).2).levels=(a0c F s f).1.levels∧((a0c F s f).1.fail s.w.2.1 (a0c F s f).2).prods=(a0c F s f).1.prods:=by
     unfold FS.fail;split <;> exact ⟨rfl,rfl⟩
    rw [a,b,e.1,e.2];exact ⟨c,d⟩
theorem a4X {F:Txt→Ow} {a b:Nat} (hF:∀ t,OwG a b (F t)):∀ (l:List Stp) (f:FS),(a2j F l f).err=0→((a:Int)<f.start∧f.start≤(b:Int))→((a:Int)<(a2j F l f).start∧(a2j F l f).start≤(b:Int))
 | [],f,_,h=>h
 | s :: l,f,he,h=>by
  obtain ⟨-,h2,h3⟩:=a4e he;rw [h3] at he ⊢;refine a4X hF l _ he ?_;obtain ⟨o1,o2⟩:=hF s.w.2.2;by_cases k4:s.k=4
  · unfold a0c at h2 ⊢
    have k1:s.k≠1:=by omega
    have k2:s.k≠2:=by omega
    have k3:s.k≠3:=by omega
    rw [if_neg k1,if_neg k2,if_neg k3,if_pos k4] at h2 ⊢;dsimp only at h2 ⊢;split at h2
    · cases h2
    · omega
  · have:(a0c F s f).1.start=f.start:=by
     unfold a0c;rw [if_neg k4]
     repeat (first | rfl | split)
    rw [this];exact h
theorem a6b {s:Txt} {g:Gm} (h:prs s=some g):(a0w s).2.2=0∧(rdS s).settle.err=0∧(rdS s).err=0∧g=t_ s:=by
 unfold prs at h;split at h
 · rename_i he
   injection h with h;unfold c0P at he;split at he
   · rename_i h0
     exact ⟨h0,he,a3F _ _ _ he,h.symm⟩
   · rename_i h0
     exact absurd he h0
 · cases h
theorem b2x {t:Txt} (h:(rxA t).2=0):v_ (rxA t).1=true∧(rxA t).1.length≤60:=by
 unfold rxA at h ⊢;split at h
 · cases h
 · rename_i h2
   rw [if_neg h2];split at h
   · rename_i r hr
     split at h
     · cases h
     · rename_i h6
       rw [if_neg h6];exact ⟨b1d (b1a hr).1 (by omega),by show (post r).length≤60;omega⟩
   · cases h
theorem b2T {s:Txt} {g:Gm} (h:prs s=some g):SoundG g:=by
 obtain ⟨h0,he,h1,rfl⟩:=a6b h;have hA:=b7P s;have hG:=b7Q s h1;have hI:=b2P s (P:=fun _=>True) trivial (fun _ _=>trivial);have ht:=hA.trm;have hn:=hA.nlen;have hF:=b0r (rdS s);rw [← ht,hn] at hF;obtain ⟨l1,l2⟩:=a4d (F:=(rdS s).fnd) (rdS s).later (rdS s).fs;have hterms:(t_ s).terms=(rdS s).trm:=rfl;have hall:(t_ s).all=(rdS s).trm+(rdS s).nonts.length:=rfl;refine ⟨?_,fun hp=>?_,fun i j hi hij hj=>?_,fun p hp=>?_⟩
 · show (a2j (rdS s).fnd (rdS s).later (rdS s).fs).levels.length=_
   rw [l1,hterms];exact List.length_replicate
 · rw [hterms,hall]
   refine a4X hF _ _ he ?_;have hp:0<(rdS s).nonts.length:=hp
   show ((rdS s).trm:Int)<(if 0<(rdS s).nonts.length then _ else _)∧(if 0<(rdS s).nonts.length then _ else _)≤_
   rw [if_pos hp];omega
 · rw [hall] at hj
   have hnm:(t_ s).names=[36] :: ((rdS s).terms++(rdS s).nons).map (fun w=>w.2.2):=by
    show a2S (rdS s).rules (rdS s).rules.length++(rdS s).nonts=_
    unfold a2S;rw [List.take_length,← hA.tm,← hA.nn,List.map_append];rfl
   have hlen:((rdS s).terms++(rdS s).nons).length=(rdS s).trm+(rdS s).nonts.length:=by rw [List.length_append,ht,hn]
   have hname:∀ i:Nat,1≤i→(hi:i≤(rdS s).trm+(rdS s).nonts.length)→(t_ s).name (i:Int)=(((rdS s).terms++(rdS s).nons)[i - 1]'(by omega)).2.2:=fun i h1 hi=>by
    unfold Gm.name;rw [if_neg (by omega),hnm,show (i:Int).toNat=(i - 1)+1 by omega,List.getD_cons_succ,List.getD_eq_getElem?_getD,List.getElem?_map,List.getElem?_eq_getElem (by omega)];rfl
   rw [hname i hi (by omega),hname j (by omega) hj]
   have hpw:((rdS s).terms++(rdS s).nons).Pairwise (fun x y=>x.2.1≠y.2.1):=by
    rw [List.pairwise_append];exact ⟨hG.tp.imp (fun h=>by unfold Bef at h;omega),hG.np.imp (fun h=>by unfold Bef at h;omega),hG.tn⟩
   have hne:=List.pairwise_iff_getElem.1 hpw (i - 1) (j - 1) (by omega) (by omega) (by omega)
   have hat:∀ k (hk:k<((rdS s).terms++(rdS s).nons).length),((rdS s).fnd (((rdS s).terms++(rdS s).nons)[k]).2.2).1=(((rdS s).terms++(rdS s).nons)[k]).2.1:=fun k hk=>by
    have hm:=List.getElem_mem hk;rw [List.mem_append] at hm;obtain ⟨st,hs1,hs2,hs3⟩:=hA.on _ hm;have h5:=a7i _ _ he st hs1 hs2;rw [hs3] at h5;exact Nat.le_antisymm (c2l _ _ hm) h5
   intro hc;apply hne
   rw [← hat (i - 1) (by omega),← hat (j - 1) (by omega),hc]
 · obtain ⟨i,hi,rfl⟩:=List.getElem_of_mem hp
   have hq:=a4Y (a:=(rdS s).trm) (b:=(rdS s).trm+(rdS s).nonts.length) (by omega) hF (rdS s).later (rdS s).fs he (fun i p hp=>by
    have hp:((rdS s).prods.map fun (l:Nat)=>(⟨(l:Int)+((rdS s).trm:Int),[],0⟩:Pd))[i]?=some p:=hp;rw [List.getElem?_map] at hp;cases hl:(rdS s).prods[i]? with
    | none=>rw [hl] at hp;cases hp
    | some l =>
     rw [hl] at hp;injection hp with hp;subst hp;have hm:=List.mem_of_getElem? hl;have q1:=hA.p1 l hm;have q2:=hI.pr l hm;refine ⟨?_,⟨Int.le_refl _,by show (0:Int)≤_;omega⟩,?_,fun k hk=>absurd hk List.not_mem_nil⟩
     · show ((rdS s).trm:Int)<(l:Int)+((rdS s).trm:Int)∧(l:Int)+((rdS s).trm:Int)≤_
       omega
     · have:=hG.ct i
       show ([]:List Int).length+_≤8
       rw [List.length_nil];omega) i _ (List.getElem?_eq_getElem hi)
   rw [hterms,hall];exact ⟨hq.left.1,hq.left.2,hq.prec.1,hq.prec.2,by have:=hq.len;omega,hq.syms⟩
theorem b9f {s:Txt} {g:Gm} (h:prs s=some g):BndG g:=by
 have hS:=b2T h;obtain ⟨h0,he,h1,rfl⟩:=a6b h;have hG:=b7Q s h1;have hL:=c1x s h1;obtain ⟨l1,l2⟩:=a4d (F:=(rdS s).fnd) (rdS s).later (rdS s).fs;have hr:(t_ s).rules.length≤16:=hG.lr;have hn:(t_ s).nonts.length≤16:=hG.ln;have ht:(t_ s).terms≤(t_ s).rules.length:=a0d _ _;refine ⟨by omega,by omega,by rw [hS.levels];omega,?_,fun r hr=>?_,fun p hp=>?_⟩
 · show (a2j (rdS s).fnd (rdS s).later (rdS s).fs).prods.length≤1000
   rw [l2]
   show ((rdS s).prods.map _).length≤1000
   rw [List.length_map];omega
 · obtain ⟨t,e1,e2⟩:=hG.rx r hr
   rw [e1]
   have:=(b2x e2).2
   omega
 · have:=(hS.prods p hp).2.2.2.2.1
   omega
theorem c1w (s:Txt) (hs:s.length≤1000000) (h0:(a0w s).2.2=0):StOk (rdS s):=by
 have hI:=b2P s (P:=fun x=>x.2.2.length≤1000000) (Nat.zero_le _) (fun x hx=>Nat.le_trans ((a6X s).1 x hx) hs);have hA:=b7P s
 have hp:(rdS s).pot≤80000:=by
  refine Nat.le_trans (a7M _ _) ?_;rw [b0i]
  have:=a5C s h0
  unfold wsE;rw [List.length_append,List.length_singleton];omega
 have hl:(rdS s).rules.length+(rdS s).nonts.length+(rdS s).prods.length+(rdS s).skips.length+(rdS s).terms.length+(rdS s).nons.length+(rdS s).later.length+(rdS s).levels+(rdS s).starts≤80000:=by
  unfold RS.pot RS.lens at hp;omega
 refine ⟨⟨by omega,by omega,by omega,hI.sk,hI.te,hI.no⟩,fun x hx=>(hI.la x hx).1,fun x hx=>(hI.la x hx).2,fun t=>?_,fun l hl'=>?_,by omega,by omega,by omega⟩
 · rw [hA.trm]
   have:=(b0r (rdS s) t).1
   omega
 · have:=hI.pr l hl'
   omega
end Go.Proofs.YtjgedijclkoemaaGreatDoor
namespace Go.Proofs.YtjgedijclkoemaaGreatDoor
open Go.RowKit Go.Maps
abbrev b9e (V:World) (R:Nat) (v0 v1 v2 v3 v4:Value):World:=((((V.setCell ⟨R,0,none⟩ v0).setCell ⟨R,1,none⟩ v1).setCell ⟨R,2,none⟩ v2).setCell ⟨R,3,none⟩ v3).setCell ⟨R,4,none⟩ v4
theorem c1U (V:World) (R:Nat) (v0 v1 v2 v3 v4:Value):Kept (f_ R) V (b9e V R v0 v1 v2 v3 v4):=
 (((((Kept.refl (f_ R) V).setCell (a:=⟨R,0,none⟩) (fun _=>rfl)).setCell (a:=⟨R,1,none⟩) (fun _=>rfl)).setCell (a:=⟨R,2,none⟩) (fun _=>rfl)).setCell (a:=⟨R,3,none⟩) (fun _=>rfl)).setCell (a:=⟨R,4,none⟩) (fun _=>rfl)
theorem b8t {V w:World} {R:Nat} (h:Below w.heap.size w V) (hR:w.heap.size≤R) (v0 v1 v2 v3 v4:Value):Below w.heap.size w (b9e V R v0 v1 v2 v3 v4):=
 x_ (x_ (x_ (x_ (x_ h _ _ _ hR) _ _ _ hR) _ _ _ hR) _ _ _ hR) _ _ _ hR
theorem Chg.low {T:Nat→Nat} {w V:World} (h:Chg (fun _=>0) T w V):Below w.heap.size w V:=(h.kept.mono (G:=a7z) (fun _ _ e=>absurd rfl e.1)).none
theorem PaF.good {s:Txt} {w V:World} {rb:Nat} (h:PaF s w rb V) (he:(rdS s).settle.err=0):∃ ra rc na nc la lc pa pc,V.heap[w.heap.size]?=some gm0∧V.cell? ⟨rb,1,none⟩=some (.slice ra (t_ s).rules.length rc)∧V.cell? ⟨rb,2,none⟩=some (.slice na (t_ s).nonts.length nc)∧V.cell? ⟨rb,3,none⟩=some (.slice la (t_ s).levels.length lc)∧V.cell? ⟨rb,4,none⟩=some (.slice pa (t_ s).prods.length pc)∧V.cell? ⟨rb,5,none⟩=some (.int .i64 (t_ s).start)∧V.cell? ⟨rb,17,none⟩=some (.int .i64 0) ∧
 GmV (b9e V w.heap.size (.slice ra (t_ s).rules.length rc) (.slice na (t_ s).nonts.length nc) (.slice la (t_ s).levels.length lc) (.slice pa (t_ s).prods.length pc) (.int .i64 (t_ s).start)) (.slice ra (t_ s).rules.length rc) (.slice na (t_ s).nonts.length nc) (.slice la (t_ s).levels.length lc) (.slice pa (t_ s).prods.length pc) (t_ s)∧Below w.heap.size w (b9e V w.heap.size (.slice ra (t_ s).rules.length rc) (.slice na (t_ s).nonts.length nc) (.slice la (t_ s).levels.length lc) (.slice pa (t_ s).prods.length pc) (.int .i64 (t_ s).start)):=by
 obtain ⟨ra,rc,na,nc,la,lc,pa,pc,T,X,rs,mp,⟨c0,c1,c2,c3,c4,c5,-,c7⟩,e1,e2,e4,hr,hc,hT⟩:=h.out;rw [he] at c7;refine ⟨ra,rc,na,nc,la,lc,pa,pc,c0,c1,c2,c3,c4,c5,c7,?_,b8t hc.low (Nat.le_refl _) _ _ _ _ _⟩;have h9:=(hr.wrote (c1U V w.heap.size (.slice ra (t_ s).rules.length rc) (.slice na (t_ s).nonts.length nc) (.slice la (t_ s).levels.length lc) (.slice pa (t_ s).prods.length pc) (.int .i64 (t_ s).start)) hT).gm (a3F _ _ _ he);rw [e1,e2,e4] at h9;exact h9
theorem PaF.fault {s:Txt} {w V:World} {rb:Nat} (h:PaF s w rb V):V.heap[w.heap.size]?=some gm0∧V.cell? ⟨rb,16,none⟩=some (.int .i64 ((rdS s).settle.pl:Int))∧V.cell? ⟨rb,17,none⟩=some (.int .i64 (rdS s).settle.err)∧(b9e V w.heap.size (.slice none 0 0) (.slice none 0 0) (.slice none 0 0) (.slice none 0 0) (.int .i64 0)).cell? ⟨rb,16,none⟩=some (.int .i64 ((rdS s).settle.pl:Int))∧(b9e V w.heap.size (.slice none 0 0) (.slice none 0 0) (.slice none 0 0) (.slice none 0 0) (.int .i64 0)).cell? ⟨rb,17,none⟩=some (.int .i64 (rdS s).settle.err)∧Below w.heap.size w (b9e V w.heap.size (.slice none 0 0) (.slice none 0 0) (.slice none 0 0) (.slice none 0 0) (.int .i64 0)):=by
 obtain ⟨ra,rc,na,nc,la,lc,pa,pc,T,X,rs,mp,⟨c0,c1,c2,c3,c4,c5,c6,c7⟩,e1,e2,e4,hr,hc,hT⟩:=h.out;have h9:=hr.wrote (c1U V w.heap.size (.slice none 0 0) (.slice none 0 0) (.slice none 0 0) (.slice none 0 0) (.int .i64 0)) hT;exact ⟨c0,c6,c7,c_ h9.blk rfl,c_ h9.blk rfl,b8t hc.low (Nat.le_refl _) _ _ _ _ _⟩
set_option maxRecDepth 20000 in
theorem b7W (s:Txt) (w:World) (hs:s.length≤1000000) (h0:(a0w s).2.2=0) :
 ∀ u v,WdM (w.alloc gm0) u v (a0w s).1→∃ A n C u6,(Builtin.append_ #[86,86] 86 #[v,.slice (some ⟨u.heap.size,0,none⟩) 1 1]).run Tryz.prog (u.alloc (.cells #[.int .i64 0,.int .i64 ((e_ s).size:Int),.string ⟨#[]⟩] 90))=.ok (.slice A n C) u6 ∧
  Calls Tryz.prog 39 #[r_ u6.heap.size] (u6.alloc (.cells #[.slice A n C,.slice none 0 0,.slice none 0 0,.slice none 0 0,.slice none 0 0,.int .i64 0,.int .i64 0,.int .i64 0,.slice none 0 0,.slice none 0 0,.slice none 0 0,.int .u32 0,.int .i32 0,.int .u32 0,.map none,.slice none 0 0,.int .i64 0,.int .i64 0] 108)) fun r u=>r=.returned (.tuple #[])∧Calls Tryz.prog 40 #[r_ u6.heap.size] u fun r V=>r=.returned (.tuple #[])∧PaF s w u6.heap.size V:=fun u v hW=>by
 have hsz:=o_ s;obtain ⟨A,C,u6,h1,T,X,hr,hc,hT,hR⟩:=c1F s w hs h0 u v hW;rw [hsz];exact ⟨A,_,C,u6,h1,c1D s w hs h0 (c1w s hs h0) hr hc hT hR⟩
set_option maxRecDepth 20000 in
set_option maxHeartbeats 8000000 in
theorem a8F (s:Txt) (w:World) (hs:s.length≤1000000) (h0:(a0w s).2.2=0) (he:(rdS s).settle.err=0) :
 Calls Tryz.prog 22 #[.string (e_ s)] w fun e w'=>∃ rv nv lv pv,e=.returned (.tuple #[gmA rv nv lv pv (t_ s).start,.int .i64 0,.int .i64 0])∧GmV w' rv nv lv pv (t_ s)∧Below w.heap.size w w':=by
 have hP:=hid (b7W s w hs h0);obtain ⟨W,hW⟩:∃ y,w.alloc gm0=y:=⟨_,rfl⟩;rw [hW] at hP;have G:=hid (c3k s W (by omega));rw [h0] at G;have hfin:=hid (fun rb V (h:PaF s w rb V)=>h.good he);clear he h0;generalize (a0w s).1=l at *;generalize (a0w s).2.1=ap at *;generalize e_ s=S at *;go_enter Tryz.func22,Tryz.ntmps22
 go_wp2_with (first
  | (go_at_call 38;refine G.out.mono ?_;clear G;rintro e u ⟨v,rfl,hM⟩;obtain ⟨A,n,C,u6,hrun,hI⟩:=hP.out u v hM;clear hP hM;have hI:=hid hI)
  | (at_builtin;refine b1V _ rfl _ _ _ rfl _ _ rfl rfl hrun ?_;clear hrun)
  | (go_at_call 39;refine hI.out.mono ?_;clear hI;rintro e u7 ⟨rfl,hI2⟩;have hI2:=hid hI2)
  | (go_at_call 40;refine hI2.out.mono ?_;clear hI2;rintro e V ⟨rfl,hF⟩;obtain ⟨ra,rc,na,nc,la,lc,pa,pc,c0,c1,c2,c3,c4,c5,c7,hG,hB⟩:=hfin.out _ _ hF;clear hfin hF;have hG:=hid hG;have hB:=hid hB;obtain ⟨⟨q0,q1⟩,⟨q2,q3⟩,⟨q4,q5⟩,⟨q6,q7⟩,⟨q8,q9⟩,q10⟩:=b9b c0 (.slice ra (t_ s).rules.length rc) (.slice na (t_ s).nonts.length nc) (.slice la (t_ s).levels.length lc) (.slice pa (t_ s).prods.length pc) (.int .i64 (t_ s).start);obtain ⟨y0,y1,y2,y3,y4⟩:=l_ q10;clear q10 c0))
 refine bodyPost_ret (v:=.tuple #[gmA (.slice ra (t_ s).rules.length rc) (.slice na (t_ s).nonts.length nc) (.slice la (t_ s).levels.length lc) (.slice pa (t_ s).prods.length pc) (t_ s).start,.int .i64 0,.int .i64 0]) (by simp [results,Tryz.results22,go_sem,y0,y1,y2,y3,y4]) rfl ⟨_,_,_,_,rfl,hG.out,hB.out⟩
set_option maxRecDepth 20000 in
set_option maxHeartbeats 8000000 in
theorem a3g (s:Txt) (w:World) (hs:s.length≤1000000) (h0:(a0w s).2.2=0) (he:(rdS s).settle.err≠0) :
 Calls Tryz.prog 22 #[.string (e_ s)] w fun e w'=>e=.returned (.tuple #[gmZ,.int .i64 ((rdS s).settle.pl:Int),.int .i64 (rdS s).settle.err])∧Below w.heap.size w w':=by
 have hP:=hid (b7W s w hs h0);obtain ⟨W,hW⟩:∃ y,w.alloc gm0=y:=⟨_,rfl⟩;rw [hW] at hP;have G:=hid (c3k s W (by omega));rw [h0] at G;have hfin:=hid (fun rb V (h:PaF s w rb V)=>h.fault);have hez:((rdS s).settle.err != 0)=true:=bne_iff_ne.2 he;clear he h0;generalize (a0w s).1=l at *;generalize (a0w s).2.1=ap at *;generalize e_ s=S at *;generalize (rdS s).settle.err=er at *;generalize (rdS s).settle.pl=pl at *;go_enter Tryz.func22,Tryz.ntmps22
 go_wp2_with (first
  | (go_at_call 38;refine G.out.mono ?_;clear G;rintro e u ⟨v,rfl,hM⟩;obtain ⟨A,n,C,u6,hrun,hI⟩:=hP.out u v hM;clear hP hM;have hI:=hid hI)
  | (at_builtin;refine b1V _ rfl _ _ _ rfl _ _ rfl rfl hrun ?_;clear hrun)
  | (go_at_call 39;refine hI.out.mono ?_;clear hI;rintro e u7 ⟨rfl,hI2⟩;have hI2:=hid hI2)
  | (go_at_call 40;refine hI2.out.mono ?_;clear hI2;rintro e V ⟨rfl,hF⟩;obtain ⟨c0,c6,c7,d6,d7,hB⟩:=hfin.out _ _ hF;clear hfin hF;have hB:=hid hB;obtain ⟨⟨q0,q1⟩,⟨q2,q3⟩,⟨q4,q5⟩,⟨q6,q7⟩,⟨q8,q9⟩,q10⟩:=b9b c0 (.slice none 0 0) (.slice none 0 0) (.slice none 0 0) (.slice none 0 0) (.int .i64 0);obtain ⟨y0,y1,y2,y3,y4⟩:=l_ q10;clear q10 c0))
 go_region
 all_goals
  go_wp2;refine bodyPost_ret (v:=.tuple #[gmZ,.int .i64 (pl:Int),.int .i64 er]) (by simp [results,Tryz.results22,go_sem,y0,y1,y2,y3,y4]) rfl ⟨rfl,hB.out.drew⟩
theorem b5Y {s:Txt} (h:prs s=none):(c0P s).2≠0:=by
 unfold prs at h;split at h
 · cases h
 · assumption
theorem b4m:(a0w ex1).2.2=0:=by decide +kernel
theorem c0n:(rdS ex1).settle.err=0:=by decide +kernel
theorem b4l:(a0w ex2).2.2=0:=by decide +kernel
theorem a8T:(rdS ex2).settle.err=5∧(rdS ex2).settle.pl=3:=by decide +kernel
theorem b7R {s:Txt} (h0:(a0w s).2.2=0) (he:(rdS s).settle.err=0):prs s=some (t_ s):=by
 have h1:(c0P s).2=0:=by
  unfold c0P;rw [if_pos h0];exact he
 unfold prs;rw [if_pos h1]
theorem c0m:prs ex1=some (t_ ex1):=b7R b4m c0n
theorem c3F:PrsOK prs where
 yes s g u hs h:=by
  obtain ⟨h0,he,-,rfl⟩:=a6b h;exact a8F s u hs h0 he
 no s u hs h:=by
  have h:=b5Y h;by_cases h0:(a0w s).2.2=0
  · have he:(rdS s).settle.err≠0:=by
     unfold c0P at h;rw [if_pos h0] at h;exact h
    refine (a3g s u hs h0 he).mono ?_;rintro e w' ⟨rfl,hb⟩;exact ⟨none,none,none,none,0,0,0,0,0,_,_,rfl,he,hb⟩
  · refine (c1E s u hs h0).mono ?_
    rintro e w' ⟨rfl,hb⟩;exact ⟨none,none,none,none,0,0,0,0,0,_,_,rfl,h0,hb⟩
 ex:=⟨t_ ex1,c0m,by decide +kernel,by decide +kernel,fun h=>by
  have h1:(t_ ex1).prods.map Pd.right=[[1,2],[]]:=by decide +kernel
  have h2:((t_ ex1).prods.map Pd.right)[0]'(by rw [List.length_map];exact h)=[1,2]:=by simp only [h1];rfl
  rwa [List.getElem_map] at h2⟩
 bad u:=by
  refine (a3g ex2 u (by decide) b4l (by rw [a8T.1];decide)).mono ?_;rintro e w' ⟨rfl,hb⟩;rw [a8T.1,a8T.2];exact ⟨none,none,none,none,0,0,0,0,0,rfl,hb⟩
 bnd _ _ h:=b9f h
end Go.Proofs.YtjgedijclkoemaaGreatDoor
