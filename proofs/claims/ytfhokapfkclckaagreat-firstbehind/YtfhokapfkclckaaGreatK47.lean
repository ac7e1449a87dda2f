/- What was read is sound. What settle asks of the reader. gram.Parse: its own walk. gram.Name. -/
import Derived.Test.YtfhokapfkclckaaGreatK46
import Derived.Test.YtfhokapfkclckaaGreatK22
import Derived.Test.YtfhokapfkclckaaGreatK40
import Derived.Test.YtfhokapfkclckaaGreatK39
import Derived.Test.YtfhokapfkclckaaGreatK44
import Derived.Test.YtfhokapfkclckaaGreatK45
import Derived.Test.YtfhokapfkclckaaGreatK27
import Derived.Test.YtfhokapfkclckaaGreatK13
import Derived.Test.YtfhokapfkclckaaGreatK17
namespace Go.Proofs.YtfhokapfkclckaaGreat
theorem setL_err (F:Txt → Ow):∀ (l:List Stp) (f:FS),(setL F l f).err = 0 → f.err = 0
 | [],_,h => h
 | s :: l,f,h => by
  rw [setL] at h
  split at h
  · rename_i e;exact absurd h e
  · rename_i e;exact Decidable.not_not.1 e
theorem setL_cons {F:Txt → Ow} {s:Stp} {l:List Stp} {f:FS} (h:(setL F (s :: l) f).err = 0):f.err = 0 ∧ (stpF F s f).2 = 0 ∧ setL F (s :: l) f = setL F l (stpF F s f).1:=by
 have h0:=setL_err F _ _ h
 rw [setL,if_neg (fun e => e h0)] at h
 have h1:=setL_err F _ _ h
 have h2:(stpF F s f).2 = 0:=by
  unfold FS.fail at h1
  split at h1
  · assumption
  · rename_i e;exact absurd h1 e
 refine ⟨h0,h2,?_⟩
 rw [setL,if_neg (fun e => e h0)]
 unfold FS.fail
 rw [if_pos h2]
theorem setL_once {F:Txt → Ow}:∀ (l:List Stp) (f:FS),(setL F l f).err = 0 → ∀ s ∈ l,s.k = 1 → s.w.2.1 ≤ (F s.w.2.2).1
 | [],_,_,_,hs,_ => absurd hs List.not_mem_nil
 | x :: l,f,h,s,hs,hk => by
  obtain ⟨-,h2,h3⟩:=setL_cons h
  rcases List.mem_cons.1 hs with rfl | hs
  · unfold stpF at h2
    rw [if_pos hk] at h2
    dsimp only at h2
    split at h2
    · cases h2
    · omega
  · rw [h3] at h
    exact setL_once l _ h s hs hk
theorem modP_get (l:List Pd) (k:Nat) (f:Pd → Pd) (i:Nat):(modP l k f)[i]? = if i = k then (l[i]?).map f else l[i]?:=by
 unfold modP
 split
 · rename_i p hp
   rw [List.getElem?_set]
   by_cases h:k = i
   · subst h
     rw [if_pos rfl,if_pos rfl,hp]
     obtain ⟨h1,-⟩:=List.getElem?_eq_some_iff.1 hp
     rw [if_pos h1];rfl
   · rw [if_neg h,if_neg (fun e => h e.symm)]
 · rename_i hp
   by_cases h:i = k
   · subst h
     rw [if_pos rfl,hp];rfl
   · rw [if_neg h]
structure PdG (a b m:Nat) (p:Pd):Prop where
 left:(a:Int) < p.left ∧ p.left ≤ (b:Int)
 prec:0 ≤ p.prec ∧ p.prec ≤ (a:Int)
 len:p.right.length + m ≤ 8
 syms:∀ k ∈ p.right,1 ≤ k ∧ k ≤ (b:Int)
theorem cntS_cons (i:Nat) (s:Stp) (l:List Stp):cntS i (s :: l) = (if s.k = 5 ∧ s.a = i then 1 else 0) + cntS i l:=by
 unfold cntS
 rw [List.filter_cons]
 by_cases h1:s.k = 5 <;> by_cases h2:s.a = i <;> simp [h1,h2] <;> omega
theorem PdG.less {a b m n:Nat} {p:Pd} (h:PdG a b m p) (hn:n ≤ m):PdG a b n p:=⟨h.left,h.prec,by have:=h.len;omega,h.syms⟩
theorem setL_prods {F:Txt → Ow} {a b:Nat} (hab:a ≤ b) (hF:∀ t,OwG a b (F t)):∀ (l:List Stp) (f:FS),(setL F l f).err = 0 → (∀ (i:Nat) (p:Pd),f.prods[i]? = some p → PdG a b (cntS i l) p) → ∀ (i:Nat) (p:Pd),(setL F l f).prods[i]? = some p → PdG a b 0 p
 | [],f,_,h => h
 | s :: l,f,he,h => by
  obtain ⟨-,h2,h3⟩:=setL_cons he
  rw [h3] at he ⊢
  refine setL_prods hab hF l _ he (fun i p hp => ?_)
  have hless:∀ (i:Nat) (p:Pd),f.prods[i]? = some p → PdG a b (cntS i l) p:=fun i p hp => (h i p hp).less (by rw [cntS_cons];omega)
  obtain ⟨o1,o2⟩:=hF s.w.2.2
  unfold stpF at hp h2
  by_cases k1:s.k = 1
  · rw [if_pos k1] at hp;exact hless i p hp
  rw [if_neg k1] at hp h2
  by_cases k2:s.k = 2
  · rw [if_pos k2] at hp
    have hp:f.prods[i]? = some p:=by
     revert hp
     repeat (first | exact id | split)
    exact hless i p hp
  rw [if_neg k2] at hp h2
  by_cases k3:s.k = 3
  · rw [if_pos k3] at hp;exact hless i p hp
  rw [if_neg k3] at hp h2
  by_cases k4:s.k = 4
  · rw [if_pos k4] at hp;exact hless i p hp
  rw [if_neg k4] at hp h2
  by_cases k5:s.k = 5
  · rw [if_pos k5] at hp h2
    by_cases t0:0 < (F s.w.2.2).2.1
    · rw [if_pos t0] at hp
      have hp:(modP f.prods s.a fun p => ⟨p.left,p.right ++ [((F s.w.2.2).2.1:Int)],((F s.w.2.2).2.1:Int)⟩)[i]? = some p:=hp
      rw [modP_get] at hp
      split at hp
      · rename_i hi
        cases hq:f.prods[i]? with
        | none => rw [hq] at hp;cases hp
        | some q =>
         rw [hq] at hp
         injection hp with hp
         subst hp
         have g:=h i q hq
         rw [cntS_cons,if_pos ⟨k5,hi.symm⟩] at g
         refine ⟨g.left,⟨by show (0:Int) ≤ ((F s.w.2.2).2.1:Int);omega,by show ((F s.w.2.2).2.1:Int) ≤ (a:Int);omega⟩,?_,fun k hk => ?_⟩
         · show (q.right ++ [_]).length + _ ≤ 8
           rw [List.length_append,List.length_singleton]
           have:=g.len
           omega
         · have hk:k ∈ q.right ++ [((F s.w.2.2).2.1:Int)]:=hk
           rw [List.mem_append,List.mem_singleton] at hk
           rcases hk with hk | rfl
           · exact g.syms k hk
           · omega
      · exact hless i p hp
    · rw [if_neg t0] at hp h2
      by_cases n0:0 < (F s.w.2.2).2.2
      · rw [if_pos n0] at hp
        have hp:(modP f.prods s.a fun p => ⟨p.left,p.right ++ [((F s.w.2.2).2.2:Int)],p.prec⟩)[i]? = some p:=hp
        rw [modP_get] at hp
        split at hp
        · rename_i hi
          cases hq:f.prods[i]? with
          | none => rw [hq] at hp;cases hp
          | some q =>
           rw [hq] at hp
           injection hp with hp
           subst hp
           have g:=h i q hq
           rw [cntS_cons,if_pos ⟨k5,hi.symm⟩] at g
           refine ⟨g.left,g.prec,?_,fun k hk => ?_⟩
           · show (q.right ++ [_]).length + _ ≤ 8
             rw [List.length_append,List.length_singleton]
             have:=g.len
             omega
           · have hk:k ∈ q.right ++ [((F s.w.2.2).2.2:Int)]:=hk
             rw [List.mem_append,List.mem_singleton] at hk
             rcases hk with hk | rfl
             · exact g.syms k hk
             · omega
        · exact hless i p hp
      · rw [if_neg n0] at hp;exact hless i p hp
  rw [if_neg k5] at hp h2
  by_cases t0:(F s.w.2.2).2.1 = 0
  · rw [if_pos t0] at hp;exact hless i p hp
  · rw [if_neg t0] at hp
    have hp:(modP f.prods s.a fun p => ⟨p.left,p.right,((F s.w.2.2).2.1:Int)⟩)[i]? = some p:=hp
    rw [modP_get] at hp
    split at hp
    · cases hq:f.prods[i]? with
      | none => rw [hq] at hp;cases hp
      | some q =>
       rw [hq] at hp
       injection hp with hp
       subst hp
       have g:=hless i q hq
       exact ⟨g.left,⟨by show (0:Int) ≤ ((F s.w.2.2).2.1:Int);omega,by show ((F s.w.2.2).2.1:Int) ≤ (a:Int);omega⟩,g.len,g.syms⟩
    · exact hless i p hp
theorem modP_len2 (l:List Pd) (k:Nat) (f:Pd → Pd):(modP l k f).length = l.length:=by
 unfold modP
 split
 · exact List.length_set
 · rfl
theorem stpF_lens (F:Txt → Ow) (s:Stp) (f:FS):(stpF F s f).1.levels.length = f.levels.length ∧ (stpF F s f).1.prods.length = f.prods.length:=by
 unfold stpF
 repeat (first | exact ⟨rfl,rfl⟩ | exact ⟨List.length_set,rfl⟩ | exact ⟨rfl,modP_len2 _ _ _⟩ | split)
theorem setL_lens {F:Txt → Ow}:∀ (l:List Stp) (f:FS),(setL F l f).levels.length = f.levels.length ∧ (setL F l f).prods.length = f.prods.length
 | [],_ => ⟨rfl,rfl⟩
 | s :: l,f => by
  rw [setL]
  split
  · exact ⟨rfl,rfl⟩
  · obtain ⟨a,b⟩:=setL_lens (F:=F) l ((stpF F s f).1.fail s.w.2.1 (stpF F s f).2)
    obtain ⟨c,d⟩:=stpF_lens F s f
    have e:((stpF F s f).1.fail s.w.2.1 (stpF F s f).2).levels = (stpF F s f).1.levels ∧ ((stpF F s f).1.fail s.w.2.1 (stpF F s f).2).prods = (stpF F s f).1.prods:=by
     unfold FS.fail
     split <;> exact ⟨rfl,rfl⟩
    rw [a,b,e.1,e.2]
    exact ⟨c,d⟩
theorem setL_start {F:Txt → Ow} {a b:Nat} (hF:∀ t,OwG a b (F t)):∀ (l:List Stp) (f:FS),(setL F l f).err = 0 → ((a:Int) < f.start ∧ f.start ≤ (b:Int)) → ((a:Int) < (setL F l f).start ∧ (setL F l f).start ≤ (b:Int))
 | [],f,_,h => h
 | s :: l,f,he,h => by
  obtain ⟨-,h2,h3⟩:=setL_cons he
  rw [h3] at he ⊢
  refine setL_start hF l _ he ?_
  obtain ⟨o1,o2⟩:=hF s.w.2.2
  by_cases k4:s.k = 4
  · unfold stpF at h2 ⊢
    have k1:s.k ≠ 1:=by omega
    have k2:s.k ≠ 2:=by omega
    have k3:s.k ≠ 3:=by omega
    rw [if_neg k1,if_neg k2,if_neg k3,if_pos k4] at h2 ⊢
    dsimp only at h2 ⊢
    split at h2
    · cases h2
    · omega
  · have:(stpF F s f).1.start = f.start:=by
     unfold stpF
     rw [if_neg k4]
     repeat (first | rfl | split)
    rw [this]
    exact h
theorem prs_some {s:Txt} {g:Gm} (h:prs s = some g):(wrdA s).2.2 = 0 ∧ (rdS s).settle.err = 0 ∧ (rdS s).err = 0 ∧ g = prsG s:=by
 unfold prs at h
 split at h
 · rename_i he
   injection h with h
   unfold prsE at he
   split at he
   · rename_i h0
     exact ⟨h0,he,setL_err _ _ _ he,h.symm⟩
   · rename_i h0
     exact absurd he h0
 · cases h
theorem rxA_right {t:Txt} (h:(rxA t).2 = 0):rightB (rxA t).1 = true ∧ (rxA t).1.length ≤ 60:=by
 unfold rxA at h ⊢
 split at h
 · cases h
 · rename_i h2
   rw [if_neg h2]
   split at h
   · rename_i r hr
     split at h
     · cases h
     · rename_i h6
       rw [if_neg h6]
       exact ⟨right_post (rowsP_good hr).1 (by omega),by show (post r).length ≤ 60;omega⟩
   · cases h
theorem prs_sound {s:Txt} {g:Gm} (h:prs s = some g):SoundG g:=by
 obtain ⟨h0,he,h1,rfl⟩:=prs_some h
 have hA:=rdS_ia s
 have hG:=rdS_gd s h1
 have hI:=rdS_inv s (P:=fun _ => True) trivial (fun _ _ => trivial)
 have ht:=hA.trm
 have hn:=hA.nlen
 have hF:=fnd_good (rdS s)
 rw [← ht,hn] at hF
 obtain ⟨l1,l2⟩:=setL_lens (F:=(rdS s).fnd) (rdS s).later (rdS s).fs
 have hterms:(prsG s).terms = (rdS s).trm:=rfl
 have hall:(prsG s).all = (rdS s).trm + (rdS s).nonts.length:=rfl
 refine ⟨?_,fun hp => ?_,fun i j hi hij hj => ?_,fun p hp => ?_⟩
 · show (setL (rdS s).fnd (rdS s).later (rdS s).fs).levels.length = _
   rw [l1,hterms]
   exact List.length_replicate
 · rw [hterms,hall]
   refine setL_start hF _ _ he ?_
   have hp:0 < (rdS s).nonts.length:=hp
   show ((rdS s).trm:Int) < (if 0 < (rdS s).nonts.length then _ else _) ∧ (if 0 < (rdS s).nonts.length then _ else _) ≤ _
   rw [if_pos hp]
   omega
 · rw [hall] at hj
   have hnm:(prsG s).names = [36] :: ((rdS s).terms ++ (rdS s).nons).map (fun w => w.2.2):=by
    show nmsK (rdS s).rules (rdS s).rules.length ++ (rdS s).nonts = _
    unfold nmsK
    rw [List.take_length,← hA.tm,← hA.nn,List.map_append]
    rfl
   have hlen:((rdS s).terms ++ (rdS s).nons).length = (rdS s).trm + (rdS s).nonts.length:=by rw [List.length_append,ht,hn]
   have hname:∀ i:Nat,1 ≤ i → (hi:i ≤ (rdS s).trm + (rdS s).nonts.length) → (prsG s).name (i:Int) = (((rdS s).terms ++ (rdS s).nons)[i - 1]'(by omega)).2.2:=fun i h1 hi => by
    unfold Gm.name
    rw [if_neg (by omega),hnm,show (i:Int).toNat = (i - 1) + 1 by omega,List.getD_cons_succ,List.getD_eq_getElem?_getD,List.getElem?_map,List.getElem?_eq_getElem (by omega)]
    rfl
   rw [hname i hi (by omega),hname j (by omega) hj]
   have hpw:((rdS s).terms ++ (rdS s).nons).Pairwise (fun x y => x.2.1 ≠ y.2.1):=by
    rw [List.pairwise_append]
    exact ⟨hG.tp.imp (fun h => by unfold Bef at h;omega),hG.np.imp (fun h => by unfold Bef at h;omega),hG.tn⟩
   have hne:=List.pairwise_iff_getElem.1 hpw (i - 1) (j - 1) (by omega) (by omega) (by omega)
   have hat:∀ k (hk:k < ((rdS s).terms ++ (rdS s).nons).length),((rdS s).fnd (((rdS s).terms ++ (rdS s).nons)[k]).2.2).1 = (((rdS s).terms ++ (rdS s).nons)[k]).2.1:=fun k hk => by
    have hm:=List.getElem_mem hk
    rw [List.mem_append] at hm
    obtain ⟨st,hs1,hs2,hs3⟩:=hA.on _ hm
    have h5:=setL_once _ _ he st hs1 hs2
    rw [hs3] at h5
    exact Nat.le_antisymm (fnd_le _ _ hm) h5
   intro hc
   apply hne
   rw [← hat (i - 1) (by omega),← hat (j - 1) (by omega),hc]
 · obtain ⟨i,hi,rfl⟩:=List.getElem_of_mem hp
   have hq:=setL_prods (a:=(rdS s).trm) (b:=(rdS s).trm + (rdS s).nonts.length) (by omega) hF (rdS s).later (rdS s).fs he (fun i p hp => by
    have hp:((rdS s).prods.map fun (l:Nat) => (⟨(l:Int) + ((rdS s).trm:Int),[],0⟩:Pd))[i]? = some p:=hp
    rw [List.getElem?_map] at hp
    cases hl:(rdS s).prods[i]? with
    | none => rw [hl] at hp;cases hp
    | some l =>
     rw [hl] at hp
     injection hp with hp
     subst hp
     have hm:=List.mem_of_getElem? hl
     have q1:=hA.p1 l hm
     have q2:=hI.pr l hm
     refine ⟨?_,⟨Int.le_refl _,by show (0:Int) ≤ _;omega⟩,?_,fun k hk => absurd hk List.not_mem_nil⟩
     · show ((rdS s).trm:Int) < (l:Int) + ((rdS s).trm:Int) ∧ (l:Int) + ((rdS s).trm:Int) ≤ _
       omega
     · have:=hG.ct i
       show ([]:List Int).length + _ ≤ 8
       rw [List.length_nil];omega) i _ (List.getElem?_eq_getElem hi)
   rw [hterms,hall]
   exact ⟨hq.left.1,hq.left.2,hq.prec.1,hq.prec.2,by have:=hq.len;omega,hq.syms⟩
theorem prs_bnd {s:Txt} {g:Gm} (h:prs s = some g):BndG g:=by
 have hS:=prs_sound h
 obtain ⟨h0,he,h1,rfl⟩:=prs_some h
 have hG:=rdS_gd s h1
 have hL:=rdS_lp s h1
 obtain ⟨l1,l2⟩:=setL_lens (F:=(rdS s).fnd) (rdS s).later (rdS s).fs
 have hr:(prsG s).rules.length ≤ 16:=hG.lr
 have hn:(prsG s).nonts.length ≤ 16:=hG.ln
 have ht:(prsG s).terms ≤ (prsG s).rules.length:=trmK_le _ _
 refine ⟨by omega,by omega,by rw [hS.levels];omega,?_,fun r hr => ?_,fun p hp => ?_⟩
 · show (setL (rdS s).fnd (rdS s).later (rdS s).fs).prods.length ≤ 1000
   rw [l2]
   show ((rdS s).prods.map _).length ≤ 1000
   rw [List.length_map];omega
 · obtain ⟨t,e1,e2⟩:=hG.rx r hr
   rw [e1]
   have:=(rxA_right e2).2
   omega
 · have:=(hS.prods p hp).2.2.2.2.1
   omega
theorem rdS_ok (s:Txt) (hs:s.length ≤ 1000000) (h0:(wrdA s).2.2 = 0):StOk (rdS s):=by
 have hI:=rdS_inv s (P:=fun x => x.2.2.length ≤ 1000000) (Nat.zero_le _) (fun x hx => Nat.le_trans ((wsE_words s).1 x hx) hs)
 have hA:=rdS_ia s
 have hp:(rdS s).pot ≤ 80000:=by
  refine Nat.le_trans (items_pot _ _) ?_
  rw [init_pot]
  have:=wrdA_len s h0
  unfold wsE
  rw [List.length_append,List.length_singleton]
  omega
 have hl:(rdS s).rules.length + (rdS s).nonts.length + (rdS s).prods.length + (rdS s).skips.length + (rdS s).terms.length + (rdS s).nons.length + (rdS s).later.length + (rdS s).levels + (rdS s).starts ≤ 80000:=by
  unfold RS.pot RS.lens at hp
  omega
 refine ⟨⟨by omega,by omega,by omega,hI.sk,hI.te,hI.no⟩,fun x hx => (hI.la x hx).1,fun x hx => (hI.la x hx).2,fun t => ?_,fun l hl' => ?_,by omega,by omega,by omega⟩
 · rw [hA.trm]
   have:=(fnd_good (rdS s) t).1
   omega
 · have:=hI.pr l hl'
   omega
end Go.Proofs.YtfhokapfkclckaaGreat
namespace Go.Proofs.YtfhokapfkclckaaGreat
open Go.RowKit Go.Maps
abbrev put5 (V:World) (R:Nat) (v0 v1 v2 v3 v4:Value):World:=((((V.setCell ⟨R,0,none⟩ v0).setCell ⟨R,1,none⟩ v1).setCell ⟨R,2,none⟩ v2).setCell ⟨R,3,none⟩ v3).setCell ⟨R,4,none⟩ v4
theorem kept5 (V:World) (R:Nat) (v0 v1 v2 v3 v4:Value):Kept (oneBlk R) V (put5 V R v0 v1 v2 v3 v4):=
 (((((Kept.refl (oneBlk R) V).setCell (a:=⟨R,0,none⟩) (fun _ => rfl)).setCell (a:=⟨R,1,none⟩) (fun _ => rfl)).setCell (a:=⟨R,2,none⟩) (fun _ => rfl)).setCell (a:=⟨R,3,none⟩) (fun _ => rfl)).setCell (a:=⟨R,4,none⟩) (fun _ => rfl)
theorem below5 {V w:World} {R:Nat} (h:Below w.heap.size w V) (hR:w.heap.size ≤ R) (v0 v1 v2 v3 v4:Value):Below w.heap.size w (put5 V R v0 v1 v2 v3 v4):=
 bl_set (bl_set (bl_set (bl_set (bl_set h _ _ _ hR) _ _ _ hR) _ _ _ hR) _ _ _ hR) _ _ _ hR
theorem Chg.low {T:Nat → Nat} {w V:World} (h:Chg (fun _ => 0) T w V):Below w.heap.size w V:=(h.kept.mono (G:=noBlk) (fun _ _ e => absurd rfl e.1)).none
theorem PaF.good {s:Txt} {w V:World} {rb:Nat} (h:PaF s w rb V) (he:(rdS s).settle.err = 0):∃ ra rc na nc la lc pa pc,V.heap[w.heap.size]? = some gm0 ∧ V.cell? ⟨rb,1,none⟩ = some (.slice ra (prsG s).rules.length rc) ∧ V.cell? ⟨rb,2,none⟩ = some (.slice na (prsG s).nonts.length nc) ∧ V.cell? ⟨rb,3,none⟩ = some (.slice la (prsG s).levels.length lc) ∧ V.cell? ⟨rb,4,none⟩ = some (.slice pa (prsG s).prods.length pc) ∧ V.cell? ⟨rb,5,none⟩ = some (.int .i64 (prsG s).start) ∧ V.cell? ⟨rb,17,none⟩ = some (.int .i64 0) ∧
 GmV (put5 V w.heap.size (.slice ra (prsG s).rules.length rc) (.slice na (prsG s).nonts.length nc) (.slice la (prsG s).levels.length lc) (.slice pa (prsG s).prods.length pc) (.int .i64 (prsG s).start)) (.slice ra (prsG s).rules.length rc) (.slice na (prsG s).nonts.length nc) (.slice la (prsG s).levels.length lc) (.slice pa (prsG s).prods.length pc) (prsG s) ∧ Below w.heap.size w (put5 V w.heap.size (.slice ra (prsG s).rules.length rc) (.slice na (prsG s).nonts.length nc) (.slice la (prsG s).levels.length lc) (.slice pa (prsG s).prods.length pc) (.int .i64 (prsG s).start)):=by
 obtain ⟨ra,rc,na,nc,la,lc,pa,pc,T,X,rs,mp,⟨c0,c1,c2,c3,c4,c5,-,c7⟩,e1,e2,e4,hr,hc,hT⟩:=h.out
 rw [he] at c7
 refine ⟨ra,rc,na,nc,la,lc,pa,pc,c0,c1,c2,c3,c4,c5,c7,?_,below5 hc.low (Nat.le_refl _) _ _ _ _ _⟩
 have h9:=(hr.wrote (kept5 V w.heap.size (.slice ra (prsG s).rules.length rc) (.slice na (prsG s).nonts.length nc) (.slice la (prsG s).levels.length lc) (.slice pa (prsG s).prods.length pc) (.int .i64 (prsG s).start)) hT).gm (setL_err _ _ _ he)
 rw [e1,e2,e4] at h9
 exact h9
theorem PaF.fault {s:Txt} {w V:World} {rb:Nat} (h:PaF s w rb V):V.heap[w.heap.size]? = some gm0 ∧ V.cell? ⟨rb,16,none⟩ = some (.int .i64 ((rdS s).settle.pl:Int)) ∧ V.cell? ⟨rb,17,none⟩ = some (.int .i64 (rdS s).settle.err) ∧ (put5 V w.heap.size (.slice none 0 0) (.slice none 0 0) (.slice none 0 0) (.slice none 0 0) (.int .i64 0)).cell? ⟨rb,16,none⟩ = some (.int .i64 ((rdS s).settle.pl:Int)) ∧ (put5 V w.heap.size (.slice none 0 0) (.slice none 0 0) (.slice none 0 0) (.slice none 0 0) (.int .i64 0)).cell? ⟨rb,17,none⟩ = some (.int .i64 (rdS s).settle.err) ∧ Below w.heap.size w (put5 V w.heap.size (.slice none 0 0) (.slice none 0 0) (.slice none 0 0) (.slice none 0 0) (.int .i64 0)):=by
 obtain ⟨ra,rc,na,nc,la,lc,pa,pc,T,X,rs,mp,⟨c0,c1,c2,c3,c4,c5,c6,c7⟩,e1,e2,e4,hr,hc,hT⟩:=h.out
 have h9:=hr.wrote (kept5 V w.heap.size (.slice none 0 0) (.slice none 0 0) (.slice none 0 0) (.slice none 0 0) (.int .i64 0)) hT
 exact ⟨c0,c6,c7,blk_cell h9.blk rfl,blk_cell h9.blk rfl,below5 hc.low (Nat.le_refl _) _ _ _ _ _⟩
set_option maxRecDepth 20000 in
theorem parseP (s:Txt) (w:World) (hs:s.length ≤ 1000000) (h0:(wrdA s).2.2 = 0) :
 ∀ u v,WdM (w.alloc gm0) u v (wrdA s).1 → ∃ A n C u6,(Builtin.append_ #[66,66] 66 #[v,.slice (some ⟨u.heap.size,0,none⟩) 1 1]).run Tryz.prog (u.alloc (.cells #[.int .i64 0,.int .i64 ((strT s).size:Int),.string ⟨#[]⟩] 70)) = .ok (.slice A n C) u6 ∧
  Calls Tryz.prog 40 #[ptr0 u6.heap.size] (u6.alloc (.cells #[.slice A n C,.slice none 0 0,.slice none 0 0,.slice none 0 0,.slice none 0 0,.int .i64 0,.int .i64 0,.int .i64 0,.slice none 0 0,.slice none 0 0,.slice none 0 0,.int .u32 0,.int .i32 0,.int .u32 0,.map none,.slice none 0 0,.int .i64 0,.int .i64 0] 88)) fun r u => r = .returned (.tuple #[]) ∧ Calls Tryz.prog 41 #[ptr0 u6.heap.size] u fun r V => r = .returned (.tuple #[]) ∧ PaF s w u6.heap.size V:=fun u v hW => by
 have hsz:=strT_size s
 obtain ⟨A,C,u6,h1,T,X,hr,hc,hT,hR⟩:=parseA s w hs h0 u v hW
 rw [hsz]
 exact ⟨A,_,C,u6,h1,parseT s w hs h0 (rdS_ok s hs h0) hr hc hT hR⟩
set_option maxRecDepth 20000 in
set_option maxHeartbeats 8000000 in
theorem parseGood12 (s:Txt) (w:World) (hs:s.length ≤ 1000000) (h0:(wrdA s).2.2 = 0) (he:(rdS s).settle.err = 0) :
 Calls Tryz.prog 22 #[.string (strT s)] w fun e w' => ∃ rv nv lv pv,e = .returned (.tuple #[gmA rv nv lv pv (prsG s).start,.int .i64 0,.int .i64 0]) ∧ GmV w' rv nv lv pv (prsG s) ∧ Below w.heap.size w w':=by
 have hP:=hid (parseP s w hs h0)
 obtain ⟨W,hW⟩:∃ y,w.alloc gm0 = y:=⟨_,rfl⟩
 rw [hW] at hP
 have G:=hid (allC s W (by omega))
 rw [h0] at G
 have hfin:=hid (fun rb V (h:PaF s w rb V) => h.good he)
 clear he h0
 generalize (wrdA s).1 = l at *
 generalize (wrdA s).2.1 = ap at *
 generalize strT s = S at *
 go_enter Tryz.func22,Tryz.ntmps22
 go_wp2_with (first
  | (go_at_call 39;refine G.out.mono ?_;clear G;rintro e u ⟨v,rfl,hM⟩;obtain ⟨A,n,C,u6,hrun,hI⟩:=hP.out u v hM;clear hP hM;have hI:=hid hI)
  | (at_builtin;refine wp_run _ rfl _ _ _ rfl _ _ rfl rfl hrun ?_;clear hrun)
  | (go_at_call 40;refine hI.out.mono ?_;clear hI;rintro e u7 ⟨rfl,hI2⟩;have hI2:=hid hI2)
  | (go_at_call 41;refine hI2.out.mono ?_;clear hI2;rintro e V ⟨rfl,hF⟩;obtain ⟨ra,rc,na,nc,la,lc,pa,pc,c0,c1,c2,c3,c4,c5,c7,hG,hB⟩:=hfin.out _ _ hF;clear hfin hF;have hG:=hid hG;have hB:=hid hB;obtain ⟨⟨q0,q1⟩,⟨q2,q3⟩,⟨q4,q5⟩,⟨q6,q7⟩,⟨q8,q9⟩,q10⟩:=putT5 c0 (.slice ra (prsG s).rules.length rc) (.slice na (prsG s).nonts.length nc) (.slice la (prsG s).levels.length lc) (.slice pa (prsG s).prods.length pc) (.int .i64 (prsG s).start);obtain ⟨y0,y1,y2,y3,y4⟩:=cells5m q10;clear q10 c0))
 refine bodyPost_ret (v:=.tuple #[gmA (.slice ra (prsG s).rules.length rc) (.slice na (prsG s).nonts.length nc) (.slice la (prsG s).levels.length lc) (.slice pa (prsG s).prods.length pc) (prsG s).start,.int .i64 0,.int .i64 0]) (by simp [results,Tryz.results22,go_sem,y0,y1,y2,y3,y4]) rfl ⟨_,_,_,_,rfl,hG.out,hB.out⟩
set_option maxRecDepth 20000 in
set_option maxHeartbeats 8000000 in
theorem parseFault12 (s:Txt) (w:World) (hs:s.length ≤ 1000000) (h0:(wrdA s).2.2 = 0) (he:(rdS s).settle.err ≠ 0) :
 Calls Tryz.prog 22 #[.string (strT s)] w fun e w' => e = .returned (.tuple #[gmZ,.int .i64 ((rdS s).settle.pl:Int),.int .i64 (rdS s).settle.err]) ∧ Below w.heap.size w w':=by
 have hP:=hid (parseP s w hs h0)
 obtain ⟨W,hW⟩:∃ y,w.alloc gm0 = y:=⟨_,rfl⟩
 rw [hW] at hP
 have G:=hid (allC s W (by omega))
 rw [h0] at G
 have hfin:=hid (fun rb V (h:PaF s w rb V) => h.fault)
 have hez:((rdS s).settle.err != 0) = true:=bne_iff_ne.2 he
 clear he h0
 generalize (wrdA s).1 = l at *
 generalize (wrdA s).2.1 = ap at *
 generalize strT s = S at *
 generalize (rdS s).settle.err = er at *
 generalize (rdS s).settle.pl = pl at *
 go_enter Tryz.func22,Tryz.ntmps22
 go_wp2_with (first
  | (go_at_call 39;refine G.out.mono ?_;clear G;rintro e u ⟨v,rfl,hM⟩;obtain ⟨A,n,C,u6,hrun,hI⟩:=hP.out u v hM;clear hP hM;have hI:=hid hI)
  | (at_builtin;refine wp_run _ rfl _ _ _ rfl _ _ rfl rfl hrun ?_;clear hrun)
  | (go_at_call 40;refine hI.out.mono ?_;clear hI;rintro e u7 ⟨rfl,hI2⟩;have hI2:=hid hI2)
  | (go_at_call 41;refine hI2.out.mono ?_;clear hI2;rintro e V ⟨rfl,hF⟩;obtain ⟨c0,c6,c7,d6,d7,hB⟩:=hfin.out _ _ hF;clear hfin hF;have hB:=hid hB;obtain ⟨⟨q0,q1⟩,⟨q2,q3⟩,⟨q4,q5⟩,⟨q6,q7⟩,⟨q8,q9⟩,q10⟩:=putT5 c0 (.slice none 0 0) (.slice none 0 0) (.slice none 0 0) (.slice none 0 0) (.int .i64 0);obtain ⟨y0,y1,y2,y3,y4⟩:=cells5m q10;clear q10 c0))
 go_region
 all_goals
  go_wp2
  refine bodyPost_ret (v:=.tuple #[gmZ,.int .i64 (pl:Int),.int .i64 er]) (by simp [results,Tryz.results22,go_sem,y0,y1,y2,y3,y4]) rfl ⟨rfl,hB.out.drew⟩
end Go.Proofs.YtfhokapfkclckaaGreat
