/- What was read is within the limits: its names too. Layer 13: what is sound. Layer 13: what is sound; what was read is. Layer 13: what was read is sound. -/
import Derived.Test.YtbpnioehmohbcaaGreatJ21
import Derived.Test.YtbpnioehmohbcaaGreatJ14
import Derived.Test.YtbpnioehmohbcaaGreatJ15
namespace Go.Proofs.YtbpnioehmohbcaaGreat
structure SameR (a b:RS):Prop where
 rules:b.rules = a.rules
 nonts:b.nonts = a.nonts
 err:b.err = 0 → a.err = 0
theorem SameR.refl (a:RS):SameR a a:=⟨rfl,rfl,id⟩
theorem SameR.trans {a b c:RS} (h:SameR a b) (g:SameR b c):SameR a c:=⟨g.rules.trans h.rules,g.nonts.trans h.nonts,fun e => h.err (g.err e)⟩
theorem SameL.r {a b:RS} (h:SameL a b):SameR a b:=⟨h.rules,h.nonts,h.err⟩
theorem SameR.take (st:RS) (b:Bool):SameR st (st.take b):=(SameL.take st b).r
theorem SameR.full (st:RS) (b:Bool) (p:Nat):SameR st (st.full b p):=(SameL.full st b p).r
theorem SameR.thn (st:RS) (s:Stp):SameR st (st.thn s):=⟨rfl,rfl,id⟩
theorem SameR.lvds (p s:Nat):∀ (n:Nat) (st:RS),SameR st (RS.lvds p s n st)
 | 0,st => SameR.refl st
 | n + 1,st => by
  rw [RS.lvds]
  split
  · exact ((SameR.take _ _).trans (SameR.thn _ _)).trans (SameR.lvds p s n (st.lvd p s))
  · exact SameR.refl st
theorem SameR.level (st:RS):SameR st st.level:=by
 have h1:SameR st st.lv1:=⟨rfl,rfl,id⟩
 unfold RS.level
 exact (((h1.trans (SameR.take _ _)).trans ((SameR.take _ _).trans (SameR.thn _ _))).trans (SameR.lvds _ _ _ _)).trans (SameR.take _ _)
theorem SameR.start (st:RS):SameR st st.start:=by
 have h1:SameR st st.st1:=⟨rfl,rfl,id⟩
 unfold RS.start
 exact ((((h1.trans (SameR.take _ _)).trans (SameR.thn _ _)).trans (SameR.take _ _)).trans (SameR.take _ _)).trans (SameR.thn _ _)
theorem SameR.syms (pr:Nat):∀ (f n:Nat) (st:RS),SameR st (RS.syms pr f n st)
 | 0,_,st => SameR.refl st
 | f + 1,n,st => by
  rw [RS.syms]
  split
  · exact (((SameR.full _ _ _).trans (SameR.take _ _)).trans (SameR.thn _ _)).trans (SameR.syms pr f (n + 1) ((st.full (decide (n = 8)) st.hd.2.1).symb pr))
  · exact SameR.refl st
theorem SameR.alt (st:RS):SameR st st.alt:=by
 have h1:SameR st st.alt1:=(SameR.full st (decide (st.prods.length = 40) && st.inA) st.hd.2.1).trans ⟨rfl,rfl,id⟩
 unfold RS.alt RS.pct
 split
 · exact (((h1.trans (SameR.syms _ _ _ _)).trans (SameR.take _ _)).trans (SameR.take _ _)).trans (SameR.thn _ _)
 · exact h1.trans (SameR.syms _ _ _ _)
theorem SameR.alts:∀ (f:Nat) (st:RS),SameR st (RS.alts f st)
 | 0,st => SameR.refl st
 | f + 1,st => by
  rw [RS.alts]
  split
  · exact ((SameR.take _ _).trans (SameR.alt _)).trans (SameR.alts f _)
  · exact SameR.refl st
abbrev Wd16 (x:Wd):Prop:=x.1 = 1 → x.2.2.length ≤ 16
def NmI (st:RS):Prop:=st.err = 0 → (∀ r ∈ st.rules,r.name.length ≤ 16) ∧ ∀ t ∈ st.nonts,t.length ≤ 16
theorem NmI.same {a b:RS} (h:NmI a) (m:SameR a b):NmI b:=fun e => by rw [m.rules,m.nonts];exact h (m.err e)
theorem atN_one {st:RS} (h:st.atN = true):st.hd.1 = 1:=by
 unfold RS.atN at h
 simp only [Bool.and_eq_true,decide_eq_true_eq] at h
 exact h.1
theorem NmI.rule {st:RS} (h:NmI st) (hi:Inv Wd16 st):NmI st.rule:=by
 intro e
 have i1:Inv Wd16 st.rule1:=(hi.take true).full _ _
 have hx:=i1.hd (fun e => by cases e)
 have m:SameL st (st.rule1.tkN.cells.tkS [59]):=(((SameL.rule1 st).trans (SameL.tkN _)).trans (SameL.cells _)).trans (SameL.tkS _ _)
 unfold RS.rule RS.rule2 at e ⊢
 generalize hd:st.rule1.hd = x at e hx ⊢
 have e4:(st.rule1.tkN.cells.tkS [59]).err = 0:=by
  have e':(((st.rule1.tkN.cells.tkS [59]).addR ⟨x.2.2,(rxA st.rule1.tkN.hd.2.2).1,decide (st.hd.2.2 = kSkip)⟩).addW x (decide (st.hd.2.2 = kSkip))).err = 0:=e
  rw [addW_err] at e'
  exact e'
 obtain ⟨-,e3⟩:=take_err e4
 obtain ⟨-,e3'⟩:=fail_err e3
 obtain ⟨-,e2⟩:=take_err e3'
 obtain ⟨hN,-⟩:=take_err e2
 have h1:=atN_one hN
 rw [hd] at h1
 obtain ⟨a,b⟩:=h (m.err e4)
 have hr:∀ r' ∈ (st.rule1.tkN.cells.tkS [59]).rules ++ [⟨x.2.2,(rxA st.rule1.tkN.hd.2.2).1,decide (st.hd.2.2 = kSkip)⟩],r'.name.length ≤ 16:=fun r' hr => by
  rw [List.mem_append,List.mem_singleton] at hr
  rcases hr with hr | rfl
  · rw [m.rules] at hr;exact a r' hr
  · exact hx h1
 have hn:∀ t ∈ (st.rule1.tkN.cells.tkS [59]).nonts,t.length ≤ 16:=by rw [m.nonts];exact b
 unfold RS.addW
 split
 · exact ⟨hr,hn⟩
 · exact ⟨hr,hn⟩
theorem NmI.nont {st:RS} (h:NmI st) (hi:Inv Wd16 st):NmI st.nont:=by
 have hx:=hi.hd (fun e => by cases e)
 have m:SameL st ((st.tkN.full (decide (st.nonts.length = 16)) st.hd.2.1).tkS [58]):=((SameL.take _ _).trans (SameL.full _ _ _)).trans (SameL.take _ _)
 have h0:NmI st.nont0:=by
  intro e
  have e3:((st.tkN.full (decide (st.nonts.length = 16)) st.hd.2.1).tkS [58]).err = 0:=e
  obtain ⟨-,e2⟩:=take_err e3
  obtain ⟨-,e1⟩:=full_err e2
  obtain ⟨hN,e0⟩:=take_err e1
  obtain ⟨a,b⟩:=h e0
  refine ⟨?_,fun t ht => ?_⟩
  · show ∀ r ∈ ((st.tkN.full (decide (st.nonts.length = 16)) st.hd.2.1).tkS [58]).rules,r.name.length ≤ 16
    rw [m.rules];exact a
  · have ht:t ∈ ((st.tkN.full (decide (st.nonts.length = 16)) st.hd.2.1).tkS [58]).nonts ++ [st.hd.2.2]:=ht
    rw [List.mem_append,List.mem_singleton,m.nonts] at ht
    rcases ht with ht | rfl
    · exact b t ht
    · exact hx (atN_one hN)
 exact ((h0.same (SameR.alt _)).same (SameR.alts _ _)).same (SameR.take _ _)
theorem NmI.item {st:RS} (h:NmI st) (hi:Inv Wd16 st):NmI st.item:=by
 unfold RS.item
 split
 · exact h.same (SameL.give _ _ (by decide)).r
 · split
   · exact h.rule hi
   · split
     · exact h.same (SameR.start st)
     · split
       · exact h.same (SameR.level st)
       · exact h.nont hi
theorem NmI.items:∀ (f:Nat) (st:RS),NmI st → Inv Wd16 st → NmI (RS.items f st)
 | 0,_,h,_ => h
 | f + 1,st,h,hi => by
  rw [RS.items]
  split
  · exact NmI.items f _ (h.item hi) (Inv.item (fun e => by cases e) hi)
  · exact h
theorem endL_let {u:Txt} {n:Nat} (h:endL u = some n) (hl:letB (u.headD 0).toNat = true):n ≤ 16:=by
 cases u with
 | nil => cases h
 | cons c r =>
  have hl:letB c.toNat = true:=hl
  rw [endL] at h
  split at h
  · injection h with h;omega
  · split at h
    · cases h
    · injection h with h;omega
theorem wdOf_16 {T:Txt} {a n:Nat} (h:endL (T.drop a) = some n):Wd16 (wdOf T a n):=by
 intro h1
 have hl:letB ((T.drop a).headD 0).toNat = true:=by
  have h1:kndW ((T.drop a).headD 0).toNat = 1:=h1
  unfold kndW at h1
  split at h1
  · assumption
  · split at h1 <;> cases h1
 have hn:=endL_let h hl
 rw [wdOf_name rfl hl]
 show ((T.drop a).take n).length ≤ 16
 rw [List.length_take];omega
theorem wrdR_16 (T:Txt):∀ (f a:Nat) (l:List Wd),(∀ x ∈ l,Wd16 x) → ∀ x ∈ (wrdR T f a l).1,Wd16 x
 | 0,_,_,h => h
 | f + 1,a,l,h => by
  rw [wrdR]
  split
  · exact h
  · split
    · exact fun x hx => absurd hx List.not_mem_nil
    · rename_i n hn
      refine wrdR_16 T f _ _ (fun x hx => ?_)
      rw [List.mem_append,List.mem_singleton] at hx
      rcases hx with hx | rfl
      · exact h x hx
      · exact wdOf_16 hn
theorem wsE_16 (s:Txt):∀ x ∈ wsE s,Wd16 x:=fun x hx => by
 unfold wsE at hx
 rw [List.mem_append,List.mem_singleton] at hx
 rcases hx with hx | rfl
 · unfold wrdA at hx
   split at hx
   · exact absurd hx List.not_mem_nil
   · exact wrdR_16 s _ _ [] (fun x hx => absurd hx List.not_mem_nil) x hx
 · exact fun e => by cases e
theorem setL_start_le {F:Txt → Ow} {a b:Nat} (hF:∀ t,OwG a b (F t)):∀ (l:List Stp) (f:FS),f.start ≤ (b:Int) → (setL F l f).start ≤ (b:Int)
 | [],_,h => h
 | s :: l,f,h => by
  rw [setL]
  split
  · exact h
  · refine setL_start_le hF l _ ?_
    obtain ⟨o1,o2⟩:=hF s.w.2.2
    have h9:(stpF F s f).1.start ≤ (b:Int):=by
     by_cases k4:s.k = 4
     · unfold stpF
       have k1:s.k ≠ 1:=by omega
       have k2:s.k ≠ 2:=by omega
       have k3:s.k ≠ 3:=by omega
       rw [if_neg k1,if_neg k2,if_neg k3,if_pos k4]
       show ((F s.w.2.2).2.2:Int) ≤ (b:Int)
       omega
     · have:(stpF F s f).1.start = f.start:=by
        unfold stpF
        rw [if_neg k4]
        repeat (first | rfl | split)
       rw [this]
       exact h
    unfold FS.fail
    split
    · exact h9
    · exact h9
structure ReadG (g:Gm):Prop where
 snd:SoundG g
 rules:g.rules.length ≤ 16
 nonts:g.nonts.length ≤ 16
 prods:g.prods.length ≤ 40
 rname:∀ r ∈ g.rules,r.name.length ≤ 16
 nname:∀ t ∈ g.nonts,t.length ≤ 16
 re:∀ r ∈ g.rules,rightB r.re = true ∧ r.re.length ≤ 60
 st:g.start ≤ (g.all:Int)
theorem prs_read {s:Txt} {g:Gm} (h:prs s = some g):ReadG g:=by
 have hS:=prs_sound h
 obtain ⟨h0,he,h1,rfl⟩:=prs_some h
 have hG:=rdS_gd s h1
 have hL:=rdS_lp s h1
 obtain ⟨l1,l2⟩:=setL_lens (F:=(rdS s).fnd) (rdS s).later (rdS s).fs
 obtain ⟨n1,n2⟩:=NmI.items (wsE s).length (RS.init (wsE s)) (fun _ => ⟨fun _ h => absurd h List.not_mem_nil,fun _ h => absurd h List.not_mem_nil⟩) ⟨wsE_16 s,fun _ h => absurd h List.not_mem_nil,fun _ h => absurd h List.not_mem_nil,fun _ h => absurd h List.not_mem_nil,fun _ h => absurd h List.not_mem_nil,fun _ h => absurd h List.not_mem_nil⟩ h1
 have hA:=rdS_ia s
 have hF:=fnd_good (rdS s)
 rw [← hA.trm,hA.nlen] at hF
 refine ⟨hS,hG.lr,hG.ln,?_,n1,n2,fun r hr => ?_,?_⟩
 · show (setL (rdS s).fnd (rdS s).later (rdS s).fs).prods.length ≤ 40
   rw [l2]
   show ((rdS s).prods.map _).length ≤ 40
   rw [List.length_map];exact hL
 · obtain ⟨t,e1,e2⟩:=hG.rx r hr
   rw [e1]
   exact rxA_right e2
 · show (setL (rdS s).fnd (rdS s).later (rdS s).fs).start ≤ (((rdS s).trm + (rdS s).nonts.length:Nat):Int)
   refine setL_start_le hF _ _ ?_
   show (if 0 < (rdS s).nonts.length then ((rdS s).trm:Int) + 1 else 0) ≤ _
   split <;> omega
end Go.Proofs.YtbpnioehmohbcaaGreat
namespace Go.Proofs.YtbpnioehmohbcaaGreat
structure NamT (s:Txt):Prop where
 len:s.length ≤ 16
 head:∃ c r,s = c :: r ∧ letB c.toNat = true
 all:∀ c ∈ s,(letB c.toNat || digB c.toNat) = true
def namB (s:Txt):Bool:=decide (s.length ≤ 16) && (match s with | [] => false | c :: _ => letB c.toNat) && s.all (fun c => letB c.toNat || digB c.toNat) && !kwB s
theorem namB_of {s:Txt} (h:NamT s) (hk:kwB s = false):namB s = true:=by
 obtain ⟨h1,⟨c,r,rfl,h2⟩,h3⟩:=h
 unfold namB
 simp only [Bool.and_eq_true,decide_eq_true_eq,Bool.not_eq_true',List.all_eq_true]
 exact ⟨⟨⟨h1,h2⟩,h3⟩,hk⟩
def Gm.allN (g:Gm):List Txt:=g.rules.map Rl.name ++ g.nonts
def lvB (i:Nat) (l:Int × Int):Bool:=(decide (l.1 = 0) && decide (l.2 = 0)) || (decide (0 < l.1) && decide (0 < l.2) && decide (l.2 < 4) && decide (i ≠ 0))
def pdB (g:Gm) (p:Pd):Bool:=decide ((g.terms:Int) < p.left) && decide (p.left ≤ (g.all:Int)) && decide (p.right.length ≤ 8) && decide (0 ≤ p.prec) && decide (p.prec ≤ (g.terms:Int)) && p.right.all (fun k => decide (1 ≤ k) && decide (k ≤ (g.all:Int)))
structure SndG (g:Gm):Prop where
 rules:g.rules.length ≤ 16
 nonts:g.nonts.length ≤ 16
 prods:g.prods.length ≤ 40
 right:∀ r ∈ g.rules,rightB r.re = true
 named:∀ t ∈ g.allN,namB t = true
 once:g.allN.Nodup
 levels:g.levels.length = g.terms + 1
 lev:∀ i (h:i < g.levels.length),lvB i g.levels[i] = true
 none:g.nonts.length = 0 → g.start = 0
 start:0 < g.nonts.length → (g.terms:Int) < g.start ∧ g.start ≤ (g.all:Int)
 prod:∀ p ∈ g.prods,pdB g p = true
end Go.Proofs.YtbpnioehmohbcaaGreat
namespace Go.Proofs.YtbpnioehmohbcaaGreat
theorem namL_all:∀ (u:Txt) (c:UInt8),c ∈ u.take (namL u) → (letB c.toNat || digB c.toNat) = true
 | [],c,h => by simp at h
 | d :: r,c,h => by
  rw [namL] at h
  split at h
  · rename_i hd
    rw [Nat.add_comm,List.take_succ_cons] at h
    rcases List.mem_cons.1 h with rfl | h
    · exact hd
    · exact namL_all r c h
  · simp at h
theorem endL_name {c:UInt8} {r:Txt} {n:Nat} (h:endL (c :: r) = some n) (hl:letB c.toNat = true):n ≤ 16 ∧ n = namL (c :: r) ∧ 1 ≤ n:=by
 rw [endL] at h
 have hs:sgnB c.toNat = false:=by
  unfold letB at hl
  unfold sgnB
  simp only [Bool.or_eq_true,Bool.and_eq_true,beq_iff_eq,decide_eq_true_eq] at hl
  simp only [Bool.or_eq_false_iff,beq_eq_false_iff_ne]
  omega
 rw [hs,if_neg (by decide),if_pos hl] at h
 split at h
 · cases h
 · injection h with h
   refine ⟨by omega,h.symm,?_⟩
   rw [← h,namL,hl,Bool.true_or,if_pos rfl]
   omega
abbrev WdN (x:Wd):Prop:=x.1 = 1 → NamT x.2.2
theorem wdOf_N {T:Txt} {a n:Nat} (h:endL (T.drop a) = some n):WdN (wdOf T a n):=by
 intro h1
 have hl:letB ((T.drop a).headD 0).toNat = true:=by
  have h1:kndW ((T.drop a).headD 0).toNat = 1:=h1
  unfold kndW at h1
  split at h1
  · assumption
  · split at h1 <;> cases h1
 rw [wdOf_name rfl hl]
 show NamT ((T.drop a).take n)
 cases hd:T.drop a with
 | nil => rw [hd] at h;cases h
 | cons c r =>
  rw [hd] at h hl
  obtain ⟨h16,hn,h1n⟩:=endL_name h hl
  refine ⟨by rw [List.length_take];omega,?_,?_⟩
  · obtain ⟨m,rfl⟩:∃ m,n = m + 1:=⟨n - 1,by omega⟩
    exact ⟨c,r.take m,by rw [List.take_succ_cons],hl⟩
  · rw [hn]
    exact fun c' hc => namL_all (c :: r) c' hc
theorem wrdR_N (T:Txt):∀ (f a:Nat) (l:List Wd),(∀ x ∈ l,WdN x) → ∀ x ∈ (wrdR T f a l).1,WdN x
 | 0,_,_,h => h
 | f + 1,a,l,h => by
  rw [wrdR]
  split
  · exact h
  · split
    · exact fun x hx => absurd hx List.not_mem_nil
    · rename_i n hn
      refine wrdR_N T f _ _ (fun x hx => ?_)
      rw [List.mem_append,List.mem_singleton] at hx
      rcases hx with hx | rfl
      · exact h x hx
      · exact wdOf_N hn
theorem wsE_N (s:Txt):∀ x ∈ wsE s,WdN x:=fun x hx => by
 unfold wsE at hx
 rw [List.mem_append,List.mem_singleton] at hx
 rcases hx with hx | rfl
 · unfold wrdA at hx
   split at hx
   · exact absurd hx List.not_mem_nil
   · exact wrdR_N s _ _ [] (fun x hx => absurd hx List.not_mem_nil) x hx
 · exact fun e => by cases e
structure Gd2 (st:RS) (rw:List Wd):Prop where
 eq:rw.map (fun w => w.2.2) = st.rules.map Rl.name
 pw:rw.Pairwise Bef
 bw:∀ x ∈ rw,∀ y ∈ st.ws,Bef x y
 xn:∀ x ∈ rw,∀ y ∈ st.nons,x.2.1 ≠ y.2.1
 told:∀ x ∈ rw,x ∈ st.skips ∨ x ∈ st.terms
 on:∀ x ∈ rw,∃ s ∈ st.later,s.k = 1 ∧ s.w = x
 nam:∀ x ∈ rw,NamT x.2.2 ∧ kwB x.2.2 = false
 non:∀ x ∈ st.nons,NamT x.2.2 ∧ kwB x.2.2 = false
def GdE (st:RS):Prop:=st.err = 0 → ∃ rw,Gd2 st rw
structure MvT (a b:RS):Prop where
 rules:b.rules = a.rules
 skips:b.skips = a.skips
 terms:b.terms = a.terms
 nons:b.nons = a.nons
 later:∀ s ∈ a.later,s ∈ b.later
 err:b.err = 0 → a.err = 0
 ws:b.ws <:+ a.ws
theorem MvT.refl (a:RS):MvT a a:=⟨rfl,rfl,rfl,rfl,fun _ h => h,id,List.suffix_refl _⟩
theorem MvT.trans {a b c:RS} (h:MvT a b) (g:MvT b c):MvT a c:=⟨g.rules.trans h.rules,g.skips.trans h.skips,g.terms.trans h.terms,g.nons.trans h.nons,fun s hs => g.later s (h.later s hs),fun e => h.err (g.err e),g.ws.trans h.ws⟩
theorem Mv.t {a b:RS} (m:Mv a b):MvT a b:=⟨m.same.rules,m.same.skips,m.same.terms,m.same.nons,fun s hs => by rw [m.same.later];exact hs,m.same.err,m.suf⟩
theorem MvT.thn (st:RS) (s:Stp):MvT st (st.thn s):=⟨rfl,rfl,rfl,rfl,fun _ h => List.mem_append_left _ h,id,List.suffix_refl _⟩
theorem MvT.take (st:RS) (b:Bool):MvT st (st.take b):=(Mv.take st b).t
theorem MvT.full (st:RS) (b:Bool) (p:Nat):MvT st (st.full b p):=(Mv.full st b p).t
theorem Gd2.mv {a b:RS} {rw:List Wd} (h:Gd2 a rw) (m:MvT a b):Gd2 b rw:=by
 refine ⟨by rw [m.rules];exact h.eq,h.pw,fun x hx y hy => h.bw x hx y (m.ws.subset hy),by rw [m.nons];exact h.xn,by rw [m.skips,m.terms];exact h.told,fun x hx => ?_,h.nam,by rw [m.nons];exact h.non⟩
 obtain ⟨s,h1,h2⟩:=h.on x hx
 exact ⟨s,m.later s h1,h2⟩
theorem GdE.mv {a b:RS} (h:GdE a) (m:MvT a b):GdE b:=fun e => by
 obtain ⟨rw,g⟩:=h (m.err e)
 exact ⟨rw,g.mv m⟩
theorem MvT.lvds (p s:Nat):∀ (n:Nat) (st:RS),MvT st (RS.lvds p s n st)
 | 0,st => MvT.refl st
 | n + 1,st => by
  rw [RS.lvds]
  split
  · exact ((MvT.take _ _).trans (MvT.thn _ _)).trans (MvT.lvds p s n (st.lvd p s))
  · exact MvT.refl st
theorem MvT.level (st:RS):MvT st st.level:=by
 have h1:MvT st st.lv1:=⟨rfl,rfl,rfl,rfl,fun _ h => h,id,List.suffix_refl _⟩
 unfold RS.level
 exact (((h1.trans (MvT.take _ _)).trans ((MvT.take _ _).trans (MvT.thn _ _))).trans (MvT.lvds _ _ _ _)).trans (MvT.take _ _)
theorem MvT.start (st:RS):MvT st st.start:=by
 have h1:MvT st st.st1:=⟨rfl,rfl,rfl,rfl,fun _ h => h,id,List.suffix_refl _⟩
 unfold RS.start
 exact ((((h1.trans (MvT.take _ _)).trans (MvT.thn _ _)).trans (MvT.take _ _)).trans (MvT.take _ _)).trans (MvT.thn _ _)
theorem MvT.syms (pr:Nat):∀ (f n:Nat) (st:RS),MvT st (RS.syms pr f n st)
 | 0,_,st => MvT.refl st
 | f + 1,n,st => by
  rw [RS.syms]
  split
  · exact (((MvT.full _ _ _).trans (MvT.take _ _)).trans (MvT.thn _ _)).trans (MvT.syms pr f (n + 1) ((st.full (decide (n = 8)) st.hd.2.1).symb pr))
  · exact MvT.refl st
theorem MvT.alt (st:RS):MvT st st.alt:=by
 have h1:MvT st st.alt1:=(MvT.full st (decide (st.prods.length = 40) && st.inA) st.hd.2.1).trans ⟨rfl,rfl,rfl,rfl,fun _ h => h,id,List.suffix_refl _⟩
 unfold RS.alt RS.pct
 split
 · exact (((h1.trans (MvT.syms _ _ _ _)).trans (MvT.take _ _)).trans (MvT.take _ _)).trans (MvT.thn _ _)
 · exact h1.trans (MvT.syms _ _ _ _)
theorem MvT.alts:∀ (f:Nat) (st:RS),MvT st (RS.alts f st)
 | 0,st => MvT.refl st
 | f + 1,st => by
  rw [RS.alts]
  split
  · exact ((MvT.take _ _).trans (MvT.alt _)).trans (MvT.alts f _)
  · exact MvT.refl st
theorem atN_kw {st:RS} (h:st.atN = true):st.hd.1 = 1 ∧ kwB st.hd.2.2 = false:=by
 unfold RS.atN at h
 simp only [Bool.and_eq_true,decide_eq_true_eq,Bool.not_eq_true'] at h
 exact h
theorem GdE.rule {st:RS} (h:GdE st) (hg:GdI st) (hi:Inv WdN st):GdE st.rule:=by
 intro e
 have i1:Inv WdN st.rule1:=(hi.take true).full _ _
 have hx:=i1.hd (fun e => by cases e)
 have m1:Mv st st.rule1:=(Mv.take _ _).trans (Mv.full _ _ _)
 unfold RS.rule RS.rule2 at e ⊢
 generalize hd:st.rule1.hd = x at e hx ⊢
 have e4:(st.rule1.tkN.cells.tkS [59]).err = 0:=by
  have e':(((st.rule1.tkN.cells.tkS [59]).addR ⟨x.2.2,(rxA st.rule1.tkN.hd.2.2).1,decide (st.hd.2.2 = kSkip)⟩).addW x (decide (st.hd.2.2 = kSkip))).err = 0:=e
  rw [addW_err] at e'
  exact e'
 obtain ⟨-,e3⟩:=take_err e4
 obtain ⟨-,e3'⟩:=fail_err e3
 obtain ⟨-,e2⟩:=take_err e3'
 obtain ⟨hN,e1⟩:=take_err e2
 obtain ⟨-,e0'⟩:=full_err e1
 obtain ⟨-,e0⟩:=take_err e0'
 obtain ⟨k1,k2⟩:=atN_kw hN
 rw [hd] at k1 k2
 have g1:=(hg e0).mv m1
 obtain ⟨t1,t2,t3⟩:=g1.took hN
 rw [hd] at t1 t2 t3
 have m4:Mv st.rule1.tkN (st.rule1.tkN.cells.tkS [59]):=(Mv.cells _).trans (Mv.take _ _)
 have m5:Mv st.rule1 (st.rule1.tkN.cells.tkS [59]):=(Mv.take _ _).trans m4
 have m6:Mv st (st.rule1.tkN.cells.tkS [59]):=m1.trans m5
 obtain ⟨rw',g⟩:=h e0
 have hxw:x ∈ st.rule1.ws:=by rw [atN_ws hN,hd];exact List.mem_cons_self
 have hbx:∀ y ∈ rw',Bef y x:=fun y hy => (g.mv m1.t).bw y hy x hxw
 have g4:=g.mv m6.t
 have hn4:∀ y ∈ (st.rule1.tkN.cells.tkS [59]).nons,Bef y x:=fun y hy => t3 y (by rw [m5.same.nons] at hy;exact hy)
 have hw4:∀ y ∈ (st.rule1.tkN.cells.tkS [59]).ws,Bef x y:=fun y hy => t1 y (m4.suf.subset hy)
 generalize st.rule1.tkN.cells.tkS [59] = s4 at g4 hn4 hw4
 generalize (rxA st.rule1.tkN.hd.2.2).1 = cs
 generalize decide (st.hd.2.2 = kSkip) = sk
 have hmem:∀ y,y ∈ rw' ++ [x] → y ∈ rw' ∨ y = x:=fun y hy => by rw [List.mem_append,List.mem_singleton] at hy;exact hy
 refine ⟨rw' ++ [x],?_,?_,?_,?_,?_,?_,?_,?_⟩
 · have:(((s4.addR ⟨x.2.2,cs,sk⟩).addW x sk).once x).rules = s4.rules ++ [⟨x.2.2,cs,sk⟩]:=by unfold RS.addW;cases sk <;> rfl
   rw [this,List.map_append,List.map_append,g4.eq]
   rfl
 · rw [List.pairwise_append]
   exact ⟨g4.pw,List.pairwise_singleton _ _,fun a ha b hb => by rw [List.mem_singleton] at hb;subst hb;exact hbx a ha⟩
 · have:(((s4.addR ⟨x.2.2,cs,sk⟩).addW x sk).once x).ws = s4.ws:=by unfold RS.addW;cases sk <;> rfl
   rw [this]
   intro y hy z hz
   rcases hmem y hy with hy | rfl
   · exact g4.bw y hy z hz
   · exact hw4 z hz
 · have:(((s4.addR ⟨x.2.2,cs,sk⟩).addW x sk).once x).nons = s4.nons:=by unfold RS.addW;cases sk <;> rfl
   rw [this]
   intro y hy z hz
   rcases hmem y hy with hy | rfl
   · exact g4.xn y hy z hz
   · exact fun e => absurd (hn4 z hz) (by unfold Bef;omega)
 · intro y hy
   cases sk with
   | true =>
    rcases hmem y hy with hy | rfl
    · rcases g4.told y hy with h9 | h9
      · exact .inl (List.mem_append_left _ h9)
      · exact .inr h9
    · exact .inl (List.mem_append_right _ (List.mem_singleton.2 rfl))
   | false =>
    rcases hmem y hy with hy | rfl
    · rcases g4.told y hy with h9 | h9
      · exact .inl h9
      · exact .inr (List.mem_append_left _ h9)
    · exact .inr (List.mem_append_right _ (List.mem_singleton.2 rfl))
 · have:(((s4.addR ⟨x.2.2,cs,sk⟩).addW x sk).once x).later = s4.later ++ [⟨1,x,0,0⟩]:=by unfold RS.addW;cases sk <;> rfl
   rw [this]
   intro y hy
   rcases hmem y hy with hy | rfl
   · obtain ⟨s,h1,h2⟩:=g4.on y hy
     exact ⟨s,List.mem_append_left _ h1,h2⟩
   · exact ⟨_,List.mem_append_right _ (List.mem_singleton.2 rfl),rfl,rfl⟩
 · intro y hy
   rcases hmem y hy with hy | rfl
   · exact g4.nam y hy
   · exact ⟨hx k1,k2⟩
 · have:(((s4.addR ⟨x.2.2,cs,sk⟩).addW x sk).once x).nons = s4.nons:=by unfold RS.addW;cases sk <;> rfl
   rw [this]
   exact g4.non
theorem GdE.nont {st:RS} (h:GdE st) (hg:GdI st) (hi:Inv WdN st):GdE st.nont:=by
 have hx:=hi.hd (fun e => by cases e)
 have h0:GdE st.nont0:=by
  intro e
  have e3:((st.tkN.full (decide (st.nonts.length = 16)) st.hd.2.1).tkS [58]).err = 0:=e
  obtain ⟨-,e2⟩:=take_err e3
  obtain ⟨-,e1⟩:=full_err e2
  obtain ⟨hN,e0⟩:=take_err e1
  obtain ⟨k1,k2⟩:=atN_kw hN
  obtain ⟨t1,t2,t3⟩:=(hg e0).took hN
  have hxw:st.hd ∈ st.ws:=by rw [atN_ws hN];exact List.mem_cons_self
  obtain ⟨rw',g⟩:=h e0
  have hbx:∀ y ∈ rw',Bef y st.hd:=fun y hy => g.bw y hy _ hxw
  have m2:Mv st.tkN ((st.tkN.full (decide (st.nonts.length = 16)) st.hd.2.1).tkS [58]):=(Mv.full _ _ _).trans (Mv.take _ _)
  have m3:Mv st ((st.tkN.full (decide (st.nonts.length = 16)) st.hd.2.1).tkS [58]):=(Mv.take _ _).trans m2
  have g3:=g.mv m3.t
  unfold RS.nont0
  generalize (st.tkN.full (decide (st.nonts.length = 16)) st.hd.2.1).tkS [58] = s3 at g3
  generalize st.hd = x at *
  refine ⟨rw',g3.eq,g3.pw,g3.bw,fun y hy z hz => ?_,g3.told,fun y hy => ?_,g3.nam,fun y hy => ?_⟩
  · have hz:z ∈ s3.nons ++ [x]:=hz
    rw [List.mem_append,List.mem_singleton] at hz
    rcases hz with hz | rfl
    · exact g3.xn y hy z hz
    · exact fun e => absurd (hbx y hy) (by unfold Bef;omega)
  · obtain ⟨s,h1,h2⟩:=g3.on y hy
    exact ⟨s,List.mem_append_left _ h1,h2⟩
  · have hy:y ∈ s3.nons ++ [x]:=hy
    rw [List.mem_append,List.mem_singleton] at hy
    rcases hy with hy | rfl
    · exact g3.non y hy
    · exact ⟨hx k1,k2⟩
 exact ((h0.mv (MvT.alt _)).mv (MvT.alts _ _)).mv (MvT.take _ _)
theorem GdE.item {st:RS} (h:GdE st) (hg:GdI st) (hi:Inv WdN st):GdE st.item:=by
 unfold RS.item
 split
 · exact fun e => absurd e (give_err (by decide))
 · split
   · exact h.rule hg hi
   · split
     · exact h.mv (MvT.start st)
     · split
       · exact h.mv (MvT.level st)
       · exact h.nont hg hi
theorem Inv.imp {P Q:Wd → Prop} {st:RS} (h:Inv P st) (hpq:∀ x,P x → Q x):Inv Q st:=⟨fun x hx => hpq x (h.ws x hx),fun x hx => hpq x (h.sk x hx),fun x hx => hpq x (h.te x hx),fun x hx => hpq x (h.no x hx),fun s hs => ⟨hpq _ (h.la s hs).1,(h.la s hs).2⟩,h.pr⟩
theorem GdE.items:∀ (f:Nat) (st:RS),GdE st → GdI st → Inv WdN st → GdE (RS.items f st)
 | 0,_,h,_,_ => h
 | f + 1,st,h,hg,hi => by
  rw [RS.items]
  split
  · exact GdE.items f _ (h.item hg hi) (hg.item (hi.imp fun _ _ => trivial)) (Inv.item (fun e => by cases e) hi)
  · exact h
end Go.Proofs.YtbpnioehmohbcaaGreat
namespace Go.Proofs.YtbpnioehmohbcaaGreat
abbrev LvS (s:Stp):Prop:=s.k = 2 → 1 ≤ s.a ∧ 1 ≤ s.b ∧ s.b ≤ 3
def LaQ (st:RS):Prop:=∀ s ∈ st.later,LvS s
theorem LaQ.same {a b:RS} (h:LaQ a) (m:SameL a b):LaQ b:=fun s hs => h s (by rw [m.later] at hs;exact hs)
theorem LaQ.thn {st:RS} (h:LaQ st) {s:Stp} (hs:LvS s):LaQ (st.thn s):=fun x hx => by
 have hx:x ∈ st.later ++ [s]:=hx
 rw [List.mem_append,List.mem_singleton] at hx
 rcases hx with hx | rfl
 · exact h x hx
 · exact hs
theorem LaQ.rule {st:RS} (h:LaQ st):LaQ st.rule:=by
 have m:SameL st (st.rule1.tkN.cells.tkS [59]):=(((SameL.rule1 st).trans (SameL.tkN _)).trans (SameL.cells _)).trans (SameL.tkS _ _)
 have g:=h.same m
 unfold RS.rule RS.rule2
 refine LaQ.thn ?_ (fun e => by cases e)
 unfold RS.addW
 split <;> exact g
theorem LaQ.lvds {p s:Nat} (hp:1 ≤ p) (h1:1 ≤ s) (h3:s ≤ 3):∀ (n:Nat) (st:RS),LaQ st → LaQ (RS.lvds p s n st)
 | 0,_,h => h
 | n + 1,st,h => by
  rw [RS.lvds]
  split
  · exact LaQ.lvds hp h1 h3 n _ ((h.same (SameL.take _ _)).thn (fun _ => ⟨hp,h1,h3⟩))
  · exact h
theorem LaQ.level {st:RS} (h:LaQ st) (hs:0 < sdN st.hd.2.2):LaQ st.level:=by
 have h1:LaQ st.lv1:=h
 have h3:=sdN_le st.hd.2.2
 unfold RS.level
 have h4:LaQ ((st.lv1.take true).lvd (st.levels + 1) (sdN st.hd.2.2)):=((h1.same (SameL.take st.lv1 true)).same (SameL.take _ _)).thn (s:=⟨2,(st.lv1.take true).hd,st.levels + 1,sdN st.hd.2.2⟩) (fun _ => ⟨Nat.succ_pos _,hs,h3⟩)
 exact (LaQ.lvds (by omega) hs h3 _ _ h4).same (SameL.take _ _)
theorem LaQ.start {st:RS} (h:LaQ st):LaQ st.start:=by
 have h1:LaQ st.st1:=h
 unfold RS.start
 exact ((((h1.same (SameL.take _ _)).thn (fun e => by cases e)).same (SameL.take _ _)).same (SameL.take _ _)).thn (fun e => by cases e)
theorem LaQ.syms (pr:Nat):∀ (f n:Nat) (st:RS),LaQ st → LaQ (RS.syms pr f n st)
 | 0,_,_,h => h
 | f + 1,n,st,h => by
  rw [RS.syms]
  split
  · exact LaQ.syms pr f (n + 1) _ (((h.same (SameL.full _ _ _)).same (SameL.take _ _)).thn (fun e => by cases e))
  · exact h
theorem LaQ.alt {st:RS} (h:LaQ st):LaQ st.alt:=by
 have h1:LaQ st.alt1:=by have g:=h.same (SameL.full st (decide (st.prods.length = 40) && st.inA) st.hd.2.1);exact g
 unfold RS.alt RS.pct
 split
 · exact (((LaQ.syms _ _ _ _ h1).same (SameL.take _ _)).same (SameL.take _ _)).thn (fun e => by cases e)
 · exact LaQ.syms _ _ _ _ h1
theorem LaQ.alts:∀ (f:Nat) (st:RS),LaQ st → LaQ (RS.alts f st)
 | 0,_,h => h
 | f + 1,st,h => by
  rw [RS.alts]
  split
  · exact LaQ.alts f _ (h.same (SameL.take _ _)).alt
  · exact h
theorem LaQ.nont {st:RS} (h:LaQ st):LaQ st.nont:=by
 have m:SameL st ((st.tkN.full (decide (st.nonts.length = 16)) st.hd.2.1).tkS [58]):=((SameL.take _ _).trans (SameL.full _ _ _)).trans (SameL.take _ _)
 have g:LaQ ((((st.tkN.full (decide (st.nonts.length = 16)) st.hd.2.1).tkS [58]).addN st.hd.2.2).addO st.hd):=by have g:=h.same m;exact g
 have h0:LaQ st.nont0:=g.thn (fun e => by cases e)
 exact (LaQ.alts _ _ h0.alt).same (SameL.take _ _)
theorem LaQ.item {st:RS} (h:LaQ st):LaQ st.item:=by
 unfold RS.item
 split
 · exact h.same (SameL.give _ _ (by decide))
 · split
   · exact h.rule
   · split
     · exact h.start
     · split
       · rename_i hs;exact h.level hs
       · exact h.nont
theorem LaQ.items:∀ (f:Nat) (st:RS),LaQ st → LaQ (RS.items f st)
 | 0,_,h => h
 | f + 1,st,h => by
  rw [RS.items]
  split
  · exact LaQ.items f _ h.item
  · exact h
theorem setL_lev {F:Txt → Ow}:∀ (l:List Stp) (f:FS),(∀ s ∈ l,LvS s) → (∀ (i:Nat) (x:Int × Int),f.levels[i]? = some x → lvB i x = true) → ∀ (i:Nat) (x:Int × Int),(setL F l f).levels[i]? = some x → lvB i x = true
 | [],_,_,h => h
 | s :: l,f,hs,h => by
  rw [setL]
  split
  · exact h
  · refine setL_lev l _ (fun x hx => hs x (List.mem_cons_of_mem _ hx)) (fun i x hx => ?_)
    have e:((stpF F s f).1.fail s.w.2.1 (stpF F s f).2).levels = (stpF F s f).1.levels:=by
     unfold FS.fail
     split <;> rfl
    rw [e] at hx
    by_cases k2:s.k = 2
    · obtain ⟨h1,h2,h3⟩:=hs s List.mem_cons_self k2
      have k1:s.k ≠ 1:=by omega
      unfold stpF at hx
      rw [if_neg k1,if_pos k2] at hx
      split at hx
      · exact h i x hx
      · rename_i ht
        split at hx
        · exact h i x hx
        · have hx:(f.levels.set (F s.w.2.2).2.1 ((s.a:Int),(s.b:Int)))[i]? = some x:=hx
          rw [List.getElem?_set] at hx
          split at hx
          · rename_i hi
            split at hx
            · injection hx with hx
              subst hx
              unfold lvB
              have e1:decide ((0:Int) < (s.a:Int)) = true:=decide_eq_true (by omega)
              have e2:decide ((0:Int) < (s.b:Int)) = true:=decide_eq_true (by omega)
              have e3:decide ((s.b:Int) < 4) = true:=decide_eq_true (by omega)
              have e4:decide (i ≠ 0) = true:=decide_eq_true (by omega)
              simp only [e1,e2,e3,e4,Bool.and_self,Bool.or_true]
            · cases hx
          · exact h i x hx
    · have e2:(stpF F s f).1.levels = f.levels:=by
       unfold stpF
       rw [if_neg k2]
       repeat (first | rfl | split)
      rw [e2] at hx
      exact h i x hx
theorem setL_start0 {F:Txt → Ow} (hF:∀ t,(F t).2.2 = 0):∀ (l:List Stp) (f:FS),(setL F l f).err = 0 → (setL F l f).start = f.start
 | [],_,_ => rfl
 | s :: l,f,he => by
  obtain ⟨-,h2,h3⟩:=setL_cons he
  rw [h3] at he ⊢
  rw [setL_start0 hF l _ he]
  by_cases k4:s.k = 4
  · unfold stpF at h2
    have k1:s.k ≠ 1:=by omega
    have k2:s.k ≠ 2:=by omega
    have k3:s.k ≠ 3:=by omega
    rw [if_neg k1,if_neg k2,if_neg k3,if_pos k4] at h2
    dsimp only at h2
    rw [if_pos (hF _)] at h2
    cases h2
  · unfold stpF
    rw [if_neg k4]
    repeat (first | rfl | split)
theorem fnd_le3 (st:RS) (x:Wd) (h:x ∈ st.skips ∨ x ∈ st.terms):(st.fnd x.2.2).1 ≤ x.2.1:=by
 rcases h with h | h
 · have hy:(x,0,0) ∈ st.told:=List.mem_append_left _ (List.mem_map.2 ⟨x,h,rfl⟩)
   obtain ⟨o,h1,h2⟩:=ownL_le st.told (fun _ => none) _ hy
   unfold RS.fnd
   rw [h1]
   exact h2
 · exact fnd_le st x (.inl h)
theorem prs_sndG {s:Txt} {g:Gm} (h:prs s = some g):SndG g:=by
 have hR:=prs_read h
 obtain ⟨h0,he,h1,rfl⟩:=prs_some h
 have hA:=rdS_ia s
 have hG:=rdS_gd s h1
 have hI:Inv WdN (rdS s):=rdS_inv s (fun e => by cases e) (wsE_N s)
 have hnil:∀ {α:Type} {P:α → Prop},∀ x ∈ ([]:List α),P x:=fun _ h => absurd h List.not_mem_nil
 obtain ⟨rw',g2⟩:=GdE.items (wsE s).length (RS.init (wsE s)) (fun _ => ⟨[],rfl,List.Pairwise.nil,hnil,hnil,hnil,hnil,hnil,hnil⟩) (fun _ => ⟨(wsE_words s).2,hnil,hnil,List.Pairwise.nil,List.Pairwise.nil,hnil,hnil,Nat.zero_le _,Nat.zero_le _,fun _ => Nat.zero_le _⟩) ⟨wsE_N s,hnil,hnil,hnil,hnil,hnil⟩ h1
 have g2:Gd2 (rdS s) rw':=g2
 have hQ:LaQ (rdS s):=LaQ.items _ _ hnil
 have hall:(prsG s).allN = (rw' ++ (rdS s).nons).map (fun w => w.2.2):=by
  show (rdS s).rules.map Rl.name ++ (rdS s).nonts = _
  rw [List.map_append,g2.eq,hA.nn]
 have hmem:∀ x ∈ rw' ++ (rdS s).nons,NamT x.2.2 ∧ kwB x.2.2 = false:=fun x hx => by
  rcases List.mem_append.1 hx with hx | hx
  · exact g2.nam x hx
  · exact g2.non x hx
 have hat:∀ x ∈ rw' ++ (rdS s).nons,((rdS s).fnd x.2.2).1 = x.2.1:=fun x hx => by
  rcases List.mem_append.1 hx with hx | hx
  · obtain ⟨st,hs1,hs2,hs3⟩:=g2.on x hx
    have h5:=setL_once _ _ he st hs1 hs2
    rw [hs3] at h5
    exact Nat.le_antisymm (fnd_le3 _ _ (g2.told x hx)) h5
  · obtain ⟨st,hs1,hs2,hs3⟩:=hA.on x (.inr hx)
    have h5:=setL_once _ _ he st hs1 hs2
    rw [hs3] at h5
    exact Nat.le_antisymm (fnd_le _ _ (.inr hx)) h5
 have hpw:(rw' ++ (rdS s).nons).Pairwise (fun x y => x.2.1 ≠ y.2.1):=by
  rw [List.pairwise_append]
  exact ⟨g2.pw.imp (fun h => by unfold Bef at h;omega),hG.np.imp (fun h => by unfold Bef at h;omega),g2.xn⟩
 refine ⟨hR.rules,hR.nonts,hR.prods,fun r hr => (hR.re r hr).1,fun t ht => ?_,?_,hR.snd.levels,fun i hi => ?_,fun hn => ?_,hR.snd.start,fun p hp => ?_⟩
 · rw [hall,List.mem_map] at ht
   obtain ⟨x,hx,rfl⟩:=ht
   obtain ⟨n1,n2⟩:=hmem x hx
   exact namB_of n1 n2
 · rw [hall]
   unfold List.Nodup
   rw [List.pairwise_map]
   refine List.Pairwise.imp_of_mem (R:=fun x y => x.2.1 ≠ y.2.1) (fun {x y} hx hy hne e => hne ?_) hpw
   rw [← hat x hx,← hat y hy,e]
 · refine setL_lev (F:=(rdS s).fnd) (rdS s).later (rdS s).fs hQ (fun i x hx => ?_) i _ (List.getElem?_eq_getElem hi)
   have hx:(List.replicate ((rdS s).trm + 1) ((0,0):Int × Int))[i]? = some x:=hx
   rw [List.getElem?_replicate] at hx
   split at hx
   · injection hx with hx
     subst hx
     rfl
   · cases hx
 · have hz:(rdS s).nons.length = 0:=by rw [hA.nlen];exact hn
   have hF:∀ t,((rdS s).fnd t).2.2 = 0:=fun t => by
    have:=(fnd_good (rdS s) t).2
    omega
   show (setL (rdS s).fnd (rdS s).later (rdS s).fs).start = 0
   rw [setL_start0 hF _ _ he]
   have hn:(rdS s).nonts.length = 0:=hn
   show (if 0 < (rdS s).nonts.length then _ else _) = _
   rw [if_neg (by omega)]
 · obtain ⟨p1,p2,p3,p4,p5,p6⟩:=hR.snd.prods p hp
   unfold pdB
   simp only [Bool.and_eq_true,decide_eq_true_eq,List.all_eq_true]
   exact ⟨⟨⟨⟨⟨p1,p2⟩,p5⟩,p3⟩,p4⟩,p6⟩
end Go.Proofs.YtbpnioehmohbcaaGreat
