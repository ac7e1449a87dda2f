/- settle. settle. settle. The reader: rule. -/
import Derived.Test.YtbpnioehmohbcaaGreatJ26
import Derived.Test.YtbpnioehmohbcaaGreatJ19
namespace Go.Proofs.YtbpnioehmohbcaaGreat
open Go.RowKit Go.Maps
structure FOk (st:RS) (i:Nat) (f:FS):Prop where
 l:f.levels.length = st.trm + 1
 p:f.prods.length = st.prods.length
 r:∀ j (h:j < f.prods.length),f.prods[j].right.length ≤ i
theorem modP_len (l:List Pd) (k:Nat) (g:Pd → Pd):(modP l k g).length = l.length:=by
 unfold modP
 split
 · rw [List.length_set]
 · rfl
theorem modP_right {l:List Pd} {k:Nat} {g:Pd → Pd} {i:Nat} (h:∀ j (h:j < l.length),l[j].right.length ≤ i) (hg:∀ p:Pd,p.right.length ≤ i → (g p).right.length ≤ i + 1) (j:Nat) (hj:j < (modP l k g).length):(modP l k g)[j].right.length ≤ i + 1:=by
 have hj':j < l.length:=by rw [modP_len] at hj;exact hj
 by_cases hk:k < l.length
 · have e8:(modP l k g)[j]'hj = (l.set k (g l[k]))[j]'(by rw [List.length_set];exact hj'):=by congr 1;exact modP_at hk
   rw [e8,List.getElem_set]
   split
   · exact hg _ (h k hk)
   · exact Nat.le_succ_of_le (h j hj')
 · have e8:(modP l k g)[j]'hj = l[j]:=by congr 1;unfold modP;rw [List.getElem?_eq_none (by omega)]
   rw [e8]
   exact Nat.le_succ_of_le (h j hj')
theorem FOk.step {st:RS} {i:Nat} {f:FS} (h:FOk st i f) (F:Txt → Ow) (s:Stp):FOk st (i + 1) (stpF F s f).1:=by
 have hup:FOk st (i + 1) f:=⟨h.l,h.p,fun j hj => Nat.le_succ_of_le (h.r j hj)⟩
 unfold stpF
 split
 · exact hup
 · split
   · split
     · exact hup
     · split
       · exact hup
       · exact ⟨by show (f.levels.set _ _).length = _;rw [List.length_set];exact h.l,h.p,hup.r⟩
   · split
     · exact hup
     · split
       · exact ⟨h.l,h.p,hup.r⟩
       · split
         · split
           · exact ⟨h.l,by show (modP _ _ _).length = _;rw [modP_len];exact h.p,fun j hj => modP_right h.r (fun p hp => by show (p.right ++ [_]).length ≤ _;rw [List.length_append];exact Nat.add_le_add_right hp 1) j hj⟩
           · split
             · exact ⟨h.l,by show (modP _ _ _).length = _;rw [modP_len];exact h.p,fun j hj => modP_right h.r (fun p hp => by show (p.right ++ [_]).length ≤ _;rw [List.length_append];exact Nat.add_le_add_right hp 1) j hj⟩
             · exact hup
         · split
           · exact hup
           · exact ⟨h.l,by show (modP _ _ _).length = _;rw [modP_len];exact h.p,fun j hj => modP_right (g:=fun p => ⟨p.left,p.right,((F s.w.2.2).2.1:Int)⟩) h.r (fun p hp => Nat.le_succ_of_le hp) j hj⟩
theorem FOk.fail {st:RS} {i:Nat} {f:FS} (h:FOk st i f) (p:Nat) (e:Int):FOk st i (f.fail p e):=by
 unfold FS.fail
 split
 · exact h
 · exact ⟨h.l,h.p,h.r⟩
theorem RdW.laterAt {B rb j:Nat} {T:Nat → Nat} {w:World} {X:RX} {st:RS} {f:FS} {lv:Value} {rs:List Value} {mp:Option Nat} (h:RdW B T w rb X st f lv rs mp) (hj:j < st.later.length) :
 ∃ g cap,X.la = .slice (some ⟨g,0,none⟩) st.later.length cap ∧ ∃ hj':j < X.fl.length,w.cell? ⟨g,j * 2,none⟩ = some (.int .i64 (st.later[j].w.2.1:Int)) ∧ w.cell? ⟨g,j * 2 + 1,none⟩ = some X.fl[j] ∧ StpV T w rb X.fl[j] st.later[j]:=by
 have hl:=h.flen
 have hj':j < X.fl.length:=by rw [hl];exact hj
 have hz:(st.later.zip X.fl).length = st.later.length:=by rw [List.length_zip,hl,Nat.min_self]
 rcases h.later.1.2 with ⟨h1,h2⟩ | ⟨g,cap,cur,h1,h2,h3,h4,h5,h6,h7⟩
 · omega
 · have hcell:∀ i,i < 2 → w.cell? ⟨g,j * 2 + i,none⟩ = (spV st.later[j] X.fl[j])[i]?:=fun i hi => by
    have e1:=flat_at (fun x:Stp × Value => spV x.1 x.2) (sz:=2) (fun _ => rfl) (st.later.zip X.fl) j i (by rw [hz];exact hj) hi
    rw [List.getElem_zip] at e1
    rw [← e1]
    have hown:=h.later.1
    rw [h1] at hown
    exact hown.cellAt (j * 2 + i) (by omega)
   have hm:(st.later[j],X.fl[j]) ∈ st.later.zip X.fl:=by
    have:=List.getElem_mem (l:=st.later.zip X.fl) (n:=j) (by rw [hz];exact hj)
    rw [List.getElem_zip] at this
    exact this
   exact ⟨g,cap,h1,hj',hcell 0 (by decide),hcell 1 (by decide),h.fst _ hm⟩
theorem RdW.ruls {B rb:Nat} {T:Nat → Nat} {w:World} {X:RX} {st:RS} (h:RdV B T w rb X st):RulL w X.rv st.rules:=by
 have hl:=h.rlen
 have hz:(st.rules.zip X.rl).length = st.rules.length:=by rw [List.length_zip,hl,Nat.min_self]
 have hO:=h.rules.1
 rcases hO.2 with ⟨h1,h2⟩ | ⟨g,cap,cur,h1,h2,h3,h4,h5,h6,h7⟩
 · exact ⟨none,0,by rw [h1,h2],fun j hj => by omega⟩
 · refine ⟨some ⟨g,0,none⟩,cap,h1,fun j hj => ?_⟩
   have hcell:∀ i,i < 3 → w.cell? ⟨g,0 + j * 3 + i,none⟩ = (rlV st.rules[j] (X.rl[j]'(by rw [hl];exact hj)))[i]?:=fun i hi => by
    have e1:=flat_at (fun x:Rl × Value => rlV x.1 x.2) (sz:=3) (fun _ => rfl) (st.rules.zip X.rl) j i (by rw [hz];exact hj) hi
    rw [List.getElem_zip] at e1
    rw [Nat.zero_add,← e1]
    have hown:=hO
    rw [h1] at hown
    exact hown.cellAt (j * 3 + i) (by omega)
   have hm:(st.rules[j],X.rl[j]'(by rw [hl];exact hj)) ∈ st.rules.zip X.rl:=by
    have:=List.getElem_mem (l:=st.rules.zip X.rl) (n:=j) (by rw [hz];exact hj)
    rw [List.getElem_zip] at this
    exact this
   obtain ⟨xa,xm,xc,hx⟩:=(h.rre _ hm).1
   have c1:=hcell 1 (by decide)
   have hx':X.rl[j]'(by rw [hl];exact hj) = .slice xa xm xc:=hx
   refine ⟨g,0,xa,xm,xc,rfl,blk_lt h3,hcell 0 (by decide),?_,hcell 2 (by decide)⟩
   rw [c1,hx']
   rfl
end Go.Proofs.YtbpnioehmohbcaaGreat
namespace Go.Proofs.YtbpnioehmohbcaaGreat
open Go.RowKit Go.Maps
structure StOk (st:RS):Prop where
 b:BndS st
 x:∀ s ∈ st.later,s.w.2.2.length ≤ 1000000
 p:∀ s ∈ st.later,s.k = 5 ∨ s.k = 6 → s.a < st.prods.length
 t:∀ t,(st.fnd t).2.1 < st.trm + 1
 q:∀ l ∈ st.prods,l ≤ 90000
 l1:st.rules.length ≤ 90000
 l2:st.prods.length ≤ 90000
 l3:st.later.length ≤ 90000
theorem trm_le (st:RS):st.trm ≤ st.rules.length:=trmK_le _ _
set_option maxRecDepth 20000 in
theorem setStep {B rb:Nat} {T T1:Nat → Nat} {w wr:World} {X:RX} {st:RS} {f:FS} {lv:Value} {rs:List Value} {mp:Option Nat} {i:Nat} (h:RdW B T1 wr rb X st f lv rs mp) (hc:Chg T T1 w wr) (ho:StOk st) (hf:FOk st i f) (hi:i < st.later.length) (h0:f.err = 0) :
 ∃ hj':i < X.fl.length,∃ K caps,X.fl[i] = .func (.func K) #[] caps ∧ Calls Tryz.prog K caps (wr.alloc (.cells #[.int .i64 (st.later[i].w.2.1:Int),X.fl[i]] 93)) fun r u => r = .returned (.int .i64 (stpF st.fnd st.later[i] f).2) ∧ u.cell? ⟨wr.heap.size,0,none⟩ = some (.int .i64 (st.later[i].w.2.1:Int)) ∧
  ((stpF st.fnd st.later[i] f).2 = 0 → RdR B T w rb X st ((stpF st.fnd st.later[i] f).1.fail st.later[i].w.2.1 (stpF st.fnd st.later[i] f).2) lv u) ∧
  ((stpF st.fnd st.later[i] f).2 ≠ 0 → Calls Tryz.prog 46 #[ptr0 rb,.int .i64 (st.later[i].w.2.1:Int),.int .i64 (stpF st.fnd st.later[i] f).2] u fun r w' => r = .returned (.tuple #[]) ∧ RdR B T w rb X st ((stpF st.fnd st.later[i] f).1.fail st.later[i].w.2.1 (stpF st.fnd st.later[i] f).2) lv w'):=by
 obtain ⟨g,cap,hg,hj',c0,c1,hs⟩:=h.laterAt hi
 have hal:=al' wr (.cells #[.int .i64 (st.later[i].w.2.1:Int),X.fl[i]] 93)
 have cal:=Chg.of_below (T:=T1) hal
 have hm:=List.getElem_mem hi
 have hle:=trm_le st
 have hl1:=ho.l1
 have hl2:=ho.l2
 have hl3:=ho.l3
 have hfl:=hf.l
 have hfp:=hf.p
 obtain ⟨K,caps,hv,G⟩:=stepC (h.keep hal) ho.b (hs.keep cal) (ho.x _ hm) (fun e => by rw [hfp];exact ho.p _ hm e) (by rw [hfl];exact ho.t _) (fun j hj => Nat.le_trans (hf.r j hj) (by omega)) (by omega) (by omega)
 have herr:(stpF st.fnd st.later[i] f).1.err = f.err:=by
  unfold stpF
  repeat (first | rfl | split)
 refine ⟨hj',K,caps,hv,G.mono ?_⟩
 rintro r u ⟨e,T2,rs2,mp2,hr2,hc2⟩
 have ib:Im T1 (wr.alloc (.cells #[.int .i64 (st.later[i].w.2.1:Int),X.fl[i]] 93)) wr.heap.size (.cells #[.int .i64 (st.later[i].w.2.1:Int),X.fl[i]] 93):=⟨h.fresh (Nat.le_refl _),heap_new wr _⟩
 have cT:=(hc.trans cal).trans hc2
 refine ⟨e,(ib.keep hc2).cell rfl,fun e0 => ?_,fun e0 => (giveW hr2 st.later[i].w.2.1 _ (by rw [herr];exact h0)).mono ?_⟩
 · have e9:(stpF st.fnd st.later[i] f).1.fail st.later[i].w.2.1 (stpF st.fnd st.later[i] f).2 = (stpF st.fnd st.later[i] f).1:=if_pos e0
   rw [e9]
   exact ⟨T2,rs2,mp2,hr2,cT⟩
 · rintro r w' ⟨e8,T3,rs3,mp3,hr3,hc3⟩
   have e9:(stpF st.fnd st.later[i] f).1.fail st.later[i].w.2.1 (stpF st.fnd st.later[i] f).2 = { (stpF st.fnd st.later[i] f).1 with pl:=st.later[i].w.2.1,err:=(stpF st.fnd st.later[i] f).2 }:=if_neg e0
   rw [e9]
   exact ⟨e8,T3,rs3,mp3,hr3,cT.trans hc3⟩
end Go.Proofs.YtbpnioehmohbcaaGreat
namespace Go.Proofs.YtbpnioehmohbcaaGreat
open Go.RowKit Go.Maps
theorem stp_shape {T:Nat → Nat} {w:World} {rb:Nat} {v:Value} {s:Stp} (h:StpV T w rb v s):∃ fn cp,v = .func fn #[] cp:=by
 rcases h with ⟨_,p,q,rfl,_⟩ | ⟨_,p,q,l,rfl,_⟩ | ⟨_,l,rfl,_⟩ | ⟨_,p,q,rfl,_⟩ | ⟨_,p,l,q,rfl,_⟩ | ⟨_,p,q,l,rfl,_⟩ <;> exact ⟨_,_,rfl⟩
theorem stp_K {T:Nat → Nat} {w:World} {rb K:Nat} {caps:Array Value} {s:Stp} (h:StpV T w rb (.func (.func K) #[] caps) s):(K = 122 ∧ ∃ p q,caps = #[ptr0 p,ptr0 q]) ∨ (K = 125 ∧ ∃ p q l,caps = #[ptr0 p,ptr0 q,ptr0 l]) ∨ (K = 90 ∧ ∃ l,caps = #[ptr0 l]) ∨ (K = 91 ∧ ∃ p q,caps = #[ptr0 p,ptr0 q]) ∨ (K = 140 ∧ ∃ p l q,caps = #[ptr0 p,ptr0 l,ptr0 q]) ∨ (K = 141 ∧ ∃ p q l,caps = #[ptr0 p,ptr0 q,ptr0 l]):=by
 rcases h with ⟨_,p,q,e,_⟩ | ⟨_,p,q,l,e,_⟩ | ⟨_,l,e,_⟩ | ⟨_,p,q,e,_⟩ | ⟨_,p,l,q,e,_⟩ | ⟨_,p,q,l,e,_⟩
 all_goals
  injection e with e _ ec
  injection e with e
 · exact .inl ⟨e,p,q,ec⟩
 · exact .inr (.inl ⟨e,p,q,l,ec⟩)
 · exact .inr (.inr (.inl ⟨e,l,ec⟩))
 · exact .inr (.inr (.inr (.inl ⟨e,p,q,ec⟩)))
 · exact .inr (.inr (.inr (.inr (.inl ⟨e,p,l,q,ec⟩))))
 · exact .inr (.inr (.inr (.inr (.inr ⟨e,p,q,l,ec⟩))))
theorem setL_end {F:Txt → Ow} {l:List Stp} {f:FS} (h:f.err ≠ 0):setL F l f = f:=by
 cases l with
 | nil => rfl
 | cons s l => rw [setL,if_pos h]
theorem setL_step {F:Txt → Ow} {l:List Stp} {i:Nat} {f:FS} (hi:i < l.length) (h:f.err = 0):setL F (l.drop i) f = setL F (l.drop (i + 1)) ((stpF F l[i] f).1.fail l[i].w.2.1 (stpF F l[i] f).2):=by
 rw [List.drop_eq_getElem_cons hi,setL,if_neg (fun e => e h)]
theorem fs_ok (st:RS):FOk st 0 st.fs:=by
 refine ⟨List.length_replicate,by show (st.prods.map _).length = _;rw [List.length_map],fun j hj => ?_⟩
 have hj':j < (st.prods.map fun (l:Nat) => (⟨(l:Int) + (st.trm:Int),[],0⟩:Pd)).length:=hj
 show ((st.prods.map fun (l:Nat) => (⟨(l:Int) + (st.trm:Int),[],0⟩:Pd))[j]'hj').right.length ≤ 0
 rw [List.getElem_map]
 exact Nat.le_refl _
theorem startW {B rb N:Nat} {T T1:Nat → Nat} {w wr:World} {X:RX} {st:RS} {lv:Value} {rs:List Value} (h:RdW B T1 wr rb X st (fsK st N st.trm st.prods.length) lv rs none) (hc:Chg T T1 w wr) (hN:N = st.trm + 1) :
 (st.nonts.length = 0 → RdR B T w rb X st st.fs lv wr) ∧ (0 < st.nonts.length → wr.cell? ⟨rb,5,none⟩ = some (.int .i64 0) ∧ wr.frozen? ⟨rb,5,none⟩ = false ∧ RdR B T w rb X st st.fs lv (wr.setCell ⟨rb,5,none⟩ (.int .i64 ((st.trm:Int) + 1)))):=by
 subst hN
 have e1:(fsK st (st.trm + 1) st.trm st.prods.length).levels = st.fs.levels:=rfl
 have e2:(fsK st (st.trm + 1) st.trm st.prods.length).prods = st.fs.prods:=fsK_end st _ _
 refine ⟨fun h0 => ?_,fun h0 => ⟨blk_cell h.blk rfl,blk_frozen h.blk 5,?_⟩⟩
 · have e9:fsK st (st.trm + 1) st.trm st.prods.length = st.fs:=by
    have e3:st.fs = ⟨List.replicate (st.trm + 1) (0,0),st.prods.map fun (l:Nat) => ⟨(l:Int) + (st.trm:Int),[],0⟩,0,st.pl,st.err⟩:=by unfold RS.fs;rw [if_neg (by omega)]
    rw [e3]
    have e4:=fsK_end st (st.trm + 1) st.trm
    unfold fsK at e4 ⊢
    unfold fs0
    dsimp only at e4 ⊢
    rw [e4]
   rw [e9] at h
   exact ⟨T1,rs,none,h,hc⟩
 · have hk:Kept (oneBlk rb) wr (wr.setCell ⟨rb,5,none⟩ (.int .i64 ((st.trm:Int) + 1))):=(Kept.refl (oneBlk rb) wr).setCell (a:=⟨rb,5,none⟩) (fun _ => rfl)
   have es:st.fs.start = (st.trm:Int) + 1:=by unfold RS.fs;exact if_pos h0
   have hb2:(wr.setCell ⟨rb,5,none⟩ (.int .i64 ((st.trm:Int) + 1))).heap[rb]? = some (rdK (rdC X lv st.levels st.starts st.fs) (.int .u32 (if (none:Option Nat) = none then 0 else 1)) (.int .i32 0) (.map none)):=by
    have h9:=heap_setCell (o:=5) (v:=.int .i64 ((st.trm:Int) + 1)) h.blk
    rw [← es] at h9 ⊢
    exact h9
   obtain ⟨h2,c2⟩:=h.put (f':=st.fs) hk hb2 e1.symm e2.symm
   exact ⟨T1,rs,none,h2,hc.trans c2⟩
end Go.Proofs.YtbpnioehmohbcaaGreat
namespace Go.Proofs.YtbpnioehmohbcaaGreat
open Go.RowKit Go.Maps Go.Sort
set_option maxRecDepth 20000 in
set_option maxHeartbeats 16000000 in
theorem ruleCa {B rb:Nat} {T:Nat → Nat} {w:World} {X:RX} {st:RS} (h:RdV B T w rb X st) (hm:st.hd.1 ≠ 0) (h16:st.rules.length = 16) (b1:st.rules.length ≤ 99000) (b2:st.skips.length ≤ 99000) (b3:st.terms.length ≤ 99000) (b4:st.later.length ≤ 99000) :
 Calls Tryz.prog 61 #[ptr0 rb] w fun r w' => r = .returned (.tuple #[]) ∧ RdP B T w rb st.rule w':=by
 obtain ⟨ra,rc,hrv⟩:=own_shape h.rules.1
 have G1:=hid (takeC h true (fun _ => hm))
 have G2:Hid (∀ u,(∃ wv,Mov B T w rb X (st.take true) u wv) → (u.alloc (boxW st.hd)).cell? ⟨rb,1,none⟩ = some (.slice ra st.rules.length rc) ∧ (st.rules.length = 16 → Calls Tryz.prog 46 #[ptr0 rb,.int .i64 (st.hd.2.1:Int),.int .i64 3] (u.alloc (boxW st.hd)) fun r w' => r = .returned (.tuple #[]) ∧ (∃ wv,Mov B T w rb X st.rule1 w' wv) ∧ Im T w' u.heap.size (boxW st.hd)) ∧ (¬ st.rules.length = 16 → (∃ wv,Mov B T w rb X st.rule1 (u.alloc (boxW st.hd)) wv) ∧ Im T (u.alloc (boxW st.hd)) u.heap.size (boxW st.hd))):=hid (fun u hu => by
  obtain ⟨wv,hM⟩:=hu
  have hM1:=hM.keep (al' u (boxW st.hd))
  have i1:Im T (u.alloc (boxW st.hd)) u.heap.size (boxW st.hd):=hM.rd.im (Nat.le_refl _) (heap_new u _)
  refine ⟨by rw [← hrv];exact blk_cell hM1.rd.blk rfl,fun e => (giveC hM1.rd st.hd.2.1 3 (by decide)).mono ?_,fun e => ⟨⟨wv,?_⟩,i1⟩⟩
  · rintro r w' ⟨e9,hM2⟩
    refine ⟨e9,⟨wv,?_⟩,i1.keep hM2.chg⟩
    have e8:st.rule1 = (st.take true).give st.hd.2.1 3:=by unfold RS.rule1 RS.full;rw [decide_eq_true e];rfl
    rw [e8]
    exact hM1.trans hM2
  · have e8:st.rule1 = st.take true:=by unfold RS.rule1 RS.full;rw [decide_eq_false e];rfl
    rw [e8]
    exact hM1)
 have G3:Hid (∀ q1 u,(∃ wv,Mov B T w rb X st.rule1 u wv) → Im T u q1 (boxW st.hd) → Calls Tryz.prog 84 #[ptr0 rb] u fun r w' => r = .returned (wdA st.rule1.hd) ∧ (∃ wv,Mov B T w rb X st.rule1.tkN w' wv) ∧ Im T w' q1 (boxW st.hd)):=hid (fun q1 u hu hi => by
  obtain ⟨wv,hM⟩:=hu
  refine (tkNC hM.rd).mono ?_
  rintro r w' ⟨e9,wv',hM2⟩
  exact ⟨e9,⟨wv',hM.trans hM2⟩,hi.keep hM2.chg⟩)
 have hbd:∀ W:World,Below W.heap.size W W.drew:=fun W => (Below.refl _ W).drew
 have G4:Hid (∀ q1 u,(∃ wv,Mov B T w rb X st.rule1.tkN u wv) → Im T u q1 (boxW st.hd) → ∀ W,u.alloc (boxW st.rule1.hd) = W →
  (W.drew.cell? ⟨q1,2,none⟩ = some (.string (strT st.hd.2.2)) ∧ W.drew.cell? ⟨u.heap.size,2,none⟩ = some (.string (strT st.rule1.hd.2.2)) ∧ (W.alloc boxU0).drew.cell? ⟨q1,2,none⟩ = some (.string (strT st.hd.2.2)) ∧ (W.alloc boxU0).drew.cell? ⟨u.heap.size,2,none⟩ = some (.string (strT st.rule1.hd.2.2))) ∧
  (Calls Tryz.prog 85 #[ptr0 rb] W.drew fun r w' => ∃ a m c,r = .returned (.slice a m c) ∧ (w'.cell? ⟨q1,2,none⟩ = some (.string (strT st.hd.2.2)) ∧ w'.cell? ⟨u.heap.size,2,none⟩ = some (.string (strT st.rule1.hd.2.2)) ∧ (w'.alloc boxU0).cell? ⟨q1,2,none⟩ = some (.string (strT st.hd.2.2)) ∧ (w'.alloc boxU0).cell? ⟨u.heap.size,2,none⟩ = some (.string (strT st.rule1.hd.2.2))) ∧
   RuF B T w rb st.hd st.rule1.hd (decide (st.hd.2.2 = kSkip)) (rxA st.rule1.tkN.hd.2.2).1 st.rule1.tkN.cells q1 u.heap.size (w'.alloc (boxU st.rule1.hd.2.2 (.slice a m c) (decide (st.hd.2.2 = kSkip)))) w'.heap.size a m c) ∧
  (Calls Tryz.prog 85 #[ptr0 rb] (W.alloc boxU0).drew fun r w' => ∃ a m c,r = .returned (.slice a m c) ∧ (w'.cell? ⟨q1,2,none⟩ = some (.string (strT st.hd.2.2)) ∧ w'.cell? ⟨u.heap.size,2,none⟩ = some (.string (strT st.rule1.hd.2.2))) ∧ w'.heap[W.heap.size]? = some boxU0 ∧
   RuF B T w rb st.hd st.rule1.hd (decide (st.hd.2.2 = kSkip)) (rxA st.rule1.tkN.hd.2.2).1 st.rule1.tkN.cells q1 u.heap.size (((w'.setCell ⟨W.heap.size,0,none⟩ (.string (strT st.rule1.hd.2.2))).setCell ⟨W.heap.size,1,none⟩ (.slice a m c)).setCell ⟨W.heap.size,2,none⟩ (.bool (decide (st.hd.2.2 = kSkip)))) W.heap.size a m c)):=hid (fun q1 u hu hi W hW => by
  obtain ⟨wv,hM⟩:=hu
  have hal:Below u.heap.size u W:=by rw [← hW];exact al' u _
  have hM1:=(hM.keep hal).keep (hbd W)
  have i1:=(hi.keep (Chg.of_below (T:=T) hal)).keep (Chg.of_below (T:=T) (hbd W))
  have i3:Im T W.drew u.heap.size (boxW st.rule1.hd):=⟨hM.rd.fresh (Nat.le_refl _),hs_keep (by rw [← hW];exact heap_new u _) (hbd W)⟩
  have hal2:Below W.drew.heap.size W.drew (W.alloc boxU0).drew:=al' W.drew boxU0
  refine ⟨⟨i1.cell rfl,i3.cell rfl,keep_cell hal2 (i1.cell rfl),keep_cell hal2 (i3.cell rfl)⟩,(rdCellsC hM1.rd).mono ?_,?_⟩
  · rintro r w' ⟨a,m,c,wv',e9,hM2,hI⟩
    have j1:=i1.keep hM2.chg
    have j3:=i3.keep hM2.chg
    have hal3:=al' w' boxU0
    have hal4:=al' w' (boxU st.rule1.hd.2.2 (.slice a m c) (decide (st.hd.2.2 = kSkip)))
    have c4:=Chg.of_below (T:=T) hal4
    exact ⟨a,m,c,e9,⟨j1.cell rfl,j3.cell rfl,keep_cell hal3 (j1.cell rfl),keep_cell hal3 (j3.cell rfl)⟩,T,_,hM2.rd.keep hal4,(hM1.trans hM2).chg.trans c4,j1.keep c4,j3.keep c4,⟨hM2.rd.fresh (Nat.le_refl _),heap_new w' _⟩,fun e => (hI e).keep c4⟩
  · obtain ⟨h5,c5⟩:=hM1.rd.aside (q:=W.drew.heap.size) (al' W.drew boxU0) (Nat.le_refl _) (by rw [World.size_alloc];omega)
    refine (rdCellsC h5).mono ?_
    rintro r w' ⟨a,m,c,wv',e9,hM2,hI⟩
    have k1:=(i1.keep c5).keep hM2.chg
    have k3:=(i3.keep c5).keep hM2.chg
    have hrb:=blk_lt hM1.rd.blk
    have hne:¬ oneBlk rb W.drew.heap.size:=fun e => absurd hrb (by rw [← show W.drew.heap.size = rb from e];exact Nat.lt_irrefl _)
    have hb0:w'.heap[W.heap.size]? = some boxU0:=hM2.kept.blk (heap_new W.drew boxU0) hne
    obtain ⟨p1,p2⟩:=put3U hb0 (.string (strT st.rule1.hd.2.2)) (.slice a m c) (.bool (decide (st.hd.2.2 = kSkip)))
    obtain ⟨r1,r2,r3,r4,r5⟩:=hM1.rd.boxG hM2 p1 p2
    exact ⟨a,m,c,e9,⟨k1.cell rfl,k3.cell rfl⟩,hb0,T,_,r1,hM1.chg.trans r2,r4 _ _ i1,r4 _ _ i3,r3,fun e => r5 _ _ (hI e)⟩)
 have hfin:st.rule = (((st.rule1.tkN.cells.tkS [59]).addR ⟨st.rule1.hd.2.2,(rxA st.rule1.tkN.hd.2.2).1,decide (st.hd.2.2 = kSkip)⟩).addW st.rule1.hd (decide (st.hd.2.2 = kSkip))).once st.rule1.hd:=rfl
 rw [hfin]
 have hsm:SameL st st.rule1.tkN.cells:=((SameL.rule1 _).trans (SameL.tkN _)).trans (SameL.cells _)
 have hskp:((strT st.hd.2.2).toList == ([115,107,105,112]:Txt)) = decide (st.hd.2.2 = kSkip):=by
  by_cases e:st.hd.2.2 = kSkip
  · rw [decide_eq_true e];exact strT_is e
  · rw [decide_eq_false e];exact strT_isnt e
 have b1':st.rule1.tkN.cells.rules.length ≤ 99000:=by rw [hsm.rules];exact b1
 have b2':st.rule1.tkN.cells.skips.length ≤ 99000:=by rw [hsm.skips];exact b2
 have b3':st.rule1.tkN.cells.terms.length ≤ 99000:=by rw [hsm.terms];exact b3
 have b4':st.rule1.tkN.cells.later.length ≤ 99000:=by rw [hsm.later];exact b4
 clear hsm hfin h hrv b2 b3 b4 hm
 generalize (rxA st.rule1.tkN.hd.2.2).1 = cl at *
 generalize st.rule1.tkN.cells = s3 at *
 generalize st.rule1.tkN = s2 at *
 generalize hH2:st.rule1.hd = H2 at *
 generalize st.rule1 = s1 at *
 generalize st.take true = sA at *
 generalize st.rules.length = nr at *
 generalize hH1:st.hd = H1 at *
 obtain ⟨k1,p1,t1⟩:=H1
 obtain ⟨k2,p2,t2⟩:=H2
 try dsimp only at *
 clear hH1 hH2
 generalize decide (t1 = kSkip) = sk at *
 have H3:Hid (∀ q1 u,(∃ wv,Mov B T w rb X s1 u wv) → Im T u q1 (boxW (k1,p1,t1)) → Calls Tryz.prog 84 #[ptr0 rb] u fun r w' => r = .returned (wdA (k2,p2,t2)) ∧ (∃ wv,Mov B T w rb X s2 w' wv) ∧ Im T w' q1 (boxW (k1,p1,t1))):=G3
 clear G3
 have hz16:((nr:Int) == 16) = true:=by rw [beq_iff_eq];omega
 go_enter Tryz.func61,Tryz.ntmps61
 go_wp2_with (first
  | (go_at_call 83;refine G1.out.mono ?_;clear G1;rintro e u1 ⟨rfl,hu⟩;obtain ⟨z1,g16,gno⟩:=G2.out u1 hu;clear G2 hu;have gno:=hid gno;have g16:=hid g16;obtain ⟨v0,v1,v2,-,-⟩:=rd3 (heap_new u1 (boxW (k1,p1,t1)));obtain ⟨W1,hW1⟩:∃ y,u1.alloc (boxW (k1,p1,t1)) = y:=⟨_,rfl⟩;rw [hW1] at z1 g16 gno v0 v1 v2)
  | (go_at_call 46;refine (g16.out h16).mono ?_;clear g16 gno;rintro e u2 ⟨rfl,hm2,hi2⟩;have hm2:=hid hm2;have hi2:=hid hi2)
  | (go_at_call 84;refine (H3.out _ _ hm2.out hi2.out).mono ?_;clear hm2 hi2;rintro e u3 ⟨rfl,hm3,hi3⟩;obtain ⟨W3,hW3⟩:∃ y,u3.alloc (boxW (k2,p2,t2)) = y:=⟨_,rfl⟩;obtain ⟨⟨y1,y2,y3,y4⟩,GC,GC'⟩:=G4.out _ u3 hm3 hi3 W3 hW3;have GC:=hid GC;have GC':=hid GC';clear hm3 hi3)
  | (go_at_call 84;refine (H3.out _ _ (gno.out h16).1 (gno.out h16).2).mono ?_;rintro e u3 ⟨rfl,hm3,hi3⟩;obtain ⟨W3,hW3⟩:∃ y,u3.alloc (boxW (k2,p2,t2)) = y:=⟨_,rfl⟩;obtain ⟨⟨y1,y2,y3,y4⟩,GC,GC'⟩:=G4.out _ u3 hm3 hi3 W3 hW3;have GC:=hid GC;have GC':=hid GC';clear hm3 hi3))
 clear hW3 G4 H3 hz16
 try clear hW1
 try clear z1 v0 v1 v2
 try clear gno g16
 generalize u1.heap.size = q1 at *
 generalize u3.heap.size = q3 at *
 apply collapse5 (F:=fun V q a m c => RuF B T w rb (k1,p1,t1) (k2,p2,t2) sk cl s3 q1 q3 V q a m c)
 case h =>
  intro rest
  go_region_with (first
   | (go_at_call 85;refine GC.out.mono ?_;rintro e u4 ⟨a,m,c,rfl,⟨x1,x2,x3,x4⟩,hf⟩;have hf9:=hid hf;clear hf)
   | (go_at_call 85;refine GC'.out.mono ?_;rintro e u4 ⟨a,m,c,rfl,⟨x1,x2⟩,hb9,hf⟩;have hf9:=hid hf;clear hf;obtain ⟨⟨m0,m1⟩,⟨m2,m3⟩,⟨m4,m5⟩,m6,m7,m8⟩:=putT3 hb9 (.string (strT t2)) (.slice a m c) (.bool sk);clear hb9 m6 m7 m8))
  all_goals
   have hf:=hf9.out
   clear hf9
   first
    | (generalize ((u4.setCell ⟨W3.heap.size,0,none⟩ (.string (strT t2))).setCell ⟨W3.heap.size,1,none⟩ (.slice a m c)).setCell ⟨W3.heap.size,2,none⟩ (.bool sk) = V at hf ⊢;generalize W3.heap.size = q at hf ⊢;exact rest V q a m c hf)
    | (generalize u4.alloc (boxU t2 (.slice a m c) sk) = V at hf ⊢;generalize u4.heap.size = q at hf ⊢;exact rest V q a m c hf)
 case pf =>
  rintro V q a m c hF
  have G5:=hid (ruleApp hF b1')
  have hS:SameL s3 (s3.tkS [59]):=SameL.tkS _ _
  have e2:((s3.tkS [59]).addR ⟨t2,cl,sk⟩).skips.length ≤ 99000:=by show (s3.tkS [59]).skips.length ≤ _;rw [hS.skips];exact b2'
  have e3:((s3.tkS [59]).addR ⟨t2,cl,sk⟩).terms.length ≤ 99000:=by show (s3.tkS [59]).terms.length ≤ _;rw [hS.terms];exact b3'
  have e4:((s3.tkS [59]).addR ⟨t2,cl,sk⟩).later.length ≤ 99000:=by show (s3.tkS [59]).later.length ≤ _;rw [hS.later];exact b4'
  have G6:=hid (fun V6 (h6:RuP B T w rb (k2,p2,t2) (boxU t2 (.slice a m c) sk) ((s3.tkS [59]).addR ⟨t2,cl,sk⟩) q3 q V6) => ruleAdd h6 e2 e3 e4)
  clear hF GC GC' y1 y2 y3 y4 hS e2 e3 e4 b1' b2' b3' b4'
  generalize s3.rules.length = n5 at *
  go_wp2_with (go_at_call 86;refine G5.out.mono ?_;clear G5;rintro e u5 ⟨rfl,rv,A,C,w6,⟨d0,d1,d2,d3⟩,⟨f0,f1,f2,f3⟩,hrun,g0,g1,hP⟩;have hP:=hid hP)
  apply collapse
  case h =>
   intro rest
   go_region_law ((first
    | (refine step_run (by rfl) (.tmp 35) (.tmp 37) 22 (by rfl) _ _ (by rfl) (by rfl) hrun ?_)
    | fail))
   all_goals exact rest.out
  case pf =>
   obtain ⟨⟨z0,z1,z2,z3⟩,G7⟩:=G6.out _ hP.out
   have G7:=hid G7
   clear G6 hP d0 d1 d2 d3 f0 f1 f2 f3 g0 g1 hrun
   generalize w6.setCell ⟨rb,1,none⟩ (.slice A (n5 + 1) C) = V6 at *
   go_wp2_with fail
   go_region_with (go_at_call 87;refine G7.out.mono ?_;rintro e u7 ⟨rfl,⟨o0,o1,o2⟩,G8⟩;have G8:=hid G8)
   all_goals
    go_wp2_with (go_at_call 88;refine G8.out.mono ?_;clear G8;rintro e u8 ⟨rfl,hQ⟩;have hQ:=hid hQ)
    go_end0
    exact ⟨rfl,hQ.out⟩
end Go.Proofs.YtbpnioehmohbcaaGreat
