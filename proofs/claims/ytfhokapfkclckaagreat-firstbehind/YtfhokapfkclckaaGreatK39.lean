/- settle. settle. settle. The reader: then, addRule, addNont. -/
import Derived.Test.YtfhokapfkclckaaGreatK38
import Derived.Test.YtfhokapfkclckaaGreatK25
namespace Go.Proofs.YtfhokapfkclckaaGreat
open Go.RowKit Go.Maps
structure FOk (st:RS) (i:Nat) (f:FS):Prop where
 l:f.levels.length = st.trm + 1
 p:f.prods.length = st.prods.length
 r:∀ j (h:j < f.prods.length),f.prods[j].right.length ≤ i
theorem modP_len (l:List Pd) (k:Nat) (g:Pd → Pd):(modP l k g).length = l.length:=by
 unfold modP
 split
 · rw [List.length_set]
 · rfl
theorem modP_right {l:List Pd} {k:Nat} {g:Pd → Pd} {i:Nat} (h:∀ j (h:j < l.length),l[j].right.length ≤ i) (hg:∀ p:Pd,p.right.length ≤ i → (g p).right.length ≤ i + 1) (j:Nat) (hj:j < (modP l k g).length):(modP l k g)[j].right.length ≤ i + 1:=by
 have hj':j < l.length:=by rw [modP_len] at hj;exact hj
 by_cases hk:k < l.length
 · have e8:(modP l k g)[j]'hj = (l.set k (g l[k]))[j]'(by rw [List.length_set];exact hj'):=by congr 1;exact modP_at hk
   rw [e8,List.getElem_set]
   split
   · exact hg _ (h k hk)
   · exact Nat.le_succ_of_le (h j hj')
 · have e8:(modP l k g)[j]'hj = l[j]:=by congr 1;unfold modP;rw [List.getElem?_eq_none (by omega)]
   rw [e8]
   exact Nat.le_succ_of_le (h j hj')
theorem FOk.step {st:RS} {i:Nat} {f:FS} (h:FOk st i f) (F:Txt → Ow) (s:Stp):FOk st (i + 1) (stpF F s f).1:=by
 have hup:FOk st (i + 1) f:=⟨h.l,h.p,fun j hj => Nat.le_succ_of_le (h.r j hj)⟩
 unfold stpF
 split
 · exact hup
 · split
   · split
     · exact hup
     · split
       · exact hup
       · exact ⟨by show (f.levels.set _ _).length = _;rw [List.length_set];exact h.l,h.p,hup.r⟩
   · split
     · exact hup
     · split
       · exact ⟨h.l,h.p,hup.r⟩
       · split
         · split
           · exact ⟨h.l,by show (modP _ _ _).length = _;rw [modP_len];exact h.p,fun j hj => modP_right h.r (fun p hp => by show (p.right ++ [_]).length ≤ _;rw [List.length_append];exact Nat.add_le_add_right hp 1) j hj⟩
           · split
             · exact ⟨h.l,by show (modP _ _ _).length = _;rw [modP_len];exact h.p,fun j hj => modP_right h.r (fun p hp => by show (p.right ++ [_]).length ≤ _;rw [List.length_append];exact Nat.add_le_add_right hp 1) j hj⟩
             · exact hup
         · split
           · exact hup
           · exact ⟨h.l,by show (modP _ _ _).length = _;rw [modP_len];exact h.p,fun j hj => modP_right (g:=fun p => ⟨p.left,p.right,((F s.w.2.2).2.1:Int)⟩) h.r (fun p hp => Nat.le_succ_of_le hp) j hj⟩
theorem FOk.fail {st:RS} {i:Nat} {f:FS} (h:FOk st i f) (p:Nat) (e:Int):FOk st i (f.fail p e):=by
 unfold FS.fail
 split
 · exact h
 · exact ⟨h.l,h.p,h.r⟩
theorem RdW.laterAt {B rb j:Nat} {T:Nat → Nat} {w:World} {X:RX} {st:RS} {f:FS} {lv:Value} {rs:List Value} {mp:Option Nat} (h:RdW B T w rb X st f lv rs mp) (hj:j < st.later.length) :
 ∃ g cap,X.la = .slice (some ⟨g,0,none⟩) st.later.length cap ∧ ∃ hj':j < X.fl.length,w.cell? ⟨g,j * 2,none⟩ = some (.int .i64 (st.later[j].w.2.1:Int)) ∧ w.cell? ⟨g,j * 2 + 1,none⟩ = some X.fl[j] ∧ StpV T w rb X.fl[j] st.later[j]:=by
 have hl:=h.flen
 have hj':j < X.fl.length:=by rw [hl];exact hj
 have hz:(st.later.zip X.fl).length = st.later.length:=by rw [List.length_zip,hl,Nat.min_self]
 rcases h.later.1.2 with ⟨h1,h2⟩ | ⟨g,cap,cur,h1,h2,h3,h4,h5,h6,h7⟩
 · omega
 · have hcell:∀ i,i < 2 → w.cell? ⟨g,j * 2 + i,none⟩ = (spV st.later[j] X.fl[j])[i]?:=fun i hi => by
    have e1:=flat_at (fun x:Stp × Value => spV x.1 x.2) (sz:=2) (fun _ => rfl) (st.later.zip X.fl) j i (by rw [hz];exact hj) hi
    rw [List.getElem_zip] at e1
    rw [← e1]
    have hown:=h.later.1
    rw [h1] at hown
    exact hown.cellAt (j * 2 + i) (by omega)
   have hm:(st.later[j],X.fl[j]) ∈ st.later.zip X.fl:=by
    have:=List.getElem_mem (l:=st.later.zip X.fl) (n:=j) (by rw [hz];exact hj)
    rw [List.getElem_zip] at this
    exact this
   exact ⟨g,cap,h1,hj',hcell 0 (by decide),hcell 1 (by decide),h.fst _ hm⟩
theorem RdW.ruls {B rb:Nat} {T:Nat → Nat} {w:World} {X:RX} {st:RS} (h:RdV B T w rb X st):RulL w X.rv st.rules:=by
 have hl:=h.rlen
 have hz:(st.rules.zip X.rl).length = st.rules.length:=by rw [List.length_zip,hl,Nat.min_self]
 have hO:=h.rules.1
 rcases hO.2 with ⟨h1,h2⟩ | ⟨g,cap,cur,h1,h2,h3,h4,h5,h6,h7⟩
 · exact ⟨none,0,by rw [h1,h2],fun j hj => by omega⟩
 · refine ⟨some ⟨g,0,none⟩,cap,h1,fun j hj => ?_⟩
   have hcell:∀ i,i < 3 → w.cell? ⟨g,0 + j * 3 + i,none⟩ = (rlV st.rules[j] (X.rl[j]'(by rw [hl];exact hj)))[i]?:=fun i hi => by
    have e1:=flat_at (fun x:Rl × Value => rlV x.1 x.2) (sz:=3) (fun _ => rfl) (st.rules.zip X.rl) j i (by rw [hz];exact hj) hi
    rw [List.getElem_zip] at e1
    rw [Nat.zero_add,← e1]
    have hown:=hO
    rw [h1] at hown
    exact hown.cellAt (j * 3 + i) (by omega)
   have hm:(st.rules[j],X.rl[j]'(by rw [hl];exact hj)) ∈ st.rules.zip X.rl:=by
    have:=List.getElem_mem (l:=st.rules.zip X.rl) (n:=j) (by rw [hz];exact hj)
    rw [List.getElem_zip] at this
    exact this
   obtain ⟨xa,xm,xc,hx⟩:=(h.rre _ hm).1
   have c1:=hcell 1 (by decide)
   have hx':X.rl[j]'(by rw [hl];exact hj) = .slice xa xm xc:=hx
   refine ⟨g,0,xa,xm,xc,rfl,blk_lt h3,hcell 0 (by decide),?_,hcell 2 (by decide)⟩
   rw [c1,hx']
   rfl
structure StOk (st:RS):Prop where
 b:BndS st
 x:∀ s ∈ st.later,s.w.2.2.length ≤ 1000000
 p:∀ s ∈ st.later,s.k = 5 ∨ s.k = 6 → s.a < st.prods.length
 t:∀ t,(st.fnd t).2.1 < st.trm + 1
 q:∀ l ∈ st.prods,l ≤ 90000
 l1:st.rules.length ≤ 90000
 l2:st.prods.length ≤ 90000
 l3:st.later.length ≤ 90000
theorem trm_le (st:RS):st.trm ≤ st.rules.length:=trmK_le _ _
set_option maxRecDepth 20000 in
theorem setStep {B rb:Nat} {T T1:Nat → Nat} {w wr:World} {X:RX} {st:RS} {f:FS} {lv:Value} {rs:List Value} {mp:Option Nat} {i:Nat} (h:RdW B T1 wr rb X st f lv rs mp) (hc:Chg T T1 w wr) (ho:StOk st) (hf:FOk st i f) (hi:i < st.later.length) (h0:f.err = 0) :
 ∃ hj':i < X.fl.length,∃ K caps,X.fl[i] = .func (.func K) #[] caps ∧ Calls Tryz.prog K caps (wr.alloc (.cells #[.int .i64 (st.later[i].w.2.1:Int),X.fl[i]] 106)) fun r u => r = .returned (.int .i64 (stpF st.fnd st.later[i] f).2) ∧ u.cell? ⟨wr.heap.size,0,none⟩ = some (.int .i64 (st.later[i].w.2.1:Int)) ∧
  ((stpF st.fnd st.later[i] f).2 = 0 → RdR B T w rb X st ((stpF st.fnd st.later[i] f).1.fail st.later[i].w.2.1 (stpF st.fnd st.later[i] f).2) lv u) ∧
  ((stpF st.fnd st.later[i] f).2 ≠ 0 → Calls Tryz.prog 63 #[ptr0 rb,.int .i64 (st.later[i].w.2.1:Int),.int .i64 (stpF st.fnd st.later[i] f).2] u fun r w' => r = .returned (.tuple #[]) ∧ RdR B T w rb X st ((stpF st.fnd st.later[i] f).1.fail st.later[i].w.2.1 (stpF st.fnd st.later[i] f).2) lv w'):=by
 obtain ⟨g,cap,hg,hj',c0,c1,hs⟩:=h.laterAt hi
 have hal:=al' wr (.cells #[.int .i64 (st.later[i].w.2.1:Int),X.fl[i]] 106)
 have cal:=Chg.of_below (T:=T1) hal
 have hm:=List.getElem_mem hi
 have hle:=trm_le st
 have hl1:=ho.l1
 have hl2:=ho.l2
 have hl3:=ho.l3
 have hfl:=hf.l
 have hfp:=hf.p
 obtain ⟨K,caps,hv,G⟩:=stepC (h.keep hal) ho.b (hs.keep cal) (ho.x _ hm) (fun e => by rw [hfp];exact ho.p _ hm e) (by rw [hfl];exact ho.t _) (fun j hj => Nat.le_trans (hf.r j hj) (by omega)) (by omega) (by omega)
 have herr:(stpF st.fnd st.later[i] f).1.err = f.err:=by
  unfold stpF
  repeat (first | rfl | split)
 refine ⟨hj',K,caps,hv,G.mono ?_⟩
 rintro r u ⟨e,T2,rs2,mp2,hr2,hc2⟩
 have ib:Im T1 (wr.alloc (.cells #[.int .i64 (st.later[i].w.2.1:Int),X.fl[i]] 106)) wr.heap.size (.cells #[.int .i64 (st.later[i].w.2.1:Int),X.fl[i]] 106):=⟨h.fresh (Nat.le_refl _),heap_new wr _⟩
 have cT:=(hc.trans cal).trans hc2
 refine ⟨e,(ib.keep hc2).cell rfl,fun e0 => ?_,fun e0 => (giveW hr2 st.later[i].w.2.1 _ (by rw [herr];exact h0)).mono ?_⟩
 · have e9:(stpF st.fnd st.later[i] f).1.fail st.later[i].w.2.1 (stpF st.fnd st.later[i] f).2 = (stpF st.fnd st.later[i] f).1:=if_pos e0
   rw [e9]
   exact ⟨T2,rs2,mp2,hr2,cT⟩
 · rintro r w' ⟨e8,T3,rs3,mp3,hr3,hc3⟩
   have e9:(stpF st.fnd st.later[i] f).1.fail st.later[i].w.2.1 (stpF st.fnd st.later[i] f).2 = { (stpF st.fnd st.later[i] f).1 with pl:=st.later[i].w.2.1,err:=(stpF st.fnd st.later[i] f).2 }:=if_neg e0
   rw [e9]
   exact ⟨e8,T3,rs3,mp3,hr3,cT.trans hc3⟩
theorem stp_shape {T:Nat → Nat} {w:World} {rb:Nat} {v:Value} {s:Stp} (h:StpV T w rb v s):∃ fn cp,v = .func fn #[] cp:=by
 rcases h with ⟨_,p,q,rfl,_⟩ | ⟨_,p,q,l,rfl,_⟩ | ⟨_,l,rfl,_⟩ | ⟨_,p,q,rfl,_⟩ | ⟨_,p,l,q,rfl,_⟩ | ⟨_,p,q,l,rfl,_⟩ <;> exact ⟨_,_,rfl⟩
theorem stp_K {T:Nat → Nat} {w:World} {rb K:Nat} {caps:Array Value} {s:Stp} (h:StpV T w rb (.func (.func K) #[] caps) s):(K = 124 ∧ ∃ p q,caps = #[ptr0 p,ptr0 q]) ∨ (K = 127 ∧ ∃ p q l,caps = #[ptr0 p,ptr0 q,ptr0 l]) ∨ (K = 109 ∧ ∃ l,caps = #[ptr0 l]) ∨ (K = 110 ∧ ∃ p q,caps = #[ptr0 p,ptr0 q]) ∨ (K = 148 ∧ ∃ p l q,caps = #[ptr0 p,ptr0 l,ptr0 q]) ∨ (K = 149 ∧ ∃ p q l,caps = #[ptr0 p,ptr0 q,ptr0 l]):=by
 rcases h with ⟨_,p,q,e,_⟩ | ⟨_,p,q,l,e,_⟩ | ⟨_,l,e,_⟩ | ⟨_,p,q,e,_⟩ | ⟨_,p,l,q,e,_⟩ | ⟨_,p,q,l,e,_⟩
 all_goals
  injection e with e _ ec
  injection e with e
 · exact .inl ⟨e,p,q,ec⟩
 · exact .inr (.inl ⟨e,p,q,l,ec⟩)
 · exact .inr (.inr (.inl ⟨e,l,ec⟩))
 · exact .inr (.inr (.inr (.inl ⟨e,p,q,ec⟩)))
 · exact .inr (.inr (.inr (.inr (.inl ⟨e,p,l,q,ec⟩))))
 · exact .inr (.inr (.inr (.inr (.inr ⟨e,p,q,l,ec⟩))))
theorem setL_end {F:Txt → Ow} {l:List Stp} {f:FS} (h:f.err ≠ 0):setL F l f = f:=by
 cases l with
 | nil => rfl
 | cons s l => rw [setL,if_pos h]
theorem setL_step {F:Txt → Ow} {l:List Stp} {i:Nat} {f:FS} (hi:i < l.length) (h:f.err = 0):setL F (l.drop i) f = setL F (l.drop (i + 1)) ((stpF F l[i] f).1.fail l[i].w.2.1 (stpF F l[i] f).2):=by
 rw [List.drop_eq_getElem_cons hi,setL,if_neg (fun e => e h)]
theorem fs_ok (st:RS):FOk st 0 st.fs:=by
 refine ⟨List.length_replicate,by show (st.prods.map _).length = _;rw [List.length_map],fun j hj => ?_⟩
 have hj':j < (st.prods.map fun (l:Nat) => (⟨(l:Int) + (st.trm:Int),[],0⟩:Pd)).length:=hj
 show ((st.prods.map fun (l:Nat) => (⟨(l:Int) + (st.trm:Int),[],0⟩:Pd))[j]'hj').right.length ≤ 0
 rw [List.getElem_map]
 exact Nat.le_refl _
theorem startW {B rb N:Nat} {T T1:Nat → Nat} {w wr:World} {X:RX} {st:RS} {lv:Value} {rs:List Value} (h:RdW B T1 wr rb X st (fsK st N st.trm st.prods.length) lv rs none) (hc:Chg T T1 w wr) (hN:N = st.trm + 1) :
 (st.nonts.length = 0 → RdR B T w rb X st st.fs lv wr) ∧ (0 < st.nonts.length → wr.cell? ⟨rb,5,none⟩ = some (.int .i64 0) ∧ wr.frozen? ⟨rb,5,none⟩ = false ∧ RdR B T w rb X st st.fs lv (wr.setCell ⟨rb,5,none⟩ (.int .i64 ((st.trm:Int) + 1)))):=by
 subst hN
 have e1:(fsK st (st.trm + 1) st.trm st.prods.length).levels = st.fs.levels:=rfl
 have e2:(fsK st (st.trm + 1) st.trm st.prods.length).prods = st.fs.prods:=fsK_end st _ _
 refine ⟨fun h0 => ?_,fun h0 => ⟨blk_cell h.blk rfl,blk_frozen h.blk 5,?_⟩⟩
 · have e9:fsK st (st.trm + 1) st.trm st.prods.length = st.fs:=by
    have e3:st.fs = ⟨List.replicate (st.trm + 1) (0,0),st.prods.map fun (l:Nat) => ⟨(l:Int) + (st.trm:Int),[],0⟩,0,st.pl,st.err⟩:=by unfold RS.fs;rw [if_neg (by omega)]
    rw [e3]
    have e4:=fsK_end st (st.trm + 1) st.trm
    unfold fsK at e4 ⊢
    unfold fs0
    dsimp only at e4 ⊢
    rw [e4]
   rw [e9] at h
   exact ⟨T1,rs,none,h,hc⟩
 · have hk:Kept (oneBlk rb) wr (wr.setCell ⟨rb,5,none⟩ (.int .i64 ((st.trm:Int) + 1))):=(Kept.refl (oneBlk rb) wr).setCell (a:=⟨rb,5,none⟩) (fun _ => rfl)
   have es:st.fs.start = (st.trm:Int) + 1:=by unfold RS.fs;exact if_pos h0
   have hb2:(wr.setCell ⟨rb,5,none⟩ (.int .i64 ((st.trm:Int) + 1))).heap[rb]? = some (rdK (rdC X lv st.levels st.starts st.fs) (.int .u32 (if (none:Option Nat) = none then 0 else 1)) (.int .i32 0) (.map none)):=by
    have h9:=heap_setCell (o:=5) (v:=.int .i64 ((st.trm:Int) + 1)) h.blk
    rw [← es] at h9 ⊢
    exact h9
   obtain ⟨h2,c2⟩:=h.put (f':=st.fs) hk hb2 e1.symm e2.symm
   exact ⟨T1,rs,none,h2,hc.trans c2⟩
end Go.Proofs.YtfhokapfkclckaaGreat
namespace Go.Proofs.YtfhokapfkclckaaGreat
open Go.RowKit Go.Maps Go.Sort
theorem StpV.shape {T:Nat → Nat} {w:World} {rb:Nat} {v:Value} {s:Stp} (h:StpV T w rb v s):∃ fn cp,v = .func fn #[] cp:=by
 rcases h with ⟨_,p,q,rfl,_⟩ | ⟨_,p,q,l,rfl,_⟩ | ⟨_,l,rfl,_⟩ | ⟨_,p,q,rfl,_⟩ | ⟨_,p,l,q,rfl,_⟩ | ⟨_,p,q,l,rfl,_⟩ <;> exact ⟨_,_,rfl⟩
set_option maxRecDepth 20000 in
set_option maxHeartbeats 4000000 in
theorem thnC {B rb:Nat} {T:Nat → Nat} {w:World} {X:RX} {st:RS} (h:RdV B T w rb X st) (s:Stp) (fv:Value) (hs:StpV T w rb fv s) (hn:st.later.length ≤ 100000) :
 Calls Tryz.prog 108 #[ptr0 rb,wdA s.w,fv] w fun r w' => r = .returned (.tuple #[]) ∧ RdP B T w rb (st.thn s) w':=by
 obtain ⟨fn,cp,rfl⟩:=hs.shape
 have hB1:=al' w (boxW s.w)
 have hv1:(w.alloc (boxW s.w)).heap[w.heap.size]? = some (boxW s.w):=heap_new w _
 obtain ⟨W,hW⟩:∃ x,w.alloc (boxW s.w) = x:=⟨_,rfl⟩
 rw [hW] at hB1 hv1
 have h1:=h.keep hB1
 have hs1:=hs.keep (Chg.of_below hB1)
 have hbd:Below W.heap.size W W.drew:=(Below.refl _ W).drew
 obtain ⟨a,c,w5,hrun,hbk,T',X',hR,hC⟩:=(h1.keep hbd).app_later s (.func fn #[] cp) (hs1.keep (Chg.of_below hbd)) hn
 have hP:Hid (RdP B T w rb (st.thn s) (w5.setCell ⟨rb,15,none⟩ (.slice a (st.later.length + 1) c))):=hid ⟨T',X',hR,(Chg.of_below (bl_step hB1 hbd)).trans hC⟩
 have hbl:W.drew.heap[rb]? = some (rdO X st.levels st.starts st.pl st.err):=hs_keep h1.blk hbd
 have hb5:=hbk.trans hbl
 have c5:w5.cell? ⟨rb,15,none⟩ = some X.la:=blk_cell hb5 rfl
 have f5:w5.frozen? ⟨rb,15,none⟩ = false:=blk_frozen hb5 15
 have cd:W.drew.cell? ⟨rb,15,none⟩ = some X.la:=blk_cell hbl rfl
 have vd:=(rd3 (hs_keep hv1 hbd)).2.1
 have hsd:W.drew.heap.size = W.heap.size:=rfl
 rw [hsd] at hrun
 have hwa:W.drew.alloc (.cells #[.int .i64 (s.w.2.1:Int),.func fn #[] cp] 106) = (W.alloc (.cells #[.int .i64 (s.w.2.1:Int),.func fn #[] cp] 106)).drew:=rfl
 rw [hwa] at hrun
 have hba:Below W.drew.heap.size W.drew (W.alloc (.cells #[.int .i64 (s.w.2.1:Int),.func fn #[] cp] 106)).drew:=al' W.drew _
 have ca:=keep_cell hba cd
 have va:=keep_cell hba vd
 clear hba hwa hsd hb5 hbl hR hC hbk hbd hs1 h1 hB1 hs h hv1
 generalize st.later.length = n at *
 generalize st.thn s = st2 at *
 generalize X.la = la at *
 generalize s.w = H at *
 obtain ⟨hk,hp,ht⟩:=H
 dsimp only at *
 go_enter Tryz.func108,Tryz.ntmps108
 go_wp2_with fail
 apply collapse
 case h =>
  intro rest
  go_region_law ((first
   | (refine step_run (by rfl) (.tmp 10) (.tmp 15) 86 (by rfl) _ _ (by rfl) (by rfl) hrun ?_)
   | fail))
  all_goals exact rest.out
 case pf =>
  go_wp2
  go_end0
  exact ⟨rfl,hP.out⟩
set_option maxRecDepth 20000 in
set_option maxHeartbeats 4000000 in
theorem addRT {B rb:Nat} {T:Nat → Nat} {w:World} {X:RX} {st:RS} (h:RdV B T w rb X st) (x:Wd) (hn:st.skips.length ≤ 100000) :
 Calls Tryz.prog 106 #[.pointer (some ⟨rb,8,none⟩),wdA x,.bool true] w fun r w' => r = .returned (.tuple #[]) ∧ RdP B T w rb (st.addW x true) w':=by
 have hB1:=al' w (boxW x)
 have hv1:(w.alloc (boxW x)).heap[w.heap.size]? = some (boxW x):=heap_new w _
 obtain ⟨W,hW⟩:∃ y,w.alloc (boxW x) = y:=⟨_,rfl⟩
 rw [hW] at hB1 hv1
 have h1:=h.keep hB1
 have hbd:Below W.heap.size W W.drew:=(Below.refl _ W).drew
 obtain ⟨a,c,w5,hrun,hbk,T',X',hR,hC⟩:=(h1.keep hbd).app_skips x hn
 have hP:Hid (RdP B T w rb (st.addW x true) (w5.setCell ⟨rb,8,none⟩ (.slice a (st.skips.length + 1) c))):=hid ⟨T',X',hR,(Chg.of_below (bl_step hB1 hbd)).trans hC⟩
 have hbl:W.drew.heap[rb]? = some (rdO X st.levels st.starts st.pl st.err):=hs_keep h1.blk hbd
 have hb5:=hbk.trans hbl
 have c5:w5.cell? ⟨rb,8,none⟩ = some X.sk:=blk_cell hb5 rfl
 have f5:w5.frozen? ⟨rb,8,none⟩ = false:=blk_frozen hb5 8
 have cd:W.drew.cell? ⟨rb,8,none⟩ = some X.sk:=blk_cell hbl rfl
 obtain ⟨v0,v1,v2,-,-⟩:=rd3 (hs_keep hv1 hbd)
 have hsd:W.drew.heap.size = W.heap.size:=rfl
 rw [hsd] at hrun
 have hwa:W.drew.alloc (boxW x) = (W.alloc (boxW x)).drew:=rfl
 rw [hwa] at hrun
 have hba:Below W.drew.heap.size W.drew (W.alloc (boxW x)).drew:=al' W.drew _
 have ca:=keep_cell hba cd
 have a0:=keep_cell hba v0
 have a1:=keep_cell hba v1
 have a2:=keep_cell hba v2
 clear hba hwa hsd hb5 hbl hR hC hbk hbd h1 hB1 h hv1
 generalize st.skips.length = n at *
 generalize st.addW x true = st2 at *
 generalize X.sk = la at *
 obtain ⟨hk,hp,ht⟩:=x
 dsimp only at *
 go_enter Tryz.func106,Tryz.ntmps106
 go_wp2_with fail
 apply collapse
 case h =>
  intro rest
  go_region_law ((first
   | (refine step_run (by rfl) (.tmp 11) (.tmp 13) 66 (by rfl) _ _ (by rfl) (by rfl) hrun ?_)
   | fail))
  all_goals exact rest.out
 case pf =>
  go_wp2
  go_end0
  exact ⟨rfl,hP.out⟩
set_option maxRecDepth 20000 in
set_option maxHeartbeats 4000000 in
theorem addRF {B rb:Nat} {T:Nat → Nat} {w:World} {X:RX} {st:RS} (h:RdV B T w rb X st) (x:Wd) (hn:st.terms.length ≤ 100000) :
 Calls Tryz.prog 106 #[.pointer (some ⟨rb,8,none⟩),wdA x,.bool false] w fun r w' => r = .returned (.tuple #[]) ∧ RdP B T w rb (st.addW x false) w':=by
 have hB1:=al' w (boxW x)
 have hv1:(w.alloc (boxW x)).heap[w.heap.size]? = some (boxW x):=heap_new w _
 obtain ⟨W,hW⟩:∃ y,w.alloc (boxW x) = y:=⟨_,rfl⟩
 rw [hW] at hB1 hv1
 have h1:=h.keep hB1
 have hbd:Below W.heap.size W W.drew:=(Below.refl _ W).drew
 obtain ⟨a,c,w5,hrun,hbk,T',X',hR,hC⟩:=(h1.keep hbd).app_terms x hn
 have hP:Hid (RdP B T w rb (st.addW x false) (w5.setCell ⟨rb,9,none⟩ (.slice a (st.terms.length + 1) c))):=hid ⟨T',X',hR,(Chg.of_below (bl_step hB1 hbd)).trans hC⟩
 have hbl:W.drew.heap[rb]? = some (rdO X st.levels st.starts st.pl st.err):=hs_keep h1.blk hbd
 have hb5:=hbk.trans hbl
 have c5:w5.cell? ⟨rb,9,none⟩ = some X.te:=blk_cell hb5 rfl
 have f5:w5.frozen? ⟨rb,9,none⟩ = false:=blk_frozen hb5 9
 have cd:W.drew.cell? ⟨rb,9,none⟩ = some X.te:=blk_cell hbl rfl
 obtain ⟨v0,v1,v2,-,-⟩:=rd3 (hs_keep hv1 hbd)
 have hsd:W.drew.heap.size = W.heap.size:=rfl
 rw [hsd] at hrun
 have hwa:W.drew.alloc (boxW x) = (W.alloc (boxW x)).drew:=rfl
 rw [hwa] at hrun
 have hba:Below W.drew.heap.size W.drew (W.alloc (boxW x)).drew:=al' W.drew _
 have ca:=keep_cell hba cd
 have a0:=keep_cell hba v0
 have a1:=keep_cell hba v1
 have a2:=keep_cell hba v2
 clear hba hwa hsd hb5 hbl hR hC hbk hbd h1 hB1 h hv1
 generalize st.terms.length = n at *
 generalize st.addW x false = st2 at *
 generalize X.te = la at *
 obtain ⟨hk,hp,ht⟩:=x
 dsimp only at *
 go_enter Tryz.func106,Tryz.ntmps106
 go_wp2_with fail
 apply collapse
 case h =>
  intro rest
  go_region_law ((first
   | (refine step_run (by rfl) (.tmp 21) (.tmp 23) 66 (by rfl) _ _ (by rfl) (by rfl) hrun ?_)
   | fail))
  all_goals exact rest.out
 case pf =>
  go_wp2
  go_end0
  exact ⟨rfl,hP.out⟩
set_option maxRecDepth 20000 in
set_option maxHeartbeats 4000000 in
theorem addNC {B rb:Nat} {T:Nat → Nat} {w:World} {X:RX} {st:RS} (h:RdV B T w rb X st) (x:Wd) (hn:st.nons.length ≤ 100000) :
 Calls Tryz.prog 115 #[.pointer (some ⟨rb,8,none⟩),wdA x] w fun r w' => r = .returned (.tuple #[]) ∧ RdP B T w rb (st.addO x) w':=by
 have hB1:=al' w (boxW x)
 have hv1:(w.alloc (boxW x)).heap[w.heap.size]? = some (boxW x):=heap_new w _
 obtain ⟨W,hW⟩:∃ y,w.alloc (boxW x) = y:=⟨_,rfl⟩
 rw [hW] at hB1 hv1
 have h1:=h.keep hB1
 have hbd:Below W.heap.size W W.drew:=(Below.refl _ W).drew
 obtain ⟨a,c,w5,hrun,hbk,T',X',hR,hC⟩:=(h1.keep hbd).app_nons x hn
 have hP:Hid (RdP B T w rb (st.addO x) (w5.setCell ⟨rb,10,none⟩ (.slice a (st.nons.length + 1) c))):=hid ⟨T',X',hR,(Chg.of_below (bl_step hB1 hbd)).trans hC⟩
 have hbl:W.drew.heap[rb]? = some (rdO X st.levels st.starts st.pl st.err):=hs_keep h1.blk hbd
 have hb5:=hbk.trans hbl
 have c5:w5.cell? ⟨rb,10,none⟩ = some X.no:=blk_cell hb5 rfl
 have f5:w5.frozen? ⟨rb,10,none⟩ = false:=blk_frozen hb5 10
 have cd:W.drew.cell? ⟨rb,10,none⟩ = some X.no:=blk_cell hbl rfl
 obtain ⟨v0,v1,v2,-,-⟩:=rd3 (hs_keep hv1 hbd)
 have hsd:W.drew.heap.size = W.heap.size:=rfl
 rw [hsd] at hrun
 have hwa:W.drew.alloc (boxW x) = (W.alloc (boxW x)).drew:=rfl
 rw [hwa] at hrun
 have hba:Below W.drew.heap.size W.drew (W.alloc (boxW x)).drew:=al' W.drew _
 have ca:=keep_cell hba cd
 have a0:=keep_cell hba v0
 have a1:=keep_cell hba v1
 have a2:=keep_cell hba v2
 clear hba hwa hsd hb5 hbl hR hC hbk hbd h1 hB1 h hv1
 generalize st.nons.length = n at *
 generalize st.addO x = st2 at *
 generalize X.no = la at *
 obtain ⟨hk,hp,ht⟩:=x
 dsimp only at *
 go_enter Tryz.func115,Tryz.ntmps115
 go_wp2_with fail
 apply collapse
 case h =>
  intro rest
  go_region_law ((first
   | (refine step_run (by rfl) (.tmp 8) (.tmp 10) 66 (by rfl) _ _ (by rfl) (by rfl) hrun ?_)
   | fail))
  all_goals exact rest.out
 case pf =>
  go_wp2
  go_end0
  exact ⟨rfl,hP.out⟩
set_option maxRecDepth 20000 in
theorem addRC {B rb:Nat} {T:Nat → Nat} {w:World} {X:RX} {st:RS} (h:RdV B T w rb X st) (x:Wd) (sk:Bool) (h1:st.skips.length ≤ 100000) (h2:st.terms.length ≤ 100000) :
 Calls Tryz.prog 106 #[.pointer (some ⟨rb,8,none⟩),wdA x,.bool sk] w fun r w' => r = .returned (.tuple #[]) ∧ RdP B T w rb (st.addW x sk) w':=by
 cases sk
 · exact addRF h x h2
 · exact addRT h x h1
end Go.Proofs.YtfhokapfkclckaaGreat
