/- A right side grows; a level is set. What is left to be done, done: a start's name, a production's level. What is left to be done, done: a level. What is left to be done, done: a symbol. -/
import Derived.Test.YtbpnioehmohbcaaGreatJ24
namespace Go.Proofs.YtbpnioehmohbcaaGreat
open Go.RowKit Go.Maps
theorem RdW.levAt {B rb j:Nat} {T:Nat → Nat} {w:World} {X:RX} {st:RS} {f:FS} {lv:Value} {rs:List Value} {mp:Option Nat} (h:RdW B T w rb X st f lv rs mp) (hj:j < f.levels.length) :
 ∃ g cap,lv = .slice (some ⟨g,0,none⟩) f.levels.length cap ∧ T g = 3 ∧ w.cell? ⟨g,j * 2,none⟩ = some (.int .i64 f.levels[j].1) ∧ w.cell? ⟨g,j * 2 + 1,none⟩ = some (.int .i64 f.levels[j].2) ∧ (∀ k,w.frozen? ⟨g,k,none⟩ = false) ∧ g ≠ rb:=by
 rcases h.levels.1.2 with ⟨h1,h2⟩ | ⟨g,cap,cur,h1,h2,h3,h4,h5,h6,h7⟩
 · omega
 · have hg:T g = 3:=h.levels.2 g (by rw [h1];rfl)
   have hcell:∀ i,i < 2 → w.cell? ⟨g,j * 2 + i,none⟩ = (csL f.levels[j])[i]?:=fun i hi => by
    have e1:=flat_at csL (sz:=2) (fun _ => rfl) f.levels j i hj hi
    rw [← e1]
    have hown:=h.levels.1
    rw [h1] at hown
    exact hown.cellAt (j * 2 + i) (by omega)
   exact ⟨g,cap,h1,hg,hcell 0 (by decide),hcell 1 (by decide),fun k => blk_frozen h3 k,fun e => by rw [e,h.rt] at hg;cases hg⟩
theorem RdW.setLev {B rb j g cap:Nat} {T:Nat → Nat} {w:World} {X:RX} {st:RS} {f:FS} {lv:Value} {rs:List Value} {mp:Option Nat} (h:RdW B T w rb X st f lv rs mp) (hj:j < f.levels.length) (hg:lv = .slice (some ⟨g,0,none⟩) f.levels.length cap) (p s:Int) :
 RdW B T ((w.setCell ⟨g,j * 2,none⟩ (.int .i64 p)).setCell ⟨g,j * 2 + 1,none⟩ (.int .i64 s)) rb X st { f with levels:=f.levels.set j (p,s) } lv rs mp ∧ Chg T T w ((w.setCell ⟨g,j * 2,none⟩ (.int .i64 p)).setCell ⟨g,j * 2 + 1,none⟩ (.int .i64 s)):=by
 have hg3:T g = 3:=h.levels.2 g (by rw [hg];rfl)
 have hone:Kept (oneBlk g) w ((w.setCell ⟨g,j * 2,none⟩ (.int .i64 p)).setCell ⟨g,j * 2 + 1,none⟩ (.int .i64 s)):=((Kept.refl (oneBlk g) w).setCell (a:=⟨g,j * 2,none⟩) (fun _ => rfl)).setCell (a:=⟨g,j * 2 + 1,none⟩) (fun _ => rfl)
 have hrb:=blk_lt h.blk
 have ht:∀ b,b < w.heap.size → T b = T b:=fun _ _ => rfl
 have hc:Chg T T w ((w.setCell ⟨g,j * 2,none⟩ (.int .i64 p)).setCell ⟨g,j * 2 + 1,none⟩ (.int .i64 s)):=⟨hone.mono (fun k _ e => by rw [show k = g from e,hg3];decide),ht⟩
 have hF:∀ i,i ≠ 3 → ∀ b,oneBlk g b → T b ≠ i:=fun i hi b e => by rw [show b = g from e,hg3];exact hi.symm
 refine ⟨⟨hone.blk h.blk (fun e => by have:=h.rt;rw [show rb = g from e,hg3] at this;cases this),h.rt,fun b hn => ⟨(h.own b hn).1,Nat.lt_of_lt_of_le (h.own b hn).2 hone.size⟩,Nat.le_trans h.base hone.size,h.rules.kept hone (hF 1 (by decide)) ht,h.rlen,fun x hx => (h.rre x hx).keep hc,h.nonts.kept hone (hF 2 (by decide)) ht,h.skips.kept hone (hF 8 (by decide)) ht,h.terms.kept hone (hF 9 (by decide)) ht,h.nons.kept hone (hF 10 (by decide)) ht,h.later.kept hone (hF 15 (by decide)) ht,h.flen,fun x hx => (h.fst x hx).keep hc,?_,h.prods.kept hone (hF 4 (by decide)) ht,h.rslen,fun i a b => (h.rights i a b).kept hone (hF (100 + i) (by omega)) ht,fun m e => ?_⟩,hc⟩
 · show OwnI _ _ _ _ _ _ lv (f.levels.set j (p,s)).length ((f.levels.set j (p,s)).flatMap csL)
   rw [List.length_set]
   have e1:(f.levels.set j (p,f.levels[j].2)).flatMap csL = (f.levels.flatMap csL).set (j * 2) (.int .i64 p):=by
    have:=flat_set csL (sz:=2) (fun _ => rfl) f.levels j 0 (p,f.levels[j].2) (.int .i64 p) hj (by decide) rfl
    rw [Nat.add_zero] at this
    exact this.symm
   have e2:(f.levels.set j (p,s)).flatMap csL = ((f.levels.set j (p,f.levels[j].2)).flatMap csL).set (j * 2 + 1) (.int .i64 s):=by
    have h9:j < (f.levels.set j (p,f.levels[j].2)).length:=by rw [List.length_set];exact hj
    rw [flat_set csL (sz:=2) (fun _ => rfl) (f.levels.set j (p,f.levels[j].2)) j 1 (p,s) (.int .i64 s) h9 (by decide) (by rw [List.getElem_set_self];rfl),List.set_set]
   rw [e2,e1,hg]
   have:=h.levels
   rw [hg] at this
   exact (this.setc _).setc _
 · obtain ⟨t5,n,hM⟩:=h.map m e
   exact ⟨t5,n,hM.keep hone (fun e9 => by rw [show m = g from e9,hg3] at t5;cases t5)⟩
set_option maxRecDepth 20000 in
theorem RdW.appRight {B rb j g cap:Nat} {T:Nat → Nat} {w:World} {X:RX} {st:RS} {f:FS} {lv:Value} {rs:List Value} {mp:Option Nat} (h:RdW B T w rb X st f lv rs mp) (hj:j < f.prods.length) (hg:X.pv = .slice (some ⟨g,0,none⟩) f.prods.length cap) (n:Int) (hn:f.prods[j].right.length ≤ 100000) :
 ∃ v A C w6,rs[j]? = some v ∧ (Builtin.append_ #[32,32] 32 #[v,.slice (some ⟨w.heap.size,0,none⟩) 1 1]).run Tryz.prog (w.alloc (.cells #[.int .i64 n] 3)) = .ok (.slice A (f.prods[j].right.length + 1) C) w6 ∧ w6.cell? ⟨g,j * 3 + 1,none⟩ = some v ∧ w6.frozen? ⟨g,j * 3 + 1,none⟩ = false ∧
  ∃ T',RdW B T' (w6.setCell ⟨g,j * 3 + 1,none⟩ (.slice A (f.prods[j].right.length + 1) C)) rb X st { f with prods:=modP f.prods j fun p => ⟨p.left,p.right ++ [n],p.prec⟩ } lv (rs.set j (.slice A (f.prods[j].right.length + 1) C)) mp ∧ Chg T T' w (w6.setCell ⟨g,j * 3 + 1,none⟩ (.slice A (f.prods[j].right.length + 1) C)):=by
 have hl:=h.rslen
 have hjr:j < rs.length:=by rw [hl];exact hj
 have hz:(f.prods.zip rs).length = f.prods.length:=by rw [List.length_zip,hl,Nat.min_self]
 obtain ⟨g',cap',hg',hg4,p0,p1,p2,pf,pn⟩:=h.prodAt hj
 rw [hg] at hg'
 injection hg' with hg' _ _
 injection hg' with hg'
 injection hg' with hg' _ _
 subst hg'
 obtain ⟨i0,hi0,za,zb,zc⟩:=info_parts Tryz.infIn
 obtain ⟨A,C,w6,hrun,hO,hk,hold,hown⟩:=own_appI (tS:=32) (ty:=32) Tryz.underlying32 hi0 za zb zc rfl (by decide) (h.rights j hjr hj) #[.int .i64 n] rfl (fun u hu => by simp at hu;rw [hu];rfl) hn (by decide) h.base (fun b hb => h.fresh hb)
 have hnr:∀ b,rs[j].ownBlock = some b → T b = 100 + j:=(h.rights j hjr hj).2
 have hgl:g < w.heap.size:=World.block_lt_of_cell? _ _ p1
 have hgk:¬ (rs[j].ownBlock = some g):=fun e => by have:=hnr g e;rw [hg4] at this;omega
 have hgb:w6.heap[g]? = w.heap[g]?:=hk.block g hgl hgk
 refine ⟨rs[j],A,C,w6,List.getElem?_eq_getElem hjr,hrun,hk.cell p1 hgl hgk,?_,tagV T (.slice A (f.prods[j].right.length + 1) C) (100 + j),?_⟩
 · rw [World.frozen?_of_block (a:=⟨g,j * 3 + 1,none⟩) hgb];exact pf _
 have hTT:∃ T',T' = tagV T (.slice A (f.prods[j].right.length + 1) C) (100 + j):=⟨_,rfl⟩
 obtain ⟨T',hT'⟩:=hTT
 rw [← hT'] at hO hold hown ⊢
 have hkF:Kept (fun b => T b = 4 ∨ T b = 100 + j) w (w6.setCell ⟨g,j * 3 + 1,none⟩ (.slice A (f.prods[j].right.length + 1) C)):=(hk.mono (fun b _ e => .inr (hnr b e))).setCell (fun _ => .inl hg4)
 have hsz:(w6.setCell ⟨g,j * 3 + 1,none⟩ (.slice A (f.prods[j].right.length + 1) C)).heap.size = w6.heap.size:=by simp
 have hm:=modP_at (g:=fun p => ⟨p.left,p.right ++ [n],p.prec⟩) hj
 have hg4':T' g = 4:=(hold g hgl).trans hg4
 refine h.chgP (j0:=j) hkF hold (fun b hn9 => ?_) ?_ ?_ ?_ rfl rfl rfl rfl
 · rw [hsz]
   rcases hown b hn9 with h9 | h9
   · exact ⟨(h.own b h9).1,Nat.lt_of_lt_of_le (h.own b h9).2 hk.size⟩
   · exact h9
 · show OwnI _ _ _ _ _ _ X.pv (modP f.prods j _).length (((modP f.prods j _).zip _).flatMap _)
   rw [hm,List.length_set,zip_set,← flat_set (fun x:Pd × Value => prV x.1 x.2) (sz:=3) (fun _ => rfl) (f.prods.zip rs) j 1 _ (.slice A (f.prods[j].right.length + 1) C) (by rw [hz];exact hj) (by decide) (by rw [List.getElem_zip];rfl),hg]
   have h9:OwnI w6 B T' 4 52 3 (.slice (some ⟨g,0,none⟩) f.prods.length cap) f.prods.length ((f.prods.zip rs).flatMap fun x => prV x.1 x.2):=by
    have:=h.prods.kept (F:=fun b => rs[j].ownBlock = some b) hk (fun b e => by rw [hnr b e];omega) hold
    rw [hg] at this
    exact this
   exact h9.setc _
 · show (rs.set j _).length = (modP f.prods j _).length
   rw [hm,List.length_set,List.length_set];exact hl
 · intro i a b
   have a':i < rs.length:=by rw [List.length_set] at a;exact a
   have b':i < f.prods.length:=by rw [← hl];exact a'
   have e8:(modP f.prods j fun p => ⟨p.left,p.right ++ [n],p.prec⟩)[i]'b = (f.prods.set j ⟨f.prods[j].left,f.prods[j].right ++ [n],f.prods[j].prec⟩)[i]'(by rw [List.length_set];exact b'):=by congr 1
   show OwnI _ _ _ _ _ _ ((rs.set j _)[i]'a) ((modP f.prods j fun p => ⟨p.left,p.right ++ [n],p.prec⟩)[i]'b).right.length (((modP f.prods j fun p => ⟨p.left,p.right ++ [n],p.prec⟩)[i]'b).right.flatMap csI)
   rw [e8,List.getElem_set,List.getElem_set]
   by_cases e7:j = i
   · subst e7
     rw [if_pos rfl,if_pos rfl]
     have e6:(f.prods[j].right ++ [n]).flatMap csI = f.prods[j].right.flatMap csI ++ [.int .i64 n]:=by rw [List.flatMap_append,List.flatMap_singleton];rfl
     have e5:(f.prods[j].right ++ [n]).length = f.prods[j].right.length + 1:=by rw [List.length_append];rfl
     show OwnI _ _ _ _ _ _ _ (f.prods[j].right ++ [n]).length ((f.prods[j].right ++ [n]).flatMap csI)
     rw [e6,e5]
     exact ⟨own_set hO.1 (fun e => by have:=hO.2 g e;rw [hg4'] at this;omega),hO.2⟩
   · rw [if_neg e7,if_neg e7]
     exact (h.rights i a' b').kept (F:=fun b => rs[j].ownBlock = some b ∨ b = g) ((hk.mono (fun _ _ e => .inl e)).setCell (fun _ => .inr rfl)) (fun b0 e0 => by
      rcases e0 with e0 | e0
      · rw [hnr b0 e0];omega
      · rw [e0,hg4];omega) hold
end Go.Proofs.YtbpnioehmohbcaaGreat
namespace Go.Proofs.YtbpnioehmohbcaaGreat
open Go.RowKit Go.Maps
set_option maxRecDepth 20000 in
set_option maxHeartbeats 8000000 in
theorem nameK {B rb p q:Nat} {T:Nat → Nat} {w:World} {X:RX} {st:RS} {f:FS} {lv:Value} {rs:List Value} {mp:Option Nat} {x:Wd} (h:RdW B T w rb X st f lv rs mp) (hb:BndS st) (hx:x.2.2.length ≤ 1000000) (ip:Im T w p (boxR rb)) (iq:Im T w q (boxW x)) :
 Calls Tryz.prog 91 #[ptr0 p,ptr0 q] w fun r w' => r = .returned (.int .i64 (if (st.fnd x.2.2).2.2 = 0 then 5 else 0)) ∧ RdR B T w rb X st { f with start:=((st.fnd x.2.2).2.2:Int) } lv w':=by
 have hbd:Below w.heap.size w w.drew:=(Below.refl _ w).drew
 have cd:=Chg.of_below (T:=T) hbd
 have hrd:=h.keep hbd
 have ipd:=ip.keep cd
 have iqd:=iq.keep cd
 have G:=findK hrd hb hx ipd iqd
 have G:Hid (Calls Tryz.prog 92 #[.pointer (some ⟨rb,8,none⟩),.string (strT x.2.2)] w.drew fun r w' => r = .returned (owV (st.fnd x.2.2)) ∧ (w'.cell? ⟨p,0,none⟩ = some (ptr0 rb) ∧ w'.cell? ⟨rb,5,none⟩ = some (.int .i64 f.start) ∧ w'.frozen? ⟨rb,5,none⟩ = false) ∧ ((w'.setCell ⟨rb,5,none⟩ (.int .i64 ((st.fnd x.2.2).2.2:Int))).cell? ⟨p,0,none⟩ = some (ptr0 rb) ∧ (w'.setCell ⟨rb,5,none⟩ (.int .i64 ((st.fnd x.2.2).2.2:Int))).cell? ⟨rb,5,none⟩ = some (.int .i64 ((st.fnd x.2.2).2.2:Int))) ∧ RdR B T w rb X st { f with start:=((st.fnd x.2.2).2.2:Int) } lv (w'.setCell ⟨rb,5,none⟩ (.int .i64 ((st.fnd x.2.2).2.2:Int)))):=hid (G.mono (fun r w' ⟨e,T',mp',hr,hc,i1,i2⟩ => by
  have hk:Kept (oneBlk rb) w' (w'.setCell ⟨rb,5,none⟩ (.int .i64 ((st.fnd x.2.2).2.2:Int))):=(Kept.refl (oneBlk rb) w').setCell (a:=⟨rb,5,none⟩) (fun _ => rfl)
  have hb2:(w'.setCell ⟨rb,5,none⟩ (.int .i64 ((st.fnd x.2.2).2.2:Int))).heap[rb]? = some (rdK (rdC X lv st.levels st.starts { f with start:=((st.fnd x.2.2).2.2:Int) }) (.int .u32 (if mp' = none then 0 else 1)) (.int .i32 0) (.map mp')):=heap_setCell hr.blk
  obtain ⟨h2,c2⟩:=hr.put (f':={ f with start:=((st.fnd x.2.2).2.2:Int) }) hk hb2 rfl rfl
  exact ⟨e,⟨i1.cell rfl,blk_cell hr.blk rfl,blk_frozen hr.blk 5⟩,⟨(i1.keep c2).cell rfl,blk_cell hb2 rfl⟩,T',rs,mp',h2,(cd.trans hc).trans c2⟩))
 have d0:w.drew.cell? ⟨p,0,none⟩ = some (ptr0 rb):=ipd.cell rfl
 have d2:w.drew.cell? ⟨q,2,none⟩ = some (.string (strT x.2.2)):=iqd.cell rfl
 obtain ⟨o,ho⟩:∃ o,st.fnd x.2.2 = o:=⟨_,rfl⟩
 rw [ho] at G ⊢
 have hfd:∀ u:World,(Instr.field 123 (owV o) 2).run Tryz.prog u = .ok (.int .i64 (o.2.2:Int)) u:=fun u => (fldO o u).2.2
 clear h hb hx ip iq hbd cd hrd ipd iqd ho
 obtain ⟨xk,xp,xt⟩:=x
 obtain ⟨oa,ob,oc⟩:=o
 try dsimp only at *
 by_cases hz:oc = 0
 all_goals
  first
   | (have hzz:((oc:Int) == 0) = true:=by rw [beq_iff_eq];omega)
   | (have hzz:((oc:Int) == 0) = false:=by rw [beq_eq_false_iff_ne];omega)
  first | rw [if_pos hz] | rw [if_neg hz]
  clear hz
  go_enter Tryz.func91,Tryz.ntmps91
  go_wp2_with fail
  apply collapseV (F:=fun V => (V.cell? ⟨p,0,none⟩ = some (ptr0 rb) ∧ V.cell? ⟨rb,5,none⟩ = some (.int .i64 (oc:Int))) ∧ RdR B T w rb X st { f with start:=(oc:Int) } lv V)
  case h =>
   intro rest
   go_region_with (go_at_call 92;refine G.out.mono ?_;rintro e u1 ⟨rfl,⟨s0,s1,s2⟩,hs3,hQ⟩;have hs3:=hid hs3;have hQ:=hid hQ)
   all_goals
    have h9:=hs3.out
    have h8:=hQ.out
    generalize u1.setCell ⟨rb,5,none⟩ (.int .i64 (oc:Int)) = V at h9 h8 ⊢
    exact rest V ⟨h9,h8⟩
  case pf =>
   rintro V ⟨⟨s0,s1⟩,hQ⟩
   have hQ:=hid hQ
   go_wp2
   go_ret
   exact ⟨rfl,hQ.out⟩
set_option maxRecDepth 20000 in
set_option maxHeartbeats 8000000 in
theorem precK {B rb p q l j:Nat} {T:Nat → Nat} {w:World} {X:RX} {st:RS} {f:FS} {lv:Value} {rs:List Value} {mp:Option Nat} {x:Wd} (h:RdW B T w rb X st f lv rs mp) (hb:BndS st) (hx:x.2.2.length ≤ 1000000) (hj:j < f.prods.length) (ip:Im T w p (boxR rb)) (iq:Im T w q (boxW x)) (il:Im T w l (boxN j)) (_hjz:f.prods.length ≤ 100000) :
 Calls Tryz.prog 141 #[ptr0 p,ptr0 q,ptr0 l] w fun r w' => r = .returned (.int .i64 (if (st.fnd x.2.2).2.1 = 0 then 5 else 0)) ∧ RdR B T w rb X st (if (st.fnd x.2.2).2.1 = 0 then f else { f with prods:=modP f.prods j fun p => ⟨p.left,p.right,((st.fnd x.2.2).2.1:Int)⟩ }) lv w':=by
 have hbd:Below w.heap.size w w.drew:=(Below.refl _ w).drew
 have cd:=Chg.of_below (T:=T) hbd
 have hrd:=h.keep hbd
 have ipd:=ip.keep cd
 have iqd:=iq.keep cd
 have ild:=il.keep cd
 obtain ⟨g,cap,hg,-⟩:=h.prodAt hj
 have G:=findK hrd hb hx ipd iqd
 have G:Hid (Calls Tryz.prog 92 #[.pointer (some ⟨rb,8,none⟩),.string (strT x.2.2)] w.drew fun r w' => r = .returned (owV (st.fnd x.2.2)) ∧ (w'.drew.cell? ⟨p,0,none⟩ = some (ptr0 rb) ∧ w'.drew.cell? ⟨l,0,none⟩ = some (.int .i64 (j:Int)) ∧ w'.drew.cell? ⟨rb,4,none⟩ = some (.slice (some ⟨g,0,none⟩) f.prods.length cap) ∧ w'.drew.cell? ⟨g,j * 3 + 2,none⟩ = some (.int .i64 f.prods[j].prec) ∧ w'.drew.frozen? ⟨g,j * 3 + 2,none⟩ = false) ∧ RdR B T w rb X st f lv w' ∧ RdR B T w rb X st { f with prods:=modP f.prods j fun p => ⟨p.left,p.right,((st.fnd x.2.2).2.1:Int)⟩ } lv (w'.drew.setCell ⟨g,j * 3 + 2,none⟩ (.int .i64 ((st.fnd x.2.2).2.1:Int)))):=hid (G.mono (fun r w' ⟨e,T',mp',hr,hc,i1,i2⟩ => by
  have hbd':Below w'.heap.size w' w'.drew:=(Below.refl _ w').drew
  have cd':=Chg.of_below (T:=T') hbd'
  have hr':=hr.keep hbd'
  obtain ⟨g',cap',hg',-,-,-,p2,pf,-⟩:=hr'.prodAt hj
  rw [hg] at hg'
  injection hg' with hg1 _ hg3
  injection hg1 with hg1
  injection hg1 with hg1 _ _
  subst hg1
  obtain ⟨h2,c2⟩:=hr'.setPrec hj hg ((st.fnd x.2.2).2.1:Int)
  have i3:=(ild.keep hc).keep cd'
  exact ⟨e,⟨(i1.keep cd').cell rfl,i3.cell rfl,by rw [← hg];exact blk_cell hr'.blk rfl,p2,pf _⟩,⟨T',rs,mp',hr,cd.trans hc⟩,T',rs,mp',h2,((cd.trans hc).trans cd').trans c2⟩))
 have d0:w.drew.cell? ⟨p,0,none⟩ = some (ptr0 rb):=ipd.cell rfl
 have d2:w.drew.cell? ⟨q,2,none⟩ = some (.string (strT x.2.2)):=iqd.cell rfl
 obtain ⟨o,ho⟩:∃ o,st.fnd x.2.2 = o:=⟨_,rfl⟩
 rw [ho] at G ⊢
 have hfd:∀ u:World,(Instr.field 123 (owV o) 1).run Tryz.prog u = .ok (.int .i64 (o.2.1:Int)) u:=fun u => (fldO o u).2.1
 have hjl:(j:Int) < (f.prods.length:Int):=by omega
 clear h hb hx ip iq il hbd cd hrd ipd iqd ild ho hg
 obtain ⟨xk,xp,xt⟩:=x
 obtain ⟨oa,ob,oc⟩:=o
 try dsimp only at *
 generalize f.prods[j].prec = pz at *
 by_cases hz:ob = 0
 · have hzz:((ob:Int) == 0) = true:=by rw [beq_iff_eq];omega
   rw [if_pos hz,if_pos hz]
   clear hz
   go_enter Tryz.func141,Tryz.ntmps141
   go_wp2_with fail
   go_region_with (go_at_call 92;refine G.out.mono ?_;rintro e u1 ⟨rfl,-,hQ,-⟩;have hQ:=hid hQ)
   all_goals
    go_wp2
    go_ret
    exact ⟨rfl,hQ.out⟩
 · have hzz:((ob:Int) == 0) = false:=by rw [beq_eq_false_iff_ne];omega
   rw [if_neg hz,if_neg hz]
   clear hz
   generalize { f with prods:=modP f.prods j fun p => ⟨p.left,p.right,(ob:Int)⟩ } = fF at *
   generalize f.prods.length = np at *
   go_enter Tryz.func141,Tryz.ntmps141
   go_wp2_with fail
   go_region_with (go_at_call 92;refine G.out.mono ?_;rintro e u1 ⟨rfl,⟨s0,s1,s2,s3,s4⟩,-,hQ⟩;have hQ:=hid hQ)
   all_goals
    go_wp2_with fail
    go_region
    all_goals
     go_wp2
     go_ret
     exact ⟨rfl,hQ.out⟩
end Go.Proofs.YtbpnioehmohbcaaGreat
namespace Go.Proofs.YtbpnioehmohbcaaGreat
open Go.RowKit Go.Maps
set_option maxRecDepth 20000 in
set_option maxHeartbeats 8000000 in
theorem levK {B rb p q l a b:Nat} {T:Nat → Nat} {w:World} {X:RX} {st:RS} {f:FS} {lv:Value} {rs:List Value} {mp:Option Nat} {x:Wd} (h:RdW B T w rb X st f lv rs mp) (hb:BndS st) (hx:x.2.2.length ≤ 1000000) (hj:(st.fnd x.2.2).2.1 < f.levels.length) (ip:Im T w p (boxR rb)) (iq:Im T w q (boxW x)) (il:Im T w l (boxL a b)) (_hjz:f.levels.length ≤ 100000) :
 Calls Tryz.prog 125 #[ptr0 p,ptr0 q,ptr0 l] w fun r w' => r = .returned (.int .i64 (if (st.fnd x.2.2).2.1 = 0 then 5 else if 0 < (f.levels.getD (st.fnd x.2.2).2.1 (0,0)).1 then 6 else 0)) ∧ RdR B T w rb X st (if (st.fnd x.2.2).2.1 = 0 then f else if 0 < (f.levels.getD (st.fnd x.2.2).2.1 (0,0)).1 then f else { f with levels:=f.levels.set (st.fnd x.2.2).2.1 ((a:Int),(b:Int)) }) lv w':=by
 have hbd:Below w.heap.size w w.drew:=(Below.refl _ w).drew
 have cd:=Chg.of_below (T:=T) hbd
 have hrd:=h.keep hbd
 have ipd:=ip.keep cd
 have iqd:=iq.keep cd
 have ild:=il.keep cd
 have eD:f.levels.getD (st.fnd x.2.2).2.1 (0,0) = f.levels[(st.fnd x.2.2).2.1]:=by rw [List.getD_eq_getElem?_getD,List.getElem?_eq_getElem hj];rfl
 rw [eD]
 obtain ⟨g,cap,hg,-⟩:=h.levAt hj
 have G:=findK hrd hb hx ipd iqd
 have G:Hid (Calls Tryz.prog 92 #[.pointer (some ⟨rb,8,none⟩),.string (strT x.2.2)] w.drew fun r w' => r = .returned (owV (st.fnd x.2.2)) ∧ (w'.cell? ⟨p,0,none⟩ = some (ptr0 rb) ∧ w'.cell? ⟨rb,3,none⟩ = some (.slice (some ⟨g,0,none⟩) f.levels.length cap) ∧ w'.cell? ⟨g,(st.fnd x.2.2).2.1 * 2,none⟩ = some (.int .i64 f.levels[(st.fnd x.2.2).2.1].1) ∧ w'.cell? ⟨g,(st.fnd x.2.2).2.1 * 2 + 1,none⟩ = some (.int .i64 f.levels[(st.fnd x.2.2).2.1].2) ∧ ∀ k,w'.frozen? ⟨g,k,none⟩ = false) ∧
  (w'.drew.cell? ⟨p,0,none⟩ = some (ptr0 rb) ∧ w'.drew.cell? ⟨rb,3,none⟩ = some (.slice (some ⟨g,0,none⟩) f.levels.length cap) ∧ w'.drew.cell? ⟨l,0,none⟩ = some (.int .i64 (a:Int)) ∧ w'.drew.cell? ⟨l,1,none⟩ = some (.int .i64 (b:Int)) ∧ w'.drew.cell? ⟨g,(st.fnd x.2.2).2.1 * 2,none⟩ = some (.int .i64 f.levels[(st.fnd x.2.2).2.1].1) ∧ w'.drew.frozen? ⟨g,(st.fnd x.2.2).2.1 * 2,none⟩ = false ∧ w'.drew.cell? ⟨g,(st.fnd x.2.2).2.1 * 2 + 1,none⟩ = some (.int .i64 f.levels[(st.fnd x.2.2).2.1].2) ∧ w'.drew.frozen? ⟨g,(st.fnd x.2.2).2.1 * 2 + 1,none⟩ = false) ∧
  RdR B T w rb X st f lv w' ∧ RdR B T w rb X st { f with levels:=f.levels.set (st.fnd x.2.2).2.1 ((a:Int),(b:Int)) } lv ((w'.drew.setCell ⟨g,(st.fnd x.2.2).2.1 * 2,none⟩ (.int .i64 (a:Int))).setCell ⟨g,(st.fnd x.2.2).2.1 * 2 + 1,none⟩ (.int .i64 (b:Int)))):=hid (G.mono (fun r w' ⟨e,T',mp',hr,hc,i1,i2⟩ => by
  have hbd':Below w'.heap.size w' w'.drew:=(Below.refl _ w').drew
  have cd':=Chg.of_below (T:=T') hbd'
  have hr':=hr.keep hbd'
  obtain ⟨g',cap',hg',-,p1,p2,pf,-⟩:=hr'.levAt hj
  obtain ⟨g2,cap2,hg2,-,m1,m2,mf,-⟩:=hr.levAt hj
  rw [hg] at hg' hg2
  injection hg' with hg1 _ hg3
  injection hg1 with hg1
  injection hg1 with hg1 _ _
  subst hg1
  injection hg2 with hg4 _ hg5
  injection hg4 with hg4
  injection hg4 with hg4 _ _
  subst hg4
  obtain ⟨h2,c2⟩:=hr'.setLev hj hg (a:Int) (b:Int)
  have i3:=(ild.keep hc).keep cd'
  refine ⟨e,⟨i1.cell rfl,by rw [← hg];exact blk_cell hr.blk rfl,m1,m2,mf⟩,⟨(i1.keep cd').cell rfl,by rw [← hg];exact blk_cell hr'.blk rfl,i3.cell rfl,i3.cell rfl,p1,pf _,p2,pf _⟩,⟨T',rs,mp',hr,cd.trans hc⟩,T',rs,mp',h2,((cd.trans hc).trans cd').trans c2⟩))
 have d0:w.drew.cell? ⟨p,0,none⟩ = some (ptr0 rb):=ipd.cell rfl
 have d2:w.drew.cell? ⟨q,2,none⟩ = some (.string (strT x.2.2)):=iqd.cell rfl
 have hjl:((st.fnd x.2.2).2.1:Int) < (f.levels.length:Int):=by omega
 have hfd:∀ u:World,(Instr.field 123 (owV (st.fnd x.2.2)) 1).run Tryz.prog u = .ok (.int .i64 ((st.fnd x.2.2).2.1:Int)) u:=fun u => (fldO (st.fnd x.2.2) u).2.1
 clear h hb hx ip iq il hbd cd hrd ipd iqd ild hg eD
 obtain ⟨y,hy⟩:∃ y,f.levels[(st.fnd x.2.2).2.1] = y:=⟨_,rfl⟩
 rw [hy] at G ⊢
 clear hy hj
 generalize st.fnd x.2.2 = o at *
 obtain ⟨xk,xp,xt⟩:=x
 obtain ⟨oa,ob,oc⟩:=o
 obtain ⟨y1,y2⟩:=y
 try dsimp only at *
 generalize { f with levels:=f.levels.set ob ((a:Int),(b:Int)) } = fF at *
 generalize f.levels.length = np at *
 by_cases hz:ob = 0
 · have hzz:((ob:Int) == 0) = true:=by rw [beq_iff_eq];omega
   rw [if_pos hz,if_pos hz]
   clear hz
   go_enter Tryz.func125,Tryz.ntmps125
   go_wp2_with fail
   go_region_with (go_at_call 92;refine G.out.mono ?_;rintro e u1 ⟨rfl,-,-,hQ,-⟩;have hQ:=hid hQ)
   all_goals
    go_wp2
    go_ret
    exact ⟨rfl,hQ.out⟩
 · have hzz:((ob:Int) == 0) = false:=by rw [beq_eq_false_iff_ne];omega
   rw [if_neg hz,if_neg hz]
   clear hz
   by_cases hy:0 < y1
   · rw [if_pos hy,if_pos hy]
     go_enter Tryz.func125,Tryz.ntmps125
     go_wp2_with fail
     go_region_with (go_at_call 92;refine G.out.mono ?_;rintro e u1 ⟨rfl,⟨s0,s1,s2,s3,s4⟩,-,hQ,-⟩;have hQ:=hid hQ)
     all_goals
      go_wp2
      go_ret
      exact ⟨rfl,hQ.out⟩
   · rw [if_neg hy,if_neg hy]
     go_enter Tryz.func125,Tryz.ntmps125
     go_wp2_with fail
     go_region_with (go_at_call 92;refine G.out.mono ?_;rintro e u1 ⟨rfl,⟨s0,s1,s2,s3,s4⟩,⟨r0,r1,r2,r3,r4,r5,r6,r7⟩,-,hQ⟩;have hQ:=hid hQ;have s5:=s4 (ob * 2);have s6:=s4 (ob * 2 + 1))
     all_goals
      go_wp2_with fail
      go_region
      all_goals
       go_wp2
       go_ret
       exact ⟨rfl,hQ.out⟩
end Go.Proofs.YtbpnioehmohbcaaGreat
namespace Go.Proofs.YtbpnioehmohbcaaGreat
open Go.RowKit Go.Maps
def SyF (B:Nat) (T:Nat → Nat) (w:World) (rb:Nat) (X:RX) (st:RS) (f:FS) (lv:Value) (o:Ow) (V:World) (q:Nat):Prop:=∃ T' rs mp,RdW B T' V rb X st f lv rs mp ∧ Chg T T' w V ∧ Im T' V q (boxO o)
theorem collapse2' {R F:World → Nat → Prop} {G:Prop} (h:(∀ V q,F V q → R V q) → G) (pf:∀ V q,F V q → R V q):G:=h pf
theorem RdW.boxQ {B rb:Nat} {T T3:Nat → Nat} {W u:World} {X:RX} {st:RS} {f:FS} {lv:Value} {rs:List Value} {mp:Option Nat} (o:Ow) (hc:Chg (tagT T W.heap.size 77) T3 (W.alloc boxO0) u) (hr:RdW B T3 u rb X st f lv rs mp) (_h0:T W.heap.size = 0) :
 u.heap[W.heap.size]? = some boxO0 ∧ ∃ T',RdW B T' (((u.setCell ⟨W.heap.size,0,none⟩ (.int .i64 (o.1:Int))).setCell ⟨W.heap.size,1,none⟩ (.int .i64 (o.2.1:Int))).setCell ⟨W.heap.size,2,none⟩ (.int .i64 (o.2.2:Int))) rb X st f lv rs mp ∧ Chg T T' W (((u.setCell ⟨W.heap.size,0,none⟩ (.int .i64 (o.1:Int))).setCell ⟨W.heap.size,1,none⟩ (.int .i64 (o.2.1:Int))).setCell ⟨W.heap.size,2,none⟩ (.int .i64 (o.2.2:Int))) ∧ Im T' (((u.setCell ⟨W.heap.size,0,none⟩ (.int .i64 (o.1:Int))).setCell ⟨W.heap.size,1,none⟩ (.int .i64 (o.2.1:Int))).setCell ⟨W.heap.size,2,none⟩ (.int .i64 (o.2.2:Int))) W.heap.size (boxO o):=by
 have hal:=al' W boxO0
 have hz:W.heap.size < (W.alloc boxO0).heap.size:=by rw [World.size_alloc];omega
 have hq:tagT T W.heap.size 77 W.heap.size = 77:=if_pos rfl
 have hq3:T3 W.heap.size = 77:=(hc.tag _ hz).trans hq
 have hbx:u.heap[W.heap.size]? = some boxO0:=hc.kept.blk (heap_new W boxO0) (fun e => e.2 hq)
 have hF:Kept (oneBlk W.heap.size) u (((u.setCell ⟨W.heap.size,0,none⟩ (.int .i64 (o.1:Int))).setCell ⟨W.heap.size,1,none⟩ (.int .i64 (o.2.1:Int))).setCell ⟨W.heap.size,2,none⟩ (.int .i64 (o.2.2:Int))):=(((Kept.refl (oneBlk W.heap.size) u).setCell (a:=⟨W.heap.size,0,none⟩) (fun _ => rfl)).setCell (a:=⟨W.heap.size,1,none⟩) (fun _ => rfl)).setCell (a:=⟨W.heap.size,2,none⟩) (fun _ => rfl)
 refine ⟨hbx,tagT T3 W.heap.size 0,?_,?_,if_pos rfl,heap_setCell (heap_setCell (heap_setCell hbx))⟩
 · refine hr.kept hF (fun b e => by rw [show b = W.heap.size from e,hq3]) (fun b _ h7 => if_neg (fun e => h7 (by rw [e,hq3]))) (fun b hn => ?_)
   have hb:b ≠ W.heap.size:=fun e => hn (by rw [e];exact if_pos rfl)
   have e9:tagT T3 W.heap.size 0 b = T3 b:=if_neg hb
   rw [e9] at hn
   exact ⟨(hr.own b hn).1,Nat.lt_of_lt_of_le (hr.own b hn).2 hF.size⟩
 · have ht:∀ b,b < W.heap.size → tagT T3 W.heap.size 0 b = T b:=fun b hb => by
    have e1:tagT T3 W.heap.size 0 b = T3 b:=if_neg (by omega)
    have e2:tagT T W.heap.size 77 b = T b:=if_neg (by omega)
    rw [e1,hc.tag b (by omega),e2]
   refine ⟨?_,ht⟩
   have k1:Kept (fun b => T b ≠ 0 ∧ T b ≠ 77) W u:=(Kept.of_below hal).step hc.kept (fun k hk e => by
    have e2:tagT T W.heap.size 77 k = T k:=if_neg (by omega)
    rw [e2] at e
    exact e)
   exact k1.step hF (fun k hk e => absurd hk (by rw [show k = W.heap.size from e];exact Nat.lt_irrefl _))
set_option maxRecDepth 20000 in
theorem symA {B rb j q:Nat} {T:Nat → Nat} {w V:World} {X:RX} {st:RS} {f:FS} {lv:Value} {o:Ow} (h:SyF B T w rb X st f lv o V q) (hj:j < f.prods.length) {g cap:Nat} (hg:X.pv = .slice (some ⟨g,0,none⟩) f.prods.length cap) (n:Int) (hn:f.prods[j].right.length ≤ 100000) :
 ∃ v A C w6,(V.drew.cell? ⟨g,j * 3 + 1,none⟩ = some v ∧ V.drew.cell? ⟨q,1,none⟩ = some (.int .i64 (o.2.1:Int)) ∧ V.drew.cell? ⟨q,2,none⟩ = some (.int .i64 (o.2.2:Int))) ∧ ((V.alloc (.cells #[.int .i64 n] 3)).drew.cell? ⟨g,j * 3 + 1,none⟩ = some v ∧ (V.alloc (.cells #[.int .i64 n] 3)).drew.cell? ⟨q,1,none⟩ = some (.int .i64 (o.2.1:Int)) ∧ (V.alloc (.cells #[.int .i64 n] 3)).drew.cell? ⟨q,2,none⟩ = some (.int .i64 (o.2.2:Int))) ∧
  (Builtin.append_ #[32,32] 32 #[v,.slice (some ⟨V.heap.size,0,none⟩) 1 1]).run Tryz.prog (V.alloc (.cells #[.int .i64 n] 3)).drew = .ok (.slice A (f.prods[j].right.length + 1) C) w6 ∧ w6.cell? ⟨g,j * 3 + 1,none⟩ = some v ∧ w6.frozen? ⟨g,j * 3 + 1,none⟩ = false ∧
  (let F:=w6.setCell ⟨g,j * 3 + 1,none⟩ (.slice A (f.prods[j].right.length + 1) C)
   RdR B T w rb X st { f with prods:=modP f.prods j fun p => ⟨p.left,p.right ++ [n],p.prec⟩ } lv F ∧ F.cell? ⟨q,1,none⟩ = some (.int .i64 (o.2.1:Int)) ∧ F.cell? ⟨g,j * 3 + 2,none⟩ = some (.int .i64 f.prods[j].prec) ∧ F.frozen? ⟨g,j * 3 + 2,none⟩ = false ∧
   ∀ k:Int,RdR B T w rb X st { f with prods:=modP f.prods j fun p => ⟨p.left,p.right ++ [n],k⟩ } lv (F.setCell ⟨g,j * 3 + 2,none⟩ (.int .i64 k))):=by
 obtain ⟨T',rs,mp,hr,hc,iq⟩:=h
 have hbd:Below V.heap.size V V.drew:=(Below.refl _ V).drew
 have cd:=Chg.of_below (T:=T') hbd
 have hr':=hr.keep hbd
 have iq':=iq.keep cd
 obtain ⟨v,A,C,w6,hv,hrun,k1,k2,T2,h2,c2⟩:=hr'.appRight hj hg n hn
 obtain ⟨g',cap',hg',-,-,p1,p2,pf,-⟩:=hr'.prodAt hj
 rw [hg] at hg'
 injection hg' with hg1 _ hg3
 injection hg1 with hg1
 injection hg1 with hg1 _ _
 subst hg1
 have hv':rs[j]'(by rw [hr'.rslen];exact hj) = v:=by rw [List.getElem?_eq_getElem (by rw [hr'.rslen];exact hj)] at hv;injection hv
 rw [hv'] at p1
 have hba:Below V.drew.heap.size V.drew (V.alloc (.cells #[.int .i64 n] 3)).drew:=al' V.drew _
 have i2:=iq'.keep c2
 have hm:=modP_at (g:=fun p => (⟨p.left,p.right ++ [n],p.prec⟩:Pd)) hj
 have hj2:j < ({ f with prods:=modP f.prods j fun p => ⟨p.left,p.right ++ [n],p.prec⟩ }:FS).prods.length:=by show j < (modP f.prods j _).length;rw [hm,List.length_set];exact hj
 have hl2:({ f with prods:=modP f.prods j fun p => ⟨p.left,p.right ++ [n],p.prec⟩ }:FS).prods.length = f.prods.length:=by show (modP f.prods j _).length = _;rw [hm,List.length_set]
 obtain ⟨g2,cap2,hg2,-,-,-,q2,qf,-⟩:=h2.prodAt hj2
 rw [hg] at hg2
 injection hg2 with hg4 _ hg5
 injection hg4 with hg4
 injection hg4 with hg4 _ _
 subst hg4
 have e8:({ f with prods:=modP f.prods j fun p => ⟨p.left,p.right ++ [n],p.prec⟩ }:FS).prods[j] = ⟨f.prods[j].left,f.prods[j].right ++ [n],f.prods[j].prec⟩:=by
  have:(modP f.prods j fun p => (⟨p.left,p.right ++ [n],p.prec⟩:Pd))[j]'hj2 = (f.prods.set j ⟨f.prods[j].left,f.prods[j].right ++ [n],f.prods[j].prec⟩)[j]'(by rw [List.length_set];exact hj):=by congr 1
  show (modP f.prods j fun p => (⟨p.left,p.right ++ [n],p.prec⟩:Pd))[j]'hj2 = _
  rw [this,List.getElem_set_self]
 rw [e8] at q2
 refine ⟨v,A,C,w6,⟨p1,iq'.cell rfl,iq'.cell rfl⟩,⟨keep_cell hba p1,keep_cell hba (iq'.cell rfl),keep_cell hba (iq'.cell rfl)⟩,hrun,k1,k2,⟨T2,_,mp,h2,(hc.trans cd).trans c2⟩,i2.cell rfl,q2,qf _,fun k => ?_⟩
 obtain ⟨h3,c3⟩:=h2.setPrec hj2 (by rw [hl2];exact hg) k
 have e7:modP (modP f.prods j fun p => (⟨p.left,p.right ++ [n],p.prec⟩:Pd)) j (fun p => ⟨p.left,p.right,k⟩) = modP f.prods j fun p => ⟨p.left,p.right ++ [n],k⟩:=by
  have hj3:j < (f.prods.set j ⟨f.prods[j].left,f.prods[j].right ++ [n],f.prods[j].prec⟩).length:=by rw [List.length_set];exact hj
  rw [hm,modP_at hj3,modP_at hj,List.getElem_set_self,List.set_set]
 have h3:RdW B T2 _ rb X st { f with prods:=modP (modP f.prods j fun p => (⟨p.left,p.right ++ [n],p.prec⟩:Pd)) j (fun p => ⟨p.left,p.right,k⟩) } lv _ mp:=h3
 rw [e7] at h3
 exact ⟨T2,_,mp,h3,((hc.trans cd).trans c2).trans c3⟩
end Go.Proofs.YtbpnioehmohbcaaGreat
