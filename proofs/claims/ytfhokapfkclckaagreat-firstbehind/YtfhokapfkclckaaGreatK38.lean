/- What is left to be done, done: a symbol. What is left to be done, done: a symbol. The second pass begins: levels are made, left sides told; a fault is kept. What is left to be done, one by one: each step by its contract. -/
import Derived.Test.YtfhokapfkclckaaGreatK37
import Derived.Test.YtfhokapfkclckaaGreatK27
namespace Go.Proofs.YtfhokapfkclckaaGreat
open Go.RowKit Go.Maps
def SyF (B:Nat) (T:Nat → Nat) (w:World) (rb:Nat) (X:RX) (st:RS) (f:FS) (lv:Value) (o:Ow) (V:World) (q:Nat):Prop:=∃ T' rs mp,RdW B T' V rb X st f lv rs mp ∧ Chg T T' w V ∧ Im T' V q (boxO o)
theorem collapse2' {R F:World → Nat → Prop} {G:Prop} (h:(∀ V q,F V q → R V q) → G) (pf:∀ V q,F V q → R V q):G:=h pf
theorem RdW.boxQ {B rb:Nat} {T T3:Nat → Nat} {W u:World} {X:RX} {st:RS} {f:FS} {lv:Value} {rs:List Value} {mp:Option Nat} (o:Ow) (hc:Chg (tagT T W.heap.size 77) T3 (W.alloc boxO0) u) (hr:RdW B T3 u rb X st f lv rs mp) (_h0:T W.heap.size = 0) :
 u.heap[W.heap.size]? = some boxO0 ∧ ∃ T',RdW B T' (((u.setCell ⟨W.heap.size,0,none⟩ (.int .i64 (o.1:Int))).setCell ⟨W.heap.size,1,none⟩ (.int .i64 (o.2.1:Int))).setCell ⟨W.heap.size,2,none⟩ (.int .i64 (o.2.2:Int))) rb X st f lv rs mp ∧ Chg T T' W (((u.setCell ⟨W.heap.size,0,none⟩ (.int .i64 (o.1:Int))).setCell ⟨W.heap.size,1,none⟩ (.int .i64 (o.2.1:Int))).setCell ⟨W.heap.size,2,none⟩ (.int .i64 (o.2.2:Int))) ∧ Im T' (((u.setCell ⟨W.heap.size,0,none⟩ (.int .i64 (o.1:Int))).setCell ⟨W.heap.size,1,none⟩ (.int .i64 (o.2.1:Int))).setCell ⟨W.heap.size,2,none⟩ (.int .i64 (o.2.2:Int))) W.heap.size (boxO o):=by
 have hal:=al' W boxO0
 have hz:W.heap.size < (W.alloc boxO0).heap.size:=by rw [World.size_alloc];omega
 have hq:tagT T W.heap.size 77 W.heap.size = 77:=if_pos rfl
 have hq3:T3 W.heap.size = 77:=(hc.tag _ hz).trans hq
 have hbx:u.heap[W.heap.size]? = some boxO0:=hc.kept.blk (heap_new W boxO0) (fun e => e.2 hq)
 have hF:Kept (oneBlk W.heap.size) u (((u.setCell ⟨W.heap.size,0,none⟩ (.int .i64 (o.1:Int))).setCell ⟨W.heap.size,1,none⟩ (.int .i64 (o.2.1:Int))).setCell ⟨W.heap.size,2,none⟩ (.int .i64 (o.2.2:Int))):=(((Kept.refl (oneBlk W.heap.size) u).setCell (a:=⟨W.heap.size,0,none⟩) (fun _ => rfl)).setCell (a:=⟨W.heap.size,1,none⟩) (fun _ => rfl)).setCell (a:=⟨W.heap.size,2,none⟩) (fun _ => rfl)
 refine ⟨hbx,tagT T3 W.heap.size 0,?_,?_,if_pos rfl,heap_setCell (heap_setCell (heap_setCell hbx))⟩
 · refine hr.kept hF (fun b e => by rw [show b = W.heap.size from e,hq3]) (fun b _ h7 => if_neg (fun e => h7 (by rw [e,hq3]))) (fun b hn => ?_)
   have hb:b ≠ W.heap.size:=fun e => hn (by rw [e];exact if_pos rfl)
   have e9:tagT T3 W.heap.size 0 b = T3 b:=if_neg hb
   rw [e9] at hn
   exact ⟨(hr.own b hn).1,Nat.lt_of_lt_of_le (hr.own b hn).2 hF.size⟩
 · have ht:∀ b,b < W.heap.size → tagT T3 W.heap.size 0 b = T b:=fun b hb => by
    have e1:tagT T3 W.heap.size 0 b = T3 b:=if_neg (by omega)
    have e2:tagT T W.heap.size 77 b = T b:=if_neg (by omega)
    rw [e1,hc.tag b (by omega),e2]
   refine ⟨?_,ht⟩
   have k1:Kept (fun b => T b ≠ 0 ∧ T b ≠ 77) W u:=(Kept.of_below hal).step hc.kept (fun k hk e => by
    have e2:tagT T W.heap.size 77 k = T k:=if_neg (by omega)
    rw [e2] at e
    exact e)
   exact k1.step hF (fun k hk e => absurd hk (by rw [show k = W.heap.size from e];exact Nat.lt_irrefl _))
set_option maxRecDepth 20000 in
theorem symA {B rb j q:Nat} {T:Nat → Nat} {w V:World} {X:RX} {st:RS} {f:FS} {lv:Value} {o:Ow} (h:SyF B T w rb X st f lv o V q) (hj:j < f.prods.length) {g cap:Nat} (hg:X.pv = .slice (some ⟨g,0,none⟩) f.prods.length cap) (n:Int) (hn:f.prods[j].right.length ≤ 100000) :
 ∃ v A C w6,(V.drew.cell? ⟨g,j * 3 + 1,none⟩ = some v ∧ V.drew.cell? ⟨q,1,none⟩ = some (.int .i64 (o.2.1:Int)) ∧ V.drew.cell? ⟨q,2,none⟩ = some (.int .i64 (o.2.2:Int))) ∧ ((V.alloc (.cells #[.int .i64 n] 3)).drew.cell? ⟨g,j * 3 + 1,none⟩ = some v ∧ (V.alloc (.cells #[.int .i64 n] 3)).drew.cell? ⟨q,1,none⟩ = some (.int .i64 (o.2.1:Int)) ∧ (V.alloc (.cells #[.int .i64 n] 3)).drew.cell? ⟨q,2,none⟩ = some (.int .i64 (o.2.2:Int))) ∧
  (Builtin.append_ #[30,30] 30 #[v,.slice (some ⟨V.heap.size,0,none⟩) 1 1]).run Tryz.prog (V.alloc (.cells #[.int .i64 n] 3)).drew = .ok (.slice A (f.prods[j].right.length + 1) C) w6 ∧ w6.cell? ⟨g,j * 3 + 1,none⟩ = some v ∧ w6.frozen? ⟨g,j * 3 + 1,none⟩ = false ∧
  (let F:=w6.setCell ⟨g,j * 3 + 1,none⟩ (.slice A (f.prods[j].right.length + 1) C)
   RdR B T w rb X st { f with prods:=modP f.prods j fun p => ⟨p.left,p.right ++ [n],p.prec⟩ } lv F ∧ F.cell? ⟨q,1,none⟩ = some (.int .i64 (o.2.1:Int)) ∧ F.cell? ⟨g,j * 3 + 2,none⟩ = some (.int .i64 f.prods[j].prec) ∧ F.frozen? ⟨g,j * 3 + 2,none⟩ = false ∧
   ∀ k:Int,RdR B T w rb X st { f with prods:=modP f.prods j fun p => ⟨p.left,p.right ++ [n],k⟩ } lv (F.setCell ⟨g,j * 3 + 2,none⟩ (.int .i64 k))):=by
 obtain ⟨T',rs,mp,hr,hc,iq⟩:=h
 have hbd:Below V.heap.size V V.drew:=(Below.refl _ V).drew
 have cd:=Chg.of_below (T:=T') hbd
 have hr':=hr.keep hbd
 have iq':=iq.keep cd
 obtain ⟨v,A,C,w6,hv,hrun,k1,k2,T2,h2,c2⟩:=hr'.appRight hj hg n hn
 obtain ⟨g',cap',hg',-,-,p1,p2,pf,-⟩:=hr'.prodAt hj
 rw [hg] at hg'
 injection hg' with hg1 _ hg3
 injection hg1 with hg1
 injection hg1 with hg1 _ _
 subst hg1
 have hv':rs[j]'(by rw [hr'.rslen];exact hj) = v:=by rw [List.getElem?_eq_getElem (by rw [hr'.rslen];exact hj)] at hv;injection hv
 rw [hv'] at p1
 have hba:Below V.drew.heap.size V.drew (V.alloc (.cells #[.int .i64 n] 3)).drew:=al' V.drew _
 have i2:=iq'.keep c2
 have hm:=modP_at (g:=fun p => (⟨p.left,p.right ++ [n],p.prec⟩:Pd)) hj
 have hj2:j < ({ f with prods:=modP f.prods j fun p => ⟨p.left,p.right ++ [n],p.prec⟩ }:FS).prods.length:=by show j < (modP f.prods j _).length;rw [hm,List.length_set];exact hj
 have hl2:({ f with prods:=modP f.prods j fun p => ⟨p.left,p.right ++ [n],p.prec⟩ }:FS).prods.length = f.prods.length:=by show (modP f.prods j _).length = _;rw [hm,List.length_set]
 obtain ⟨g2,cap2,hg2,-,-,-,q2,qf,-⟩:=h2.prodAt hj2
 rw [hg] at hg2
 injection hg2 with hg4 _ hg5
 injection hg4 with hg4
 injection hg4 with hg4 _ _
 subst hg4
 have e8:({ f with prods:=modP f.prods j fun p => ⟨p.left,p.right ++ [n],p.prec⟩ }:FS).prods[j] = ⟨f.prods[j].left,f.prods[j].right ++ [n],f.prods[j].prec⟩:=by
  have:(modP f.prods j fun p => (⟨p.left,p.right ++ [n],p.prec⟩:Pd))[j]'hj2 = (f.prods.set j ⟨f.prods[j].left,f.prods[j].right ++ [n],f.prods[j].prec⟩)[j]'(by rw [List.length_set];exact hj):=by congr 1
  show (modP f.prods j fun p => (⟨p.left,p.right ++ [n],p.prec⟩:Pd))[j]'hj2 = _
  rw [this,List.getElem_set_self]
 rw [e8] at q2
 refine ⟨v,A,C,w6,⟨p1,iq'.cell rfl,iq'.cell rfl⟩,⟨keep_cell hba p1,keep_cell hba (iq'.cell rfl),keep_cell hba (iq'.cell rfl)⟩,hrun,k1,k2,⟨T2,_,mp,h2,(hc.trans cd).trans c2⟩,i2.cell rfl,q2,qf _,fun k => ?_⟩
 obtain ⟨h3,c3⟩:=h2.setPrec hj2 (by rw [hl2];exact hg) k
 have e7:modP (modP f.prods j fun p => (⟨p.left,p.right ++ [n],p.prec⟩:Pd)) j (fun p => ⟨p.left,p.right,k⟩) = modP f.prods j fun p => ⟨p.left,p.right ++ [n],k⟩:=by
  have hj3:j < (f.prods.set j ⟨f.prods[j].left,f.prods[j].right ++ [n],f.prods[j].prec⟩).length:=by rw [List.length_set];exact hj
  rw [hm,modP_at hj3,modP_at hj,List.getElem_set_self,List.set_set]
 have h3:RdW B T2 _ rb X st { f with prods:=modP (modP f.prods j fun p => (⟨p.left,p.right ++ [n],p.prec⟩:Pd)) j (fun p => ⟨p.left,p.right,k⟩) } lv _ mp:=h3
 rw [e7] at h3
 exact ⟨T2,_,mp,h3,((hc.trans cd).trans c2).trans c3⟩
def symR (o:Ow) (j:Nat) (f:FS):FS × Int:=if 0 < o.2.1 then ({ f with prods:=modP f.prods j fun p => ⟨p.left,p.right ++ [(o.2.1:Int)],(o.2.1:Int)⟩ },0) else if 0 < o.2.2 then ({ f with prods:=modP f.prods j fun p => ⟨p.left,p.right ++ [(o.2.2:Int)],p.prec⟩ },0) else (f,5)
set_option maxRecDepth 20000 in
set_option maxHeartbeats 16000000 in
theorem symK {B rb p q l j:Nat} {T:Nat → Nat} {w:World} {X:RX} {st:RS} {f:FS} {lv:Value} {rs:List Value} {mp:Option Nat} {x:Wd} (h:RdW B T w rb X st f lv rs mp) (hb:BndS st) (hx:x.2.2.length ≤ 1000000) (hj:j < f.prods.length) (ip:Im T w p (boxR rb)) (iq:Im T w q (boxW x)) (il:Im T w l (boxN j)) (_hjz:f.prods.length ≤ 100000) (hn:f.prods[j].right.length ≤ 100000) :
 Calls Tryz.prog 148 #[ptr0 p,ptr0 l,ptr0 q] w fun r w' => r = .returned (.int .i64 (symR (st.fnd x.2.2) j f).2) ∧ RdR B T w rb X st (symR (st.fnd x.2.2) j f).1 lv w':=by
 obtain ⟨g,cap,hg,-⟩:=h.prodAt hj
 obtain ⟨W,hW⟩:∃ y,w.drew = y:=⟨_,rfl⟩
 have hbW:Below w.heap.size w W:=by rw [← hW];exact (Below.refl _ w).drew
 have cW:=Chg.of_below (T:=T) hbW
 have hrW:=h.keep hbW
 have ipW:=ip.keep cW
 have iqW:=iq.keep cW
 have hbd:Below W.heap.size W W.drew:=(Below.refl _ W).drew
 have cd:=Chg.of_below (T:=T) hbd
 have hrd:=hrW.keep hbd
 have ipd:=ipW.keep cd
 have iqd:=iqW.keep cd
 have r0:W.cell? ⟨p,0,none⟩ = some (ptr0 rb):=ipW.cell rfl
 have r1:W.cell? ⟨l,0,none⟩ = some (.int .i64 (j:Int)):=(il.keep cW).cell rfl
 have r2:W.cell? ⟨rb,4,none⟩ = some (.slice (some ⟨g,0,none⟩) f.prods.length cap):=by rw [← hg];exact blk_cell hrW.blk rfl
 have d0:W.drew.cell? ⟨p,0,none⟩ = some (ptr0 rb):=ipd.cell rfl
 have d2:W.drew.cell? ⟨q,2,none⟩ = some (.string (strT x.2.2)):=iqd.cell rfl
 have hba:Below W.drew.heap.size W.drew (W.alloc boxO0).drew:=al' W.drew boxO0
 have f0:=keep_cell hba d0
 have f2:=keep_cell hba d2
 obtain ⟨o,ho⟩:∃ o,st.fnd x.2.2 = o:=⟨_,rfl⟩
 have GF0:Hid (Calls Tryz.prog 111 #[.pointer (some ⟨rb,8,none⟩),.string (strT x.2.2)] W.drew fun r u => r = .returned (owV o) ∧ SyF B T w rb X st f lv o (u.alloc (boxO o)) u.heap.size):=hid ((findC hrd hb x.2.2 hx).mono (fun r u ⟨e,T',mp',hr,hc⟩ => by
  have hal:=al' u (boxO o)
  exact ⟨by rw [← ho];exact e,T',rs,mp',hr.keep hal,((cW.trans cd).trans hc).trans (Chg.of_below hal),hr.fresh (Nat.le_refl _),heap_new u _⟩))
 have GF1:Hid (Calls Tryz.prog 111 #[.pointer (some ⟨rb,8,none⟩),.string (strT x.2.2)] (W.alloc boxO0).drew fun r u => r = .returned (owV o) ∧ u.heap[W.heap.size]? = some boxO0 ∧ SyF B T w rb X st f lv o (((u.setCell ⟨W.heap.size,0,none⟩ (.int .i64 (o.1:Int))).setCell ⟨W.heap.size,1,none⟩ (.int .i64 (o.2.1:Int))).setCell ⟨W.heap.size,2,none⟩ (.int .i64 (o.2.2:Int))) W.heap.size):=hid (by
  obtain ⟨h5,c5⟩:=hrd.aside (q:=W.drew.heap.size) (al' W.drew boxO0) (Nat.le_refl _) (by rw [World.size_alloc];omega)
  refine (findC h5 hb x.2.2 hx).mono ?_
  rintro r u ⟨e,T',mp',hr,hc⟩
  obtain ⟨a1,T9,a2,a3,a4⟩:=RdW.boxQ (W:=W.drew) (T:=T) o hc hr (hrd.fresh (Nat.le_refl _))
  exact ⟨by rw [← ho];exact e,a1,T9,rs,mp',a2,(cW.trans cd).trans a3,a4⟩)
 have HA:Hid (∀ V q9 (n:Int),SyF B T w rb X st f lv o V q9 → _):=hid (fun V q9 n hF => symA hF hj hg n hn)
 have HC:Hid (∀ V q9,SyF B T w rb X st f lv o V q9 → V.cell? ⟨q9,1,none⟩ = some (.int .i64 (o.2.1:Int)) ∧ V.cell? ⟨q9,2,none⟩ = some (.int .i64 (o.2.2:Int)) ∧ RdR B T w rb X st f lv V):=hid (fun V q9 ⟨T',rs',mp',a1,a2,a3⟩ => ⟨a3.cell rfl,a3.cell rfl,T',rs',mp',a1,a2⟩)
 rw [ho]
 have hjl:(j:Int) < (f.prods.length:Int):=by omega
 clear h hb hx ip iq il hbW cW hrW ipW iqW hbd cd hrd ipd iqd hba ho
 unfold symR
 obtain ⟨xk,xp,xt⟩:=x
 obtain ⟨oa,ob,oc⟩:=o
 try dsimp only at *
 generalize f.prods[j].right.length = nr at *
 generalize f.prods[j].prec = pz at *
 have hcs:(0 < ob) ∨ (ob = 0 ∧ 0 < oc) ∨ (ob = 0 ∧ oc = 0):=by omega
 rcases hcs with hz | ⟨hz,hy⟩ | ⟨hz,hy⟩
 · have hzz:(0:Int) < (ob:Int):=by omega
   rw [if_pos hz]
   clear hz
   go_enter Tryz.func148,Tryz.ntmps148
   go_wp2_with fail
   go_region
   all_goals
    try rw [hW]
    clear r0 r1 r2 hW
    go_wp2_with fail
    apply collapse2' (F:=fun V q9 => SyF B T w rb X st f lv (oa,ob,oc) V q9)
    case h =>
     intro rest
     go_region_with (first
      | (go_at_call 111;refine GF0.out.mono ?_;rintro e u ⟨rfl,hf⟩;have hf9:=hid hf;clear hf)
      | (go_at_call 111;refine GF1.out.mono ?_;rintro e u ⟨rfl,hb9,hf⟩;have hf9:=hid hf;clear hf;obtain ⟨⟨m0,m1⟩,⟨m2,m3⟩,⟨m4,m5⟩,m6,m7,m8⟩:=putT3 hb9 (.int .i64 (oa:Int)) (.int .i64 (ob:Int)) (.int .i64 (oc:Int));clear hb9 m6 m7 m8))
     all_goals
      have hf:=hf9.out
      clear hf9
      first
       | (generalize ((u.setCell ⟨W.heap.size,0,none⟩ (.int .i64 (oa:Int))).setCell ⟨W.heap.size,1,none⟩ (.int .i64 (ob:Int))).setCell ⟨W.heap.size,2,none⟩ (.int .i64 (oc:Int)) = V at hf ⊢;generalize W.heap.size = q9 at hf ⊢;exact rest V q9 hf)
       | (generalize u.alloc (boxO (oa,ob,oc)) = V at hf ⊢;generalize u.heap.size = q9 at hf ⊢;exact rest V q9 hf)
    case pf =>
     rintro V q9 hF
     obtain ⟨t1,t2,hQ0⟩:=HC.out V q9 hF
     obtain ⟨v,A,C,w6,⟨a0,a1,a2⟩,⟨b0,b1,b2⟩,hrun,k1,k2,hR1,hR2,hR3,hR4,hR5⟩:=HA.out V q9 (ob:Int) hF
     have hR1:=hid hR1
     have hR5:=hid hR5
     clear HA HC GF0 GF1 hF hQ0 d0 d2 f0 f2
     go_wp2_with fail
     apply collapse
     case h =>
      intro rest
      go_region_law ((first
       | (refine step_run (by rfl) (.tmp 27) (.tmp 30) 30 (by rfl) _ _ (by rfl) (by rfl) hrun ?_)
       | fail))
      all_goals exact rest.out
     case pf =>
      have hQ:=hid (hR5.out (ob:Int))
      clear hR5 hR1 a0 a1 a2 b0 b1 b2 hrun k1 k2
      generalize w6.setCell ⟨g,j * 3 + 1,none⟩ (.slice A (nr + 1) C) = F at *
      go_wp2
      go_ret
      exact ⟨rfl,hQ.out⟩
 · have hzz:¬ (0:Int) < (ob:Int):=by omega
   have hyz:(0:Int) < (oc:Int):=by omega
   rw [if_neg (by omega),if_pos hy]
   clear hz hy
   go_enter Tryz.func148,Tryz.ntmps148
   go_wp2_with fail
   go_region
   all_goals
    try rw [hW]
    clear r0 r1 r2 hW
    go_wp2_with fail
    apply collapse2' (F:=fun V q9 => SyF B T w rb X st f lv (oa,ob,oc) V q9)
    case h =>
     intro rest
     go_region_with (first
      | (go_at_call 111;refine GF0.out.mono ?_;rintro e u ⟨rfl,hf⟩;have hf9:=hid hf;clear hf)
      | (go_at_call 111;refine GF1.out.mono ?_;rintro e u ⟨rfl,hb9,hf⟩;have hf9:=hid hf;clear hf;obtain ⟨⟨m0,m1⟩,⟨m2,m3⟩,⟨m4,m5⟩,m6,m7,m8⟩:=putT3 hb9 (.int .i64 (oa:Int)) (.int .i64 (ob:Int)) (.int .i64 (oc:Int));clear hb9 m6 m7 m8))
     all_goals
      have hf:=hf9.out
      clear hf9
      first
       | (generalize ((u.setCell ⟨W.heap.size,0,none⟩ (.int .i64 (oa:Int))).setCell ⟨W.heap.size,1,none⟩ (.int .i64 (ob:Int))).setCell ⟨W.heap.size,2,none⟩ (.int .i64 (oc:Int)) = V at hf ⊢;generalize W.heap.size = q9 at hf ⊢;exact rest V q9 hf)
       | (generalize u.alloc (boxO (oa,ob,oc)) = V at hf ⊢;generalize u.heap.size = q9 at hf ⊢;exact rest V q9 hf)
    case pf =>
     rintro V q9 hF
     obtain ⟨t1,t2,hQ0⟩:=HC.out V q9 hF
     obtain ⟨v,A,C,w6,⟨a0,a1,a2⟩,⟨b0,b1,b2⟩,hrun,k1,k2,hR1,hR2,hR3,hR4,hR5⟩:=HA.out V q9 (oc:Int) hF
     have hR1:=hid hR1
     have hR5:=hid hR5
     clear HA HC GF0 GF1 hF hQ0 d0 d2 f0 f2
     go_wp2_with fail
     apply collapse
     case h =>
      intro rest
      go_region_law ((first
       | (refine step_run (by rfl) (.tmp 47) (.tmp 50) 30 (by rfl) _ _ (by rfl) (by rfl) hrun ?_)
       | fail))
      all_goals exact rest.out
     case pf =>
      clear hR5 a0 a1 a2 b0 b1 b2 hrun k1 k2
      go_wp2
      go_ret
      exact ⟨rfl,hR1.out⟩
 · have hzz:¬ (0:Int) < (ob:Int):=by omega
   have hyz:¬ (0:Int) < (oc:Int):=by omega
   rw [if_neg (by omega),if_neg (by omega)]
   clear hz hy
   go_enter Tryz.func148,Tryz.ntmps148
   go_wp2_with fail
   go_region
   all_goals
    try rw [hW]
    clear r0 r1 r2 hW
    go_wp2_with fail
    apply collapse2' (F:=fun V q9 => SyF B T w rb X st f lv (oa,ob,oc) V q9)
    case h =>
     intro rest
     go_region_with (first
      | (go_at_call 111;refine GF0.out.mono ?_;rintro e u ⟨rfl,hf⟩;have hf9:=hid hf;clear hf)
      | (go_at_call 111;refine GF1.out.mono ?_;rintro e u ⟨rfl,hb9,hf⟩;have hf9:=hid hf;clear hf;obtain ⟨⟨m0,m1⟩,⟨m2,m3⟩,⟨m4,m5⟩,m6,m7,m8⟩:=putT3 hb9 (.int .i64 (oa:Int)) (.int .i64 (ob:Int)) (.int .i64 (oc:Int));clear hb9 m6 m7 m8))
     all_goals
      have hf:=hf9.out
      clear hf9
      first
       | (generalize ((u.setCell ⟨W.heap.size,0,none⟩ (.int .i64 (oa:Int))).setCell ⟨W.heap.size,1,none⟩ (.int .i64 (ob:Int))).setCell ⟨W.heap.size,2,none⟩ (.int .i64 (oc:Int)) = V at hf ⊢;generalize W.heap.size = q9 at hf ⊢;exact rest V q9 hf)
       | (generalize u.alloc (boxO (oa,ob,oc)) = V at hf ⊢;generalize u.heap.size = q9 at hf ⊢;exact rest V q9 hf)
    case pf =>
     rintro V q9 hF
     obtain ⟨t1,t2,hQ0⟩:=HC.out V q9 hF
     have hQ0:=hid hQ0
     clear HA HC GF0 GF1 hF d0 d2 f0 f2
     go_wp2
     go_ret
     exact ⟨rfl,hQ0.out⟩
theorem made_same (a:Value) (k:Nat):(madeCells #[a,a] k).toList = List.replicate k a:=by
 refine List.eq_replicate_iff.2 ⟨by rw [Array.length_toList,size_madeCells],fun b hb => ?_⟩
 unfold madeCells at hb
 rw [Array.toList_map,List.mem_map] at hb
 obtain ⟨i,-,rfl⟩:=hb
 have h2:i % 2 = 0 ∨ i % 2 = 1:=by omega
 show (#[a,a]:Array Value)[i % 2]! = a
 rcases h2 with h | h <;> rw [h] <;> rfl
theorem flat_zero:∀ n:Nat,(List.replicate n ((0:Int),(0:Int))).flatMap csL = List.replicate (n * 2) (.int .i64 0)
 | 0 => rfl
 | n + 1 => by
  rw [List.replicate_succ,List.flatMap_cons,flat_zero n,show (n + 1) * 2 = n * 2 + 1 + 1 by omega,List.replicate_succ,List.replicate_succ]
  rfl
def fs0 (st:RS) (N:Nat):FS:=⟨List.replicate N (0,0),st.prods.map fun (l:Nat) => ⟨(l:Int),[],0⟩,0,st.pl,st.err⟩
theorem prods0:∀ l:List Nat,l.flatMap pdV = ((l.map fun (x:Nat) => (⟨(x:Int),[],0⟩:Pd)).zip (List.replicate l.length (.slice none 0 0))).flatMap fun x => prV x.1 x.2
 | [] => rfl
 | a :: l => by
  rw [List.flatMap_cons,prods0 l,List.map_cons,List.length_cons,List.replicate_succ,List.zip_cons_cons,List.flatMap_cons]
  rfl
set_option maxRecDepth 20000 in
theorem RdV.toW {B rb N:Nat} {T:Nat → Nat} {w:World} {X:RX} {st:RS} (h:RdV B T w rb X st) (hN:N ≤ 1000000) :
 ∃ w1,(Instr.makeSlice 24 (.int .i64 (N:Int)) (.int .i64 (N:Int))).run Tryz.prog w = .ok (.slice (some ⟨w.heap.size,0,none⟩) N N) w1 ∧ w1.cell? ⟨rb,3,none⟩ = some (.slice none 0 0) ∧ w1.frozen? ⟨rb,3,none⟩ = false ∧
  ∃ T',RdW B T' (w1.setCell ⟨rb,3,none⟩ (.slice (some ⟨w.heap.size,0,none⟩) N N)) rb X st (fs0 st N) (.slice (some ⟨w.heap.size,0,none⟩) N N) (List.replicate st.prods.length (.slice none 0 0)) none ∧ Chg T T' w (w1.setCell ⟨rb,3,none⟩ (.slice (some ⟨w.heap.size,0,none⟩) N N)):=by
 obtain ⟨i0,hi0,za,zb,zc⟩:=info_parts Tryz.infLv
 obtain ⟨w1,hrun,hO,hg⟩:=run_make_full (P:=Tryz.prog) w B 24 53 i0 _ 2 Tryz.underlying24 hi0 za zb .i64 .i64 N (by rw [zc];omega) (by unfold maxLen;omega) h.base
 have hrb:=blk_lt h.blk
 have hb1:Below w.heap.size w w1:=((Kept.of_grown hg).mono (G:=noBlk) (fun k _ e => by cases e)).none
 have hbk:=hs_keep h.blk hb1
 have hwl:w.heap.size < w1.heap.size:=(hO.lt w.heap.size rfl).2
 have ht:∀ b,b < w.heap.size → tagT T w.heap.size 3 b = T b:=fun b hb9 => if_neg (by omega)
 have hk:Kept (oneBlk rb) w (w1.setCell ⟨rb,3,none⟩ (.slice (some ⟨w.heap.size,0,none⟩) N N)):=(Kept.of_below hb1).setCell (a:=⟨rb,3,none⟩) (fun _ => rfl)
 have hc:Chg T (tagT T w.heap.size 3) w (w1.setCell ⟨rb,3,none⟩ (.slice (some ⟨w.heap.size,0,none⟩) N N)):=⟨hk.mono (fun k _ e => by rw [show k = rb from e,h.rt];decide),ht⟩
 have hF:∀ i,i ≠ 99 → ∀ b,oneBlk rb b → T b ≠ i:=fun i hi b e => by rw [show b = rb from e,h.rt];exact hi.symm
 have hsz:(w1.setCell ⟨rb,3,none⟩ (.slice (some ⟨w.heap.size,0,none⟩) N N)).heap.size = w1.heap.size:=by simp
 refine ⟨w1,hrun,blk_cell hbk rfl,blk_frozen hbk 3,tagT T w.heap.size 3,⟨heap_setCell hbk,(ht rb hrb).trans h.rt,fun b hn => ?_,Nat.le_trans h.base hk.size,h.rules.kept hk (hF 1 (by decide)) ht,h.rlen,fun x hx => (h.rre x hx).keep hc,h.nonts.kept hk (hF 2 (by decide)) ht,h.skips.kept hk (hF 8 (by decide)) ht,h.terms.kept hk (hF 9 (by decide)) ht,h.nons.kept hk (hF 10 (by decide)) ht,h.later.kept hk (hF 15 (by decide)) ht,h.flen,fun x hx => (h.fst x hx).keep hc,?_,?_,?_,fun j a b => ?_,fun m e => (by cases e)⟩,hc⟩
 · rw [hsz]
   unfold tagT at hn
   split at hn
   · rename_i e;subst e;exact ⟨h.base,hwl⟩
   · exact ⟨(h.own b hn).1,Nat.lt_of_lt_of_le (h.own b hn).2 hb1.size⟩
 · show OwnI _ _ _ _ _ _ _ (List.replicate N ((0:Int),(0:Int))).length ((List.replicate N ((0:Int),(0:Int))).flatMap csL)
   rw [List.length_replicate,flat_zero]
   have e1:(madeCells (Value.agg #[.int .i64 0,.int .i64 0]).cells (N * 2)).toList = List.replicate (N * 2) (.int .i64 0):=made_same _ _
   rw [e1] at hO
   refine ⟨own_set hO (fun e => by injection e with e;have:w.heap.size = rb:=e;omega),fun b e => ?_⟩
   have:w.heap.size = b:=by injection e
   rw [← this]
   exact if_pos rfl
 · show OwnI _ _ _ _ _ _ _ (st.prods.map fun (l:Nat) => (⟨(l:Int),[],0⟩:Pd)).length (((st.prods.map fun (l:Nat) => (⟨(l:Int),[],0⟩:Pd)).zip (List.replicate st.prods.length (.slice none 0 0))).flatMap fun x => prV x.1 x.2)
   rw [List.length_map,← prods0]
   exact h.prods.kept hk (hF 4 (by decide)) ht
 · show (List.replicate st.prods.length _).length = (st.prods.map _).length
   rw [List.length_replicate,List.length_map]
 · rw [List.getElem_replicate]
   have e9:(fs0 st N).prods[j].right = []:=by
    have b':j < (st.prods.map fun (l:Nat) => (⟨(l:Int),[],0⟩:Pd)).length:=b
    show ((st.prods.map fun (l:Nat) => (⟨(l:Int),[],0⟩:Pd))[j]'b').right = []
    rw [List.getElem_map]
   rw [e9]
   exact ⟨World.ownsRow_nil _ _ _ _,fun b e => by cases e⟩
theorem RdW.setLeft {B rb j g cap:Nat} {T:Nat → Nat} {w:World} {X:RX} {st:RS} {f:FS} {lv:Value} {rs:List Value} {mp:Option Nat} (h:RdW B T w rb X st f lv rs mp) (hj:j < f.prods.length) (hg:X.pv = .slice (some ⟨g,0,none⟩) f.prods.length cap) (n:Int) :
 RdW B T (w.setCell ⟨g,j * 3,none⟩ (.int .i64 n)) rb X st { f with prods:=modP f.prods j fun p => ⟨n,p.right,p.prec⟩ } lv rs mp ∧ Chg T T w (w.setCell ⟨g,j * 3,none⟩ (.int .i64 n)):=by
 have hl:=h.rslen
 have hz:(f.prods.zip rs).length = f.prods.length:=by rw [List.length_zip,hl,Nat.min_self]
 have hg4:T g = 4:=h.prods.2 g (by rw [hg];rfl)
 have hk:Kept (fun b => T b = 4 ∨ T b = 100 + j) w (w.setCell ⟨g,j * 3,none⟩ (.int .i64 n)):=(Kept.refl _ w).setCell (fun _ => .inl hg4)
 have hsz:(w.setCell ⟨g,j * 3,none⟩ (.int .i64 n)).heap.size = w.heap.size:=by simp
 have hone:Kept (oneBlk g) w (w.setCell ⟨g,j * 3,none⟩ (.int .i64 n)):=(Kept.refl (oneBlk g) w).setCell (a:=⟨g,j * 3,none⟩) (fun _ => rfl)
 have hm:=modP_at (g:=fun p => ⟨n,p.right,p.prec⟩) hj
 refine h.chgP (j0:=j) hk (fun _ _ => rfl) (fun b hn => by rw [hsz];exact h.own b hn) ?_ ?_ ?_ rfl rfl rfl rfl
 · show OwnI _ _ _ _ _ _ X.pv (modP f.prods j _).length (((modP f.prods j _).zip rs).flatMap _)
   rw [hm,List.length_set]
   have e1:rs = rs.set j (rs[j]'(by rw [hl];exact hj)):=by rw [List.set_getElem_self]
   have e2:((f.prods.set j ⟨n,f.prods[j].right,f.prods[j].prec⟩).zip rs).flatMap (fun x => prV x.1 x.2) = ((f.prods.zip rs).flatMap (fun x => prV x.1 x.2)).set (j * 3) (.int .i64 n):=by
    have h0:=flat_set (fun x:Pd × Value => prV x.1 x.2) (sz:=3) (fun _ => rfl) (f.prods.zip rs) j 0 (⟨n,f.prods[j].right,f.prods[j].prec⟩,rs[j]'(by rw [hl];exact hj)) (.int .i64 n) (by rw [hz];exact hj) (by decide) (by rw [List.getElem_zip];rfl)
    rw [Nat.add_zero] at h0
    rw [h0,← zip_set,← e1]
   rw [e2,hg]
   have:=h.prods
   rw [hg] at this
   exact this.setc _
 · show rs.length = (modP f.prods j _).length
   rw [hm,List.length_set];exact hl
 · intro i a b
   have b':i < f.prods.length:=by rw [← hl];exact a
   have e9:({ f with prods:=modP f.prods j fun p => ⟨n,p.right,p.prec⟩ }:FS).prods[i].right = f.prods[i].right:=by
    have e8:(modP f.prods j fun p => ⟨n,p.right,p.prec⟩)[i]'b = (f.prods.set j ⟨n,f.prods[j].right,f.prods[j].prec⟩)[i]'(by rw [List.length_set];exact b'):=by congr 1
    show ((modP f.prods j fun p => ⟨n,p.right,p.prec⟩)[i]'b).right = _
    rw [e8,List.getElem_set]
    split
    · rename_i e7;subst e7;rfl
    · rfl
   rw [e9]
   exact (h.rights i a b').kept hone (fun b0 e0 => by rw [show b0 = g from e0,hg4];omega) (fun _ _ => rfl)
set_option maxRecDepth 20000 in
set_option maxHeartbeats 4000000 in
theorem giveW {B rb:Nat} {T:Nat → Nat} {w:World} {X:RX} {st:RS} {f:FS} {lv:Value} {rs:List Value} {mp:Option Nat} (h:RdW B T w rb X st f lv rs mp) (p:Nat) (e:Int) (h0:f.err = 0) :
 Calls Tryz.prog 63 #[ptr0 rb,.int .i64 (p:Int),.int .i64 e] w fun r w' => r = .returned (.tuple #[]) ∧ RdR B T w rb X st { f with pl:=p,err:=e } lv w':=by
 have hb0:=h.blk
 have hb1:=heap_setCell (o:=16) (v:=.int .i64 (p:Int)) hb0
 have hb2:=heap_setCell (o:=17) (v:=.int .i64 e) hb1
 have hk:Kept (oneBlk rb) w ((w.setCell ⟨rb,16,none⟩ (.int .i64 (p:Int))).setCell ⟨rb,17,none⟩ (.int .i64 e)):=((Kept.refl (oneBlk rb) w).setCell (a:=⟨rb,16,none⟩) (fun _ => rfl)).setCell (a:=⟨rb,17,none⟩) (fun _ => rfl)
 obtain ⟨h2,c2⟩:=h.put (f':={ f with pl:=p,err:=e }) hk hb2 rfl rfl
 have hP:Hid (RdR B T w rb X st { f with pl:=p,err:=e } lv ((w.setCell ⟨rb,16,none⟩ (.int .i64 (p:Int))).setCell ⟨rb,17,none⟩ (.int .i64 e))):=hid ⟨T,rs,mp,h2,c2⟩
 have y17':w.cell? ⟨rb,17,none⟩ = some (.int .i64 f.err):=blk_cell hb0 rfl
 have y17:(w.setCell ⟨rb,16,none⟩ (.int .i64 (p:Int))).cell? ⟨rb,17,none⟩ = some (.int .i64 f.err):=blk_cell hb1 rfl
 rw [h0] at y17 y17'
 have y16:w.cell? ⟨rb,16,none⟩ = some (.int .i64 (f.pl:Int)):=blk_cell hb0 rfl
 have f16:=blk_frozen hb0 16
 have f17:=blk_frozen hb1 17
 clear hb0 hb1 hb2 hk h0 h h2 c2
 go_enter Tryz.func63,Tryz.ntmps63
 go_wp2
 go_end0
 exact ⟨rfl,hP.out⟩
set_option maxRecDepth 20000 in
theorem stepC {B rb:Nat} {T:Nat → Nat} {w:World} {X:RX} {st:RS} {f:FS} {lv:Value} {rs:List Value} {mp:Option Nat} {v:Value} {s:Stp} (h:RdW B T w rb X st f lv rs mp) (hb:BndS st) (hs:StpV T w rb v s) (hx:s.w.2.2.length ≤ 1000000) (hp:s.k = 5 ∨ s.k = 6 → s.a < f.prods.length) (ht:(st.fnd s.w.2.2).2.1 < f.levels.length) (hr:∀ j (h:j < f.prods.length),f.prods[j].right.length ≤ 100000) (hl1:f.levels.length ≤ 100000) (hl2:f.prods.length ≤ 100000) :
 ∃ K caps,v = .func (.func K) #[] caps ∧ Calls Tryz.prog K caps w fun r w' => r = .returned (.int .i64 (stpF st.fnd s f).2) ∧ RdR B T w rb X st (stpF st.fnd s f).1 lv w':=by
 rcases hs with ⟨hk,p,q,e,h1,h2⟩ | ⟨hk,p,q,l,e,h1,h2,h3⟩ | ⟨hk,l,e,h3⟩ | ⟨hk,p,q,e,h1,h2⟩ | ⟨hk,p,l,q,e,h1,h2,h3⟩ | ⟨hk,p,q,l,e,h1,h2,h3⟩
 · refine ⟨_,_,e,?_⟩
   have e9:stpF st.fnd s f = (f,if (st.fnd s.w.2.2).1 < s.w.2.1 then 6 else 0):=by unfold stpF;rw [if_pos hk]
   rw [e9]
   exact onceK h hb hx h1 h2
 · refine ⟨_,_,e,?_⟩
   have e9:stpF st.fnd s f = (if (st.fnd s.w.2.2).2.1 = 0 then (f,5) else if 0 < (f.levels.getD (st.fnd s.w.2.2).2.1 (0,0)).1 then (f,6) else ({ f with levels:=f.levels.set (st.fnd s.w.2.2).2.1 ((s.a:Int),(s.b:Int)) },0)):=by unfold stpF;rw [if_neg (by omega),if_pos hk]
   have h9:=levK h hb hx ht h1 h2 h3 hl1
   rw [e9]
   by_cases c1:(st.fnd s.w.2.2).2.1 = 0
   · rw [if_pos c1,if_pos c1] at h9
     rw [if_pos c1]
     exact h9
   · rw [if_neg c1,if_neg c1] at h9
     rw [if_neg c1]
     by_cases c2:0 < (f.levels.getD (st.fnd s.w.2.2).2.1 (0,0)).1
     · rw [if_pos c2,if_pos c2] at h9
       rw [if_pos c2]
       exact h9
     · rw [if_neg c2,if_neg c2] at h9
       rw [if_neg c2]
       exact h9
 · refine ⟨_,_,e,?_⟩
   have e9:stpF st.fnd s f = (f,if s.a = 0 then 0 else 6):=by unfold stpF;rw [if_neg (by omega),if_neg (by omega),if_pos hk]
   rw [e9]
   exact secK h h3
 · refine ⟨_,_,e,?_⟩
   have e9:stpF st.fnd s f = ({ f with start:=((st.fnd s.w.2.2).2.2:Int) },if (st.fnd s.w.2.2).2.2 = 0 then 5 else 0):=by unfold stpF;rw [if_neg (by omega),if_neg (by omega),if_neg (by omega),if_pos hk]
   rw [e9]
   exact nameK h hb hx h1 h2
 · refine ⟨_,_,e,?_⟩
   have e9:stpF st.fnd s f = symR (st.fnd s.w.2.2) s.a f:=by unfold stpF symR;rw [if_neg (by omega),if_neg (by omega),if_neg (by omega),if_neg (by omega),if_pos hk]
   rw [e9]
   exact symK h hb hx (hp (.inl hk)) h1 h2 h3 hl2 (hr _ _)
 · refine ⟨_,_,e,?_⟩
   have e9:stpF st.fnd s f = (if (st.fnd s.w.2.2).2.1 = 0 then (f,5) else ({ f with prods:=modP f.prods s.a fun p => ⟨p.left,p.right,((st.fnd s.w.2.2).2.1:Int)⟩ },0)):=by unfold stpF;rw [if_neg (by omega),if_neg (by omega),if_neg (by omega),if_neg (by omega),if_neg (by omega)]
   have h9:=precK h hb hx (hp (.inr hk)) h1 h2 h3 hl2
   rw [e9]
   by_cases c1:(st.fnd s.w.2.2).2.1 = 0
   · rw [if_pos c1,if_pos c1] at h9
     rw [if_pos c1]
     exact h9
   · rw [if_neg c1,if_neg c1] at h9
     rw [if_neg c1]
     exact h9
def lftK (t:Nat) (l:List Nat) (k:Nat):List Pd:=((l.take k).map fun (x:Nat) => (⟨(x:Int) + (t:Int),[],0⟩:Pd)) ++ ((l.drop k).map fun (x:Nat) => (⟨(x:Int),[],0⟩:Pd))
theorem lftK_len (t:Nat) (l:List Nat) (k:Nat):(lftK t l k).length = l.length:=by
 unfold lftK
 rw [List.length_append,List.length_map,List.length_map,← List.length_append,List.take_append_drop]
theorem lftK_at? (t:Nat) (l:List Nat) (k:Nat) (hk:k < l.length):(lftK t l k)[k]? = some ⟨(l[k]:Int),[],0⟩:=by
 have h1:((l.take k).map fun (x:Nat) => (⟨(x:Int) + (t:Int),[],0⟩:Pd)).length = k:=by rw [List.length_map,List.length_take];omega
 unfold lftK
 rw [List.getElem?_append_right (by omega),h1,Nat.sub_self,List.drop_eq_getElem_cons hk]
 rfl
theorem lftK_set (t:Nat) (l:List Nat) (k:Nat) (hk:k < l.length):(lftK t l k).set k ⟨(l[k]:Int) + (t:Int),[],0⟩ = lftK t l (k + 1):=by
 have h1:((l.take k).map fun (x:Nat) => (⟨(x:Int) + (t:Int),[],0⟩:Pd)).length = k:=by rw [List.length_map,List.length_take];omega
 unfold lftK
 rw [List.set_append_right _ _ (by omega),h1,Nat.sub_self,List.drop_eq_getElem_cons hk,List.map_cons,List.set_cons_zero,List.take_add_one,List.getElem?_eq_getElem hk,List.map_append,List.append_assoc]
 rfl
def fsK (st:RS) (N t k:Nat):FS:={ fs0 st N with prods:=lftK t st.prods k }
theorem fsK_zero (st:RS) (N t:Nat):fsK st N t 0 = fs0 st N:=by unfold fsK fs0 lftK;simp
theorem fsK_len (st:RS) (N t k:Nat):(fsK st N t k).prods.length = st.prods.length:=lftK_len t st.prods k
theorem fsK_succ (st:RS) (N t k:Nat) (hk:k < st.prods.length):({ fsK st N t k with prods:=modP (fsK st N t k).prods k fun p => ⟨(st.prods[k]:Int) + (t:Int),p.right,p.prec⟩ }:FS) = fsK st N t (k + 1):=by
 have e1:modP (fsK st N t k).prods k (fun p => ⟨(st.prods[k]:Int) + (t:Int),p.right,p.prec⟩) = lftK t st.prods (k + 1):=by
  unfold modP
  have e2:(fsK st N t k).prods[k]? = some ⟨(st.prods[k]:Int),[],0⟩:=lftK_at? t st.prods k hk
  rw [e2]
  exact lftK_set t st.prods k hk
 rw [e1]
 rfl
theorem fsK_end (st:RS) (N t:Nat):(fsK st N t st.prods.length).prods = st.prods.map fun (l:Nat) => (⟨(l:Int) + (t:Int),[],0⟩:Pd):=by
 unfold fsK lftK
 simp
end Go.Proofs.YtfhokapfkclckaaGreat
