/- What is left to be done, done: a symbol. gram.Terms, over a row of rules; giveUp in the second pass. The second pass begins: levels are made, left sides told; a fault is kept. What is left to be done, one by one: each step by its contract. -/
import Derived.Test.YtbpnioehmohbcaaGreatJ25
import Derived.Test.YtbpnioehmohbcaaGreatJ24
namespace Go.Proofs.YtbpnioehmohbcaaGreat
open Go.RowKit Go.Maps
def symR (o:Ow) (j:Nat) (f:FS):FS × Int:=if 0 < o.2.1 then ({ f with prods:=modP f.prods j fun p => ⟨p.left,p.right ++ [(o.2.1:Int)],(o.2.1:Int)⟩ },0) else if 0 < o.2.2 then ({ f with prods:=modP f.prods j fun p => ⟨p.left,p.right ++ [(o.2.2:Int)],p.prec⟩ },0) else (f,5)
set_option maxRecDepth 20000 in
set_option maxHeartbeats 16000000 in
theorem symK {B rb p q l j:Nat} {T:Nat → Nat} {w:World} {X:RX} {st:RS} {f:FS} {lv:Value} {rs:List Value} {mp:Option Nat} {x:Wd} (h:RdW B T w rb X st f lv rs mp) (hb:BndS st) (hx:x.2.2.length ≤ 1000000) (hj:j < f.prods.length) (ip:Im T w p (boxR rb)) (iq:Im T w q (boxW x)) (il:Im T w l (boxN j)) (_hjz:f.prods.length ≤ 100000) (hn:f.prods[j].right.length ≤ 100000) :
 Calls Tryz.prog 140 #[ptr0 p,ptr0 l,ptr0 q] w fun r w' => r = .returned (.int .i64 (symR (st.fnd x.2.2) j f).2) ∧ RdR B T w rb X st (symR (st.fnd x.2.2) j f).1 lv w':=by
 obtain ⟨g,cap,hg,-⟩:=h.prodAt hj
 obtain ⟨W,hW⟩:∃ y,w.drew = y:=⟨_,rfl⟩
 have hbW:Below w.heap.size w W:=by rw [← hW];exact (Below.refl _ w).drew
 have cW:=Chg.of_below (T:=T) hbW
 have hrW:=h.keep hbW
 have ipW:=ip.keep cW
 have iqW:=iq.keep cW
 have hbd:Below W.heap.size W W.drew:=(Below.refl _ W).drew
 have cd:=Chg.of_below (T:=T) hbd
 have hrd:=hrW.keep hbd
 have ipd:=ipW.keep cd
 have iqd:=iqW.keep cd
 have r0:W.cell? ⟨p,0,none⟩ = some (ptr0 rb):=ipW.cell rfl
 have r1:W.cell? ⟨l,0,none⟩ = some (.int .i64 (j:Int)):=(il.keep cW).cell rfl
 have r2:W.cell? ⟨rb,4,none⟩ = some (.slice (some ⟨g,0,none⟩) f.prods.length cap):=by rw [← hg];exact blk_cell hrW.blk rfl
 have d0:W.drew.cell? ⟨p,0,none⟩ = some (ptr0 rb):=ipd.cell rfl
 have d2:W.drew.cell? ⟨q,2,none⟩ = some (.string (strT x.2.2)):=iqd.cell rfl
 have hba:Below W.drew.heap.size W.drew (W.alloc boxO0).drew:=al' W.drew boxO0
 have f0:=keep_cell hba d0
 have f2:=keep_cell hba d2
 obtain ⟨o,ho⟩:∃ o,st.fnd x.2.2 = o:=⟨_,rfl⟩
 have GF0:Hid (Calls Tryz.prog 92 #[.pointer (some ⟨rb,8,none⟩),.string (strT x.2.2)] W.drew fun r u => r = .returned (owV o) ∧ SyF B T w rb X st f lv o (u.alloc (boxO o)) u.heap.size):=hid ((findC hrd hb x.2.2 hx).mono (fun r u ⟨e,T',mp',hr,hc⟩ => by
  have hal:=al' u (boxO o)
  exact ⟨by rw [← ho];exact e,T',rs,mp',hr.keep hal,((cW.trans cd).trans hc).trans (Chg.of_below hal),hr.fresh (Nat.le_refl _),heap_new u _⟩))
 have GF1:Hid (Calls Tryz.prog 92 #[.pointer (some ⟨rb,8,none⟩),.string (strT x.2.2)] (W.alloc boxO0).drew fun r u => r = .returned (owV o) ∧ u.heap[W.heap.size]? = some boxO0 ∧ SyF B T w rb X st f lv o (((u.setCell ⟨W.heap.size,0,none⟩ (.int .i64 (o.1:Int))).setCell ⟨W.heap.size,1,none⟩ (.int .i64 (o.2.1:Int))).setCell ⟨W.heap.size,2,none⟩ (.int .i64 (o.2.2:Int))) W.heap.size):=hid (by
  obtain ⟨h5,c5⟩:=hrd.aside (q:=W.drew.heap.size) (al' W.drew boxO0) (Nat.le_refl _) (by rw [World.size_alloc];omega)
  refine (findC h5 hb x.2.2 hx).mono ?_
  rintro r u ⟨e,T',mp',hr,hc⟩
  obtain ⟨a1,T9,a2,a3,a4⟩:=RdW.boxQ (W:=W.drew) (T:=T) o hc hr (hrd.fresh (Nat.le_refl _))
  exact ⟨by rw [← ho];exact e,a1,T9,rs,mp',a2,(cW.trans cd).trans a3,a4⟩)
 have HA:Hid (∀ V q9 (n:Int),SyF B T w rb X st f lv o V q9 → _):=hid (fun V q9 n hF => symA hF hj hg n hn)
 have HC:Hid (∀ V q9,SyF B T w rb X st f lv o V q9 → V.cell? ⟨q9,1,none⟩ = some (.int .i64 (o.2.1:Int)) ∧ V.cell? ⟨q9,2,none⟩ = some (.int .i64 (o.2.2:Int)) ∧ RdR B T w rb X st f lv V):=hid (fun V q9 ⟨T',rs',mp',a1,a2,a3⟩ => ⟨a3.cell rfl,a3.cell rfl,T',rs',mp',a1,a2⟩)
 rw [ho]
 have hjl:(j:Int) < (f.prods.length:Int):=by omega
 clear h hb hx ip iq il hbW cW hrW ipW iqW hbd cd hrd ipd iqd hba ho
 unfold symR
 obtain ⟨xk,xp,xt⟩:=x
 obtain ⟨oa,ob,oc⟩:=o
 try dsimp only at *
 generalize f.prods[j].right.length = nr at *
 generalize f.prods[j].prec = pz at *
 have hcs:(0 < ob) ∨ (ob = 0 ∧ 0 < oc) ∨ (ob = 0 ∧ oc = 0):=by omega
 rcases hcs with hz | ⟨hz,hy⟩ | ⟨hz,hy⟩
 · have hzz:(0:Int) < (ob:Int):=by omega
   rw [if_pos hz]
   clear hz
   go_enter Tryz.func140,Tryz.ntmps140
   go_wp2_with fail
   go_region
   all_goals
    try rw [hW]
    clear r0 r1 r2 hW
    go_wp2_with fail
    apply collapse2' (F:=fun V q9 => SyF B T w rb X st f lv (oa,ob,oc) V q9)
    case h =>
     intro rest
     go_region_with (first
      | (go_at_call 92;refine GF0.out.mono ?_;rintro e u ⟨rfl,hf⟩;have hf9:=hid hf;clear hf)
      | (go_at_call 92;refine GF1.out.mono ?_;rintro e u ⟨rfl,hb9,hf⟩;have hf9:=hid hf;clear hf;obtain ⟨⟨m0,m1⟩,⟨m2,m3⟩,⟨m4,m5⟩,m6,m7,m8⟩:=putT3 hb9 (.int .i64 (oa:Int)) (.int .i64 (ob:Int)) (.int .i64 (oc:Int));clear hb9 m6 m7 m8))
     all_goals
      have hf:=hf9.out
      clear hf9
      first
       | (generalize ((u.setCell ⟨W.heap.size,0,none⟩ (.int .i64 (oa:Int))).setCell ⟨W.heap.size,1,none⟩ (.int .i64 (ob:Int))).setCell ⟨W.heap.size,2,none⟩ (.int .i64 (oc:Int)) = V at hf ⊢;generalize W.heap.size = q9 at hf ⊢;exact rest V q9 hf)
       | (generalize u.alloc (boxO (oa,ob,oc)) = V at hf ⊢;generalize u.heap.size = q9 at hf ⊢;exact rest V q9 hf)
    case pf =>
     rintro V q9 hF
     obtain ⟨t1,t2,hQ0⟩:=HC.out V q9 hF
     obtain ⟨v,A,C,w6,⟨a0,a1,a2⟩,⟨b0,b1,b2⟩,hrun,k1,k2,hR1,hR2,hR3,hR4,hR5⟩:=HA.out V q9 (ob:Int) hF
     have hR1:=hid hR1
     have hR5:=hid hR5
     clear HA HC GF0 GF1 hF hQ0 d0 d2 f0 f2
     go_wp2_with fail
     apply collapse
     case h =>
      intro rest
      go_region_law ((first
       | (refine step_run (by rfl) (.tmp 27) (.tmp 30) 32 (by rfl) _ _ (by rfl) (by rfl) hrun ?_)
       | fail))
      all_goals exact rest.out
     case pf =>
      have hQ:=hid (hR5.out (ob:Int))
      clear hR5 hR1 a0 a1 a2 b0 b1 b2 hrun k1 k2
      generalize w6.setCell ⟨g,j * 3 + 1,none⟩ (.slice A (nr + 1) C) = F at *
      go_wp2
      go_ret
      exact ⟨rfl,hQ.out⟩
 · have hzz:¬ (0:Int) < (ob:Int):=by omega
   have hyz:(0:Int) < (oc:Int):=by omega
   rw [if_neg (by omega),if_pos hy]
   clear hz hy
   go_enter Tryz.func140,Tryz.ntmps140
   go_wp2_with fail
   go_region
   all_goals
    try rw [hW]
    clear r0 r1 r2 hW
    go_wp2_with fail
    apply collapse2' (F:=fun V q9 => SyF B T w rb X st f lv (oa,ob,oc) V q9)
    case h =>
     intro rest
     go_region_with (first
      | (go_at_call 92;refine GF0.out.mono ?_;rintro e u ⟨rfl,hf⟩;have hf9:=hid hf;clear hf)
      | (go_at_call 92;refine GF1.out.mono ?_;rintro e u ⟨rfl,hb9,hf⟩;have hf9:=hid hf;clear hf;obtain ⟨⟨m0,m1⟩,⟨m2,m3⟩,⟨m4,m5⟩,m6,m7,m8⟩:=putT3 hb9 (.int .i64 (oa:Int)) (.int .i64 (ob:Int)) (.int .i64 (oc:Int));clear hb9 m6 m7 m8))
     all_goals
      have hf:=hf9.out
      clear hf9
      first
       | (generalize ((u.setCell ⟨W.heap.size,0,none⟩ (.int .i64 (oa:Int))).setCell ⟨W.heap.size,1,none⟩ (.int .i64 (ob:Int))).setCell ⟨W.heap.size,2,none⟩ (.int .i64 (oc:Int)) = V at hf ⊢;generalize W.heap.size = q9 at hf ⊢;exact rest V q9 hf)
       | (generalize u.alloc (boxO (oa,ob,oc)) = V at hf ⊢;generalize u.heap.size = q9 at hf ⊢;exact rest V q9 hf)
    case pf =>
     rintro V q9 hF
     obtain ⟨t1,t2,hQ0⟩:=HC.out V q9 hF
     obtain ⟨v,A,C,w6,⟨a0,a1,a2⟩,⟨b0,b1,b2⟩,hrun,k1,k2,hR1,hR2,hR3,hR4,hR5⟩:=HA.out V q9 (oc:Int) hF
     have hR1:=hid hR1
     have hR5:=hid hR5
     clear HA HC GF0 GF1 hF hQ0 d0 d2 f0 f2
     go_wp2_with fail
     apply collapse
     case h =>
      intro rest
      go_region_law ((first
       | (refine step_run (by rfl) (.tmp 47) (.tmp 50) 32 (by rfl) _ _ (by rfl) (by rfl) hrun ?_)
       | fail))
      all_goals exact rest.out
     case pf =>
      clear hR5 a0 a1 a2 b0 b1 b2 hrun k1 k2
      go_wp2
      go_ret
      exact ⟨rfl,hR1.out⟩
 · have hzz:¬ (0:Int) < (ob:Int):=by omega
   have hyz:¬ (0:Int) < (oc:Int):=by omega
   rw [if_neg (by omega),if_neg (by omega)]
   clear hz hy
   go_enter Tryz.func140,Tryz.ntmps140
   go_wp2_with fail
   go_region
   all_goals
    try rw [hW]
    clear r0 r1 r2 hW
    go_wp2_with fail
    apply collapse2' (F:=fun V q9 => SyF B T w rb X st f lv (oa,ob,oc) V q9)
    case h =>
     intro rest
     go_region_with (first
      | (go_at_call 92;refine GF0.out.mono ?_;rintro e u ⟨rfl,hf⟩;have hf9:=hid hf;clear hf)
      | (go_at_call 92;refine GF1.out.mono ?_;rintro e u ⟨rfl,hb9,hf⟩;have hf9:=hid hf;clear hf;obtain ⟨⟨m0,m1⟩,⟨m2,m3⟩,⟨m4,m5⟩,m6,m7,m8⟩:=putT3 hb9 (.int .i64 (oa:Int)) (.int .i64 (ob:Int)) (.int .i64 (oc:Int));clear hb9 m6 m7 m8))
     all_goals
      have hf:=hf9.out
      clear hf9
      first
       | (generalize ((u.setCell ⟨W.heap.size,0,none⟩ (.int .i64 (oa:Int))).setCell ⟨W.heap.size,1,none⟩ (.int .i64 (ob:Int))).setCell ⟨W.heap.size,2,none⟩ (.int .i64 (oc:Int)) = V at hf ⊢;generalize W.heap.size = q9 at hf ⊢;exact rest V q9 hf)
       | (generalize u.alloc (boxO (oa,ob,oc)) = V at hf ⊢;generalize u.heap.size = q9 at hf ⊢;exact rest V q9 hf)
    case pf =>
     rintro V q9 hF
     obtain ⟨t1,t2,hQ0⟩:=HC.out V q9 hF
     have hQ0:=hid hQ0
     clear HA HC GF0 GF1 hF d0 d2 f0 f2
     go_wp2
     go_ret
     exact ⟨rfl,hQ0.out⟩
end Go.Proofs.YtbpnioehmohbcaaGreat
namespace Go.Proofs.YtbpnioehmohbcaaGreat
open Go.RowKit Go.Maps
def RulL (w:World) (v:Value) (l:List Rl):Prop:=∃ a cap,v = .slice a l.length cap ∧ ∀ j (h:j < l.length),∃ b o xa xm xc,a = some ⟨b,o,none⟩ ∧ b < w.heap.size ∧ w.cell? ⟨b,o + j * 3,none⟩ = some (.string (strT l[j].name)) ∧ w.cell? ⟨b,o + j * 3 + 1,none⟩ = some (.slice xa xm xc) ∧ w.cell? ⟨b,o + j * 3 + 2,none⟩ = some (.bool l[j].skip)
theorem RulL.keep {w u:World} {v:Value} {l:List Rl} (h:RulL w v l) (hu:Below w.heap.size w u):RulL u v l:=by
 obtain ⟨a,cap,e,hat⟩:=h
 refine ⟨a,cap,e,fun j hj => ?_⟩
 obtain ⟨b,o,xa,xm,xc,e1,h1,x0,x1,x2⟩:=hat j hj
 exact ⟨b,o,xa,xm,xc,e1,Nat.lt_of_lt_of_le h1 hu.size,keep_cell hu x0,keep_cell hu x1,keep_cell hu x2⟩
theorem RulL.at {w:World} {a:Option Addr} {n cap:Nat} {l:List Rl} (h:RulL w (.slice a n cap) l) {j:Nat} (hj:j < l.length):∃ b o xa xm xc,a = some ⟨b,o,none⟩ ∧ w.cell? ⟨b,o + j * 3,none⟩ = some (.string (strT l[j].name)) ∧ w.cell? ⟨b,o + j * 3 + 1,none⟩ = some (.slice xa xm xc) ∧ w.cell? ⟨b,o + j * 3 + 2,none⟩ = some (.bool l[j].skip):=by
 obtain ⟨a',cap',e,hat⟩:=h
 injection e with e1 _ _
 subst e1
 obtain ⟨b,o,xa,xm,xc,e2,_,y0,y1,y2⟩:=hat j hj
 exact ⟨b,o,xa,xm,xc,e2,y0,y1,y2⟩
theorem rulL_of {w:World} {v:Value} {l:List Rl} (h:Lst 3 RuleAt w v l):RulL w v l:=by
 obtain ⟨a,cap,e,_,_,hat⟩:=h
 refine ⟨a,cap,e,fun j hj => ?_⟩
 obtain ⟨b,o,e1,h1,h2⟩:=hat j hj
 obtain ⟨v,y0,y1,y2,xa,xc,e9,_⟩:=h2
 rw [e9] at y1
 exact ⟨b,o,xa,_,xc,e1,h1,y0,y1,y2⟩
set_option maxRecDepth 20000 in
set_option maxHeartbeats 8000000 in
theorem termsL (rv nv lv pv:Value) (st:Int) (l:List Rl) (w:World) (h:RulL w rv l) (hl:l.length ≤ 1000000) :
 Calls Tryz.prog 45 #[gmA rv nv lv pv st] w fun e w' => e = .returned (.int .i64 (trmK l l.length:Int)) ∧ Below w.heap.size w w':=by
 obtain ⟨a,cap,hrv,-⟩:=id h
 subst hrv
 have hB1:Hid (Below w.heap.size w (w.alloc (.cells #[.slice a l.length cap,nv,lv,pv,.int .i64 st] 27))):=hid (al' w _)
 have c0:(w.alloc (.cells #[.slice a l.length cap,nv,lv,pv,.int .i64 st] 27)).cell? ⟨w.heap.size,0,none⟩ = some (.slice a l.length cap):=blk_cell (heap_new w _) rfl
 obtain ⟨W1,hW1⟩:∃ x,w.alloc (.cells #[.slice a l.length cap,nv,lv,pv,.int .i64 st] 27) = x:=⟨_,rfl⟩
 rw [hW1] at hB1 c0
 have h0:=hid (h.keep hB1.out)
 clear h
 obtain ⟨n,hnn⟩:∃ n,Hid (l.length = n):=⟨_,hid rfl⟩
 obtain ⟨RR,hRR⟩:∃ x,Hid (trmK l l.length = x):=⟨_,hid rfl⟩
 rw [hRR.out]
 rw [hnn.out] at hl h0 hRR c0 hW1 ⊢
 go_enter Tryz.func45,Tryz.ntmps45
 go_wp2
 clear hW1 c0
 go_loopw [3,9] (fun x i wr => ∃ k:Nat,k ≤ n ∧ i = .int .i64 (k:Int) ∧ x = .int .i64 (trmK l k:Int) ∧ Hid (Below W1.heap.size W1 wr)) (fun _ i _ => n - (intOf i).toNat)
 case atStart => exact ⟨0,Nat.zero_le _,rfl,rfl,hid (Below.refl _ _)⟩
 case round =>
  obtain ⟨k,hk,rfl,rfl,hw⟩:=hrel
  by_cases hlt:k < n
  · have hltz:(k:Int) < (n:Int):=by omega
    have hkl:k < l.length:=by rw [hnn.out];exact hlt
    obtain ⟨b,o,xa,xm,xc,he,x0,x1,x2⟩:=(h0.out.keep hw.out).at hkl
    subst he
    have hs:=trmK_succ hkl
    have hle:=trmK_le l k
    obtain ⟨t0,ht0⟩:∃ x,trmK l k = x:=⟨_,rfl⟩
    rw [ht0] at hs hle ⊢
    clear ht0
    have hwn:=hid (bl_step hw.out (al' wr (.cells #[.string (strT l[k].name),.slice xa xm xc,.bool l[k].skip] 50)))
    cases hsk:l[k].skip with
    | true =>
     rw [hsk] at x2 hs hwn
     rw [if_pos rfl,Nat.add_zero] at hs
     have hsH:=hid hs
     clear hs
     go_wp2
     go_roundw
     case rel => exact ⟨k + 1,by omega,by go_num,by rw [hsH.out];rfl,hwn⟩
     case measure => simp [intOf];omega
    | false =>
     rw [hsk] at x2 hs hwn
     rw [if_neg (by decide)] at hs
     have hsH:=hid hs
     clear hs
     have hlz:(t0:Int) ≤ 1000000:=by omega
     go_wp2
     go_roundw
     case rel => exact ⟨k + 1,by omega,by go_num,by rw [hsH.out];go_num,hwn⟩
     case measure => simp [intOf];omega
  · have hltz:¬ (k:Int) < (n:Int):=by omega
    obtain rfl:k = n:=by omega
    go_wp2
    go_ret
    exact ⟨by rw [hRR.out];rfl,bl_step hB1.out hw.out⟩
end Go.Proofs.YtbpnioehmohbcaaGreat
namespace Go.Proofs.YtbpnioehmohbcaaGreat
open Go.RowKit Go.Maps
theorem made_same (a:Value) (k:Nat):(madeCells #[a,a] k).toList = List.replicate k a:=by
 refine List.eq_replicate_iff.2 ⟨by rw [Array.length_toList,size_madeCells],fun b hb => ?_⟩
 unfold madeCells at hb
 rw [Array.toList_map,List.mem_map] at hb
 obtain ⟨i,-,rfl⟩:=hb
 have h2:i % 2 = 0 ∨ i % 2 = 1:=by omega
 show (#[a,a]:Array Value)[i % 2]! = a
 rcases h2 with h | h <;> rw [h] <;> rfl
theorem flat_zero:∀ n:Nat,(List.replicate n ((0:Int),(0:Int))).flatMap csL = List.replicate (n * 2) (.int .i64 0)
 | 0 => rfl
 | n + 1 => by
  rw [List.replicate_succ,List.flatMap_cons,flat_zero n,show (n + 1) * 2 = n * 2 + 1 + 1 by omega,List.replicate_succ,List.replicate_succ]
  rfl
def fs0 (st:RS) (N:Nat):FS:=⟨List.replicate N (0,0),st.prods.map fun (l:Nat) => ⟨(l:Int),[],0⟩,0,st.pl,st.err⟩
theorem prods0:∀ l:List Nat,l.flatMap pdV = ((l.map fun (x:Nat) => (⟨(x:Int),[],0⟩:Pd)).zip (List.replicate l.length (.slice none 0 0))).flatMap fun x => prV x.1 x.2
 | [] => rfl
 | a :: l => by
  rw [List.flatMap_cons,prods0 l,List.map_cons,List.length_cons,List.replicate_succ,List.zip_cons_cons,List.flatMap_cons]
  rfl
set_option maxRecDepth 20000 in
theorem RdV.toW {B rb N:Nat} {T:Nat → Nat} {w:World} {X:RX} {st:RS} (h:RdV B T w rb X st) (hN:N ≤ 1000000) :
 ∃ w1,(Instr.makeSlice 24 (.int .i64 (N:Int)) (.int .i64 (N:Int))).run Tryz.prog w = .ok (.slice (some ⟨w.heap.size,0,none⟩) N N) w1 ∧ w1.cell? ⟨rb,3,none⟩ = some (.slice none 0 0) ∧ w1.frozen? ⟨rb,3,none⟩ = false ∧
  ∃ T',RdW B T' (w1.setCell ⟨rb,3,none⟩ (.slice (some ⟨w.heap.size,0,none⟩) N N)) rb X st (fs0 st N) (.slice (some ⟨w.heap.size,0,none⟩) N N) (List.replicate st.prods.length (.slice none 0 0)) none ∧ Chg T T' w (w1.setCell ⟨rb,3,none⟩ (.slice (some ⟨w.heap.size,0,none⟩) N N)):=by
 obtain ⟨i0,hi0,za,zb,zc⟩:=info_parts Tryz.infLv
 obtain ⟨w1,hrun,hO,hg⟩:=run_make_full (P:=Tryz.prog) w B 24 96 i0 _ 2 Tryz.underlying24 hi0 za zb .i64 .i64 N (by rw [zc];omega) (by unfold maxLen;omega) h.base
 have hrb:=blk_lt h.blk
 have hb1:Below w.heap.size w w1:=((Kept.of_grown hg).mono (G:=noBlk) (fun k _ e => by cases e)).none
 have hbk:=hs_keep h.blk hb1
 have hwl:w.heap.size < w1.heap.size:=(hO.lt w.heap.size rfl).2
 have ht:∀ b,b < w.heap.size → tagT T w.heap.size 3 b = T b:=fun b hb9 => if_neg (by omega)
 have hk:Kept (oneBlk rb) w (w1.setCell ⟨rb,3,none⟩ (.slice (some ⟨w.heap.size,0,none⟩) N N)):=(Kept.of_below hb1).setCell (a:=⟨rb,3,none⟩) (fun _ => rfl)
 have hc:Chg T (tagT T w.heap.size 3) w (w1.setCell ⟨rb,3,none⟩ (.slice (some ⟨w.heap.size,0,none⟩) N N)):=⟨hk.mono (fun k _ e => by rw [show k = rb from e,h.rt];decide),ht⟩
 have hF:∀ i,i ≠ 99 → ∀ b,oneBlk rb b → T b ≠ i:=fun i hi b e => by rw [show b = rb from e,h.rt];exact hi.symm
 have hsz:(w1.setCell ⟨rb,3,none⟩ (.slice (some ⟨w.heap.size,0,none⟩) N N)).heap.size = w1.heap.size:=by simp
 refine ⟨w1,hrun,blk_cell hbk rfl,blk_frozen hbk 3,tagT T w.heap.size 3,⟨heap_setCell hbk,(ht rb hrb).trans h.rt,fun b hn => ?_,Nat.le_trans h.base hk.size,h.rules.kept hk (hF 1 (by decide)) ht,h.rlen,fun x hx => (h.rre x hx).keep hc,h.nonts.kept hk (hF 2 (by decide)) ht,h.skips.kept hk (hF 8 (by decide)) ht,h.terms.kept hk (hF 9 (by decide)) ht,h.nons.kept hk (hF 10 (by decide)) ht,h.later.kept hk (hF 15 (by decide)) ht,h.flen,fun x hx => (h.fst x hx).keep hc,?_,?_,?_,fun j a b => ?_,fun m e => (by cases e)⟩,hc⟩
 · rw [hsz]
   unfold tagT at hn
   split at hn
   · rename_i e;subst e;exact ⟨h.base,hwl⟩
   · exact ⟨(h.own b hn).1,Nat.lt_of_lt_of_le (h.own b hn).2 hb1.size⟩
 · show OwnI _ _ _ _ _ _ _ (List.replicate N ((0:Int),(0:Int))).length ((List.replicate N ((0:Int),(0:Int))).flatMap csL)
   rw [List.length_replicate,flat_zero]
   have e1:(madeCells (Value.agg #[.int .i64 0,.int .i64 0]).cells (N * 2)).toList = List.replicate (N * 2) (.int .i64 0):=made_same _ _
   rw [e1] at hO
   refine ⟨own_set hO (fun e => by injection e with e;have:w.heap.size = rb:=e;omega),fun b e => ?_⟩
   have:w.heap.size = b:=by injection e
   rw [← this]
   exact if_pos rfl
 · show OwnI _ _ _ _ _ _ _ (st.prods.map fun (l:Nat) => (⟨(l:Int),[],0⟩:Pd)).length (((st.prods.map fun (l:Nat) => (⟨(l:Int),[],0⟩:Pd)).zip (List.replicate st.prods.length (.slice none 0 0))).flatMap fun x => prV x.1 x.2)
   rw [List.length_map,← prods0]
   exact h.prods.kept hk (hF 4 (by decide)) ht
 · show (List.replicate st.prods.length _).length = (st.prods.map _).length
   rw [List.length_replicate,List.length_map]
 · rw [List.getElem_replicate]
   have e9:(fs0 st N).prods[j].right = []:=by
    have b':j < (st.prods.map fun (l:Nat) => (⟨(l:Int),[],0⟩:Pd)).length:=b
    show ((st.prods.map fun (l:Nat) => (⟨(l:Int),[],0⟩:Pd))[j]'b').right = []
    rw [List.getElem_map]
   rw [e9]
   exact ⟨World.ownsRow_nil _ _ _ _,fun b e => by cases e⟩
theorem RdW.setLeft {B rb j g cap:Nat} {T:Nat → Nat} {w:World} {X:RX} {st:RS} {f:FS} {lv:Value} {rs:List Value} {mp:Option Nat} (h:RdW B T w rb X st f lv rs mp) (hj:j < f.prods.length) (hg:X.pv = .slice (some ⟨g,0,none⟩) f.prods.length cap) (n:Int) :
 RdW B T (w.setCell ⟨g,j * 3,none⟩ (.int .i64 n)) rb X st { f with prods:=modP f.prods j fun p => ⟨n,p.right,p.prec⟩ } lv rs mp ∧ Chg T T w (w.setCell ⟨g,j * 3,none⟩ (.int .i64 n)):=by
 have hl:=h.rslen
 have hz:(f.prods.zip rs).length = f.prods.length:=by rw [List.length_zip,hl,Nat.min_self]
 have hg4:T g = 4:=h.prods.2 g (by rw [hg];rfl)
 have hk:Kept (fun b => T b = 4 ∨ T b = 100 + j) w (w.setCell ⟨g,j * 3,none⟩ (.int .i64 n)):=(Kept.refl _ w).setCell (fun _ => .inl hg4)
 have hsz:(w.setCell ⟨g,j * 3,none⟩ (.int .i64 n)).heap.size = w.heap.size:=by simp
 have hone:Kept (oneBlk g) w (w.setCell ⟨g,j * 3,none⟩ (.int .i64 n)):=(Kept.refl (oneBlk g) w).setCell (a:=⟨g,j * 3,none⟩) (fun _ => rfl)
 have hm:=modP_at (g:=fun p => ⟨n,p.right,p.prec⟩) hj
 refine h.chgP (j0:=j) hk (fun _ _ => rfl) (fun b hn => by rw [hsz];exact h.own b hn) ?_ ?_ ?_ rfl rfl rfl rfl
 · show OwnI _ _ _ _ _ _ X.pv (modP f.prods j _).length (((modP f.prods j _).zip rs).flatMap _)
   rw [hm,List.length_set]
   have e1:rs = rs.set j (rs[j]'(by rw [hl];exact hj)):=by rw [List.set_getElem_self]
   have e2:((f.prods.set j ⟨n,f.prods[j].right,f.prods[j].prec⟩).zip rs).flatMap (fun x => prV x.1 x.2) = ((f.prods.zip rs).flatMap (fun x => prV x.1 x.2)).set (j * 3) (.int .i64 n):=by
    have h0:=flat_set (fun x:Pd × Value => prV x.1 x.2) (sz:=3) (fun _ => rfl) (f.prods.zip rs) j 0 (⟨n,f.prods[j].right,f.prods[j].prec⟩,rs[j]'(by rw [hl];exact hj)) (.int .i64 n) (by rw [hz];exact hj) (by decide) (by rw [List.getElem_zip];rfl)
    rw [Nat.add_zero] at h0
    rw [h0,← zip_set,← e1]
   rw [e2,hg]
   have:=h.prods
   rw [hg] at this
   exact this.setc _
 · show rs.length = (modP f.prods j _).length
   rw [hm,List.length_set];exact hl
 · intro i a b
   have b':i < f.prods.length:=by rw [← hl];exact a
   have e9:({ f with prods:=modP f.prods j fun p => ⟨n,p.right,p.prec⟩ }:FS).prods[i].right = f.prods[i].right:=by
    have e8:(modP f.prods j fun p => ⟨n,p.right,p.prec⟩)[i]'b = (f.prods.set j ⟨n,f.prods[j].right,f.prods[j].prec⟩)[i]'(by rw [List.length_set];exact b'):=by congr 1
    show ((modP f.prods j fun p => ⟨n,p.right,p.prec⟩)[i]'b).right = _
    rw [e8,List.getElem_set]
    split
    · rename_i e7;subst e7;rfl
    · rfl
   rw [e9]
   exact (h.rights i a b').kept hone (fun b0 e0 => by rw [show b0 = g from e0,hg4];omega) (fun _ _ => rfl)
set_option maxRecDepth 20000 in
set_option maxHeartbeats 4000000 in
theorem giveW {B rb:Nat} {T:Nat → Nat} {w:World} {X:RX} {st:RS} {f:FS} {lv:Value} {rs:List Value} {mp:Option Nat} (h:RdW B T w rb X st f lv rs mp) (p:Nat) (e:Int) (h0:f.err = 0) :
 Calls Tryz.prog 46 #[ptr0 rb,.int .i64 (p:Int),.int .i64 e] w fun r w' => r = .returned (.tuple #[]) ∧ RdR B T w rb X st { f with pl:=p,err:=e } lv w':=by
 have hb0:=h.blk
 have hb1:=heap_setCell (o:=16) (v:=.int .i64 (p:Int)) hb0
 have hb2:=heap_setCell (o:=17) (v:=.int .i64 e) hb1
 have hk:Kept (oneBlk rb) w ((w.setCell ⟨rb,16,none⟩ (.int .i64 (p:Int))).setCell ⟨rb,17,none⟩ (.int .i64 e)):=((Kept.refl (oneBlk rb) w).setCell (a:=⟨rb,16,none⟩) (fun _ => rfl)).setCell (a:=⟨rb,17,none⟩) (fun _ => rfl)
 obtain ⟨h2,c2⟩:=h.put (f':={ f with pl:=p,err:=e }) hk hb2 rfl rfl
 have hP:Hid (RdR B T w rb X st { f with pl:=p,err:=e } lv ((w.setCell ⟨rb,16,none⟩ (.int .i64 (p:Int))).setCell ⟨rb,17,none⟩ (.int .i64 e))):=hid ⟨T,rs,mp,h2,c2⟩
 have y17':w.cell? ⟨rb,17,none⟩ = some (.int .i64 f.err):=blk_cell hb0 rfl
 have y17:(w.setCell ⟨rb,16,none⟩ (.int .i64 (p:Int))).cell? ⟨rb,17,none⟩ = some (.int .i64 f.err):=blk_cell hb1 rfl
 rw [h0] at y17 y17'
 have y16:w.cell? ⟨rb,16,none⟩ = some (.int .i64 (f.pl:Int)):=blk_cell hb0 rfl
 have f16:=blk_frozen hb0 16
 have f17:=blk_frozen hb1 17
 clear hb0 hb1 hb2 hk h0 h h2 c2
 go_enter Tryz.func46,Tryz.ntmps46
 go_wp2
 go_end0
 exact ⟨rfl,hP.out⟩
end Go.Proofs.YtbpnioehmohbcaaGreat
namespace Go.Proofs.YtbpnioehmohbcaaGreat
open Go.RowKit Go.Maps
set_option maxRecDepth 20000 in
theorem stepC {B rb:Nat} {T:Nat → Nat} {w:World} {X:RX} {st:RS} {f:FS} {lv:Value} {rs:List Value} {mp:Option Nat} {v:Value} {s:Stp} (h:RdW B T w rb X st f lv rs mp) (hb:BndS st) (hs:StpV T w rb v s) (hx:s.w.2.2.length ≤ 1000000) (hp:s.k = 5 ∨ s.k = 6 → s.a < f.prods.length) (ht:(st.fnd s.w.2.2).2.1 < f.levels.length) (hr:∀ j (h:j < f.prods.length),f.prods[j].right.length ≤ 100000) (hl1:f.levels.length ≤ 100000) (hl2:f.prods.length ≤ 100000) :
 ∃ K caps,v = .func (.func K) #[] caps ∧ Calls Tryz.prog K caps w fun r w' => r = .returned (.int .i64 (stpF st.fnd s f).2) ∧ RdR B T w rb X st (stpF st.fnd s f).1 lv w':=by
 rcases hs with ⟨hk,p,q,e,h1,h2⟩ | ⟨hk,p,q,l,e,h1,h2,h3⟩ | ⟨hk,l,e,h3⟩ | ⟨hk,p,q,e,h1,h2⟩ | ⟨hk,p,l,q,e,h1,h2,h3⟩ | ⟨hk,p,q,l,e,h1,h2,h3⟩
 · refine ⟨_,_,e,?_⟩
   have e9:stpF st.fnd s f = (f,if (st.fnd s.w.2.2).1 < s.w.2.1 then 6 else 0):=by unfold stpF;rw [if_pos hk]
   rw [e9]
   exact onceK h hb hx h1 h2
 · refine ⟨_,_,e,?_⟩
   have e9:stpF st.fnd s f = (if (st.fnd s.w.2.2).2.1 = 0 then (f,5) else if 0 < (f.levels.getD (st.fnd s.w.2.2).2.1 (0,0)).1 then (f,6) else ({ f with levels:=f.levels.set (st.fnd s.w.2.2).2.1 ((s.a:Int),(s.b:Int)) },0)):=by unfold stpF;rw [if_neg (by omega),if_pos hk]
   have h9:=levK h hb hx ht h1 h2 h3 hl1
   rw [e9]
   by_cases c1:(st.fnd s.w.2.2).2.1 = 0
   · rw [if_pos c1,if_pos c1] at h9
     rw [if_pos c1]
     exact h9
   · rw [if_neg c1,if_neg c1] at h9
     rw [if_neg c1]
     by_cases c2:0 < (f.levels.getD (st.fnd s.w.2.2).2.1 (0,0)).1
     · rw [if_pos c2,if_pos c2] at h9
       rw [if_pos c2]
       exact h9
     · rw [if_neg c2,if_neg c2] at h9
       rw [if_neg c2]
       exact h9
 · refine ⟨_,_,e,?_⟩
   have e9:stpF st.fnd s f = (f,if s.a = 0 then 0 else 6):=by unfold stpF;rw [if_neg (by omega),if_neg (by omega),if_pos hk]
   rw [e9]
   exact secK h h3
 · refine ⟨_,_,e,?_⟩
   have e9:stpF st.fnd s f = ({ f with start:=((st.fnd s.w.2.2).2.2:Int) },if (st.fnd s.w.2.2).2.2 = 0 then 5 else 0):=by unfold stpF;rw [if_neg (by omega),if_neg (by omega),if_neg (by omega),if_pos hk]
   rw [e9]
   exact nameK h hb hx h1 h2
 · refine ⟨_,_,e,?_⟩
   have e9:stpF st.fnd s f = symR (st.fnd s.w.2.2) s.a f:=by unfold stpF symR;rw [if_neg (by omega),if_neg (by omega),if_neg (by omega),if_neg (by omega),if_pos hk]
   rw [e9]
   exact symK h hb hx (hp (.inl hk)) h1 h2 h3 hl2 (hr _ _)
 · refine ⟨_,_,e,?_⟩
   have e9:stpF st.fnd s f = (if (st.fnd s.w.2.2).2.1 = 0 then (f,5) else ({ f with prods:=modP f.prods s.a fun p => ⟨p.left,p.right,((st.fnd s.w.2.2).2.1:Int)⟩ },0)):=by unfold stpF;rw [if_neg (by omega),if_neg (by omega),if_neg (by omega),if_neg (by omega),if_neg (by omega)]
   have h9:=precK h hb hx (hp (.inr hk)) h1 h2 h3 hl2
   rw [e9]
   by_cases c1:(st.fnd s.w.2.2).2.1 = 0
   · rw [if_pos c1,if_pos c1] at h9
     rw [if_pos c1]
     exact h9
   · rw [if_neg c1,if_neg c1] at h9
     rw [if_neg c1]
     exact h9
def lftK (t:Nat) (l:List Nat) (k:Nat):List Pd:=((l.take k).map fun (x:Nat) => (⟨(x:Int) + (t:Int),[],0⟩:Pd)) ++ ((l.drop k).map fun (x:Nat) => (⟨(x:Int),[],0⟩:Pd))
theorem lftK_len (t:Nat) (l:List Nat) (k:Nat):(lftK t l k).length = l.length:=by
 unfold lftK
 rw [List.length_append,List.length_map,List.length_map,← List.length_append,List.take_append_drop]
theorem lftK_at? (t:Nat) (l:List Nat) (k:Nat) (hk:k < l.length):(lftK t l k)[k]? = some ⟨(l[k]:Int),[],0⟩:=by
 have h1:((l.take k).map fun (x:Nat) => (⟨(x:Int) + (t:Int),[],0⟩:Pd)).length = k:=by rw [List.length_map,List.length_take];omega
 unfold lftK
 rw [List.getElem?_append_right (by omega),h1,Nat.sub_self,List.drop_eq_getElem_cons hk]
 rfl
theorem lftK_set (t:Nat) (l:List Nat) (k:Nat) (hk:k < l.length):(lftK t l k).set k ⟨(l[k]:Int) + (t:Int),[],0⟩ = lftK t l (k + 1):=by
 have h1:((l.take k).map fun (x:Nat) => (⟨(x:Int) + (t:Int),[],0⟩:Pd)).length = k:=by rw [List.length_map,List.length_take];omega
 unfold lftK
 rw [List.set_append_right _ _ (by omega),h1,Nat.sub_self,List.drop_eq_getElem_cons hk,List.map_cons,List.set_cons_zero,List.take_add_one,List.getElem?_eq_getElem hk,List.map_append,List.append_assoc]
 rfl
def fsK (st:RS) (N t k:Nat):FS:={ fs0 st N with prods:=lftK t st.prods k }
theorem fsK_zero (st:RS) (N t:Nat):fsK st N t 0 = fs0 st N:=by unfold fsK fs0 lftK;simp
theorem fsK_len (st:RS) (N t k:Nat):(fsK st N t k).prods.length = st.prods.length:=lftK_len t st.prods k
theorem fsK_succ (st:RS) (N t k:Nat) (hk:k < st.prods.length):({ fsK st N t k with prods:=modP (fsK st N t k).prods k fun p => ⟨(st.prods[k]:Int) + (t:Int),p.right,p.prec⟩ }:FS) = fsK st N t (k + 1):=by
 have e1:modP (fsK st N t k).prods k (fun p => ⟨(st.prods[k]:Int) + (t:Int),p.right,p.prec⟩) = lftK t st.prods (k + 1):=by
  unfold modP
  have e2:(fsK st N t k).prods[k]? = some ⟨(st.prods[k]:Int),[],0⟩:=lftK_at? t st.prods k hk
  rw [e2]
  exact lftK_set t st.prods k hk
 rw [e1]
 rfl
theorem fsK_end (st:RS) (N t:Nat):(fsK st N t st.prods.length).prods = st.prods.map fun (l:Nat) => (⟨(l:Int) + (t:Int),[],0⟩:Pd):=by
 unfold fsK lftK
 simp
end Go.Proofs.YtbpnioehmohbcaaGreat
