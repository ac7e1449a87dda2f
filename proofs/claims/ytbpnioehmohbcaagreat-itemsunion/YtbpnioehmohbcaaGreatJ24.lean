/- The reader when all is read: levels, productions, the map; find. (*gram.index).find. What is left to be done, done: once, start. Productions change: their level, their right side; levels change. -/
import Derived.Test.YtbpnioehmohbcaaGreatJ23
namespace Go.Proofs.YtbpnioehmohbcaaGreat
open Go.RowKit Go.Maps
def rdC (X:RX) (lv:Value) (lc sc:Nat) (f:FS):Nat → Value
 | 0 => X.wv
 | 1 => X.rv
 | 2 => X.nv
 | 3 => lv
 | 4 => X.pv
 | 5 => .int .i64 f.start
 | 6 => .int .i64 (lc:Int)
 | 7 => .int .i64 (sc:Int)
 | 8 => X.sk
 | 9 => X.te
 | 10 => X.no
 | 15 => X.la
 | 16 => .int .i64 (f.pl:Int)
 | 17 => .int .i64 f.err
 | _ => .int .i64 0
def prV (p:Pd) (v:Value):List Value:=[.int .i64 p.left,v,.int .i64 p.prec]
structure RdW (B:Nat) (T:Nat → Nat) (w:World) (rb:Nat) (X:RX) (st:RS) (f:FS) (lv:Value) (rs:List Value) (mp:Option Nat):Prop where
 blk:w.heap[rb]? = some (rdK (rdC X lv st.levels st.starts f) (.int .u32 (if mp = none then 0 else 1)) (.int .i32 0) (.map mp))
 rt:T rb = 99
 own:∀ b,T b ≠ 0 → B ≤ b ∧ b < w.heap.size
 base:B ≤ w.heap.size
 rules:OwnI w B T 1 50 3 X.rv st.rules.length ((st.rules.zip X.rl).flatMap fun x => rlV x.1 x.2)
 rlen:X.rl.length = st.rules.length
 rre:∀ x ∈ st.rules.zip X.rl,RuC T w st.err x.2 x.1.re
 nonts:OwnI w B T 2 9 1 X.nv st.nonts.length (st.nonts.flatMap csT)
 skips:OwnI w B T 8 63 3 X.sk st.skips.length (st.skips.flatMap wdV)
 terms:OwnI w B T 9 63 3 X.te st.terms.length (st.terms.flatMap wdV)
 nons:OwnI w B T 10 63 3 X.no st.nons.length (st.nons.flatMap wdV)
 later:OwnI w B T 15 93 2 X.la st.later.length ((st.later.zip X.fl).flatMap fun x => spV x.1 x.2)
 flen:X.fl.length = st.later.length
 fst:∀ x ∈ st.later.zip X.fl,StpV T w rb x.2 x.1
 levels:OwnI w B T 3 96 2 lv f.levels.length (f.levels.flatMap csL)
 prods:OwnI w B T 4 52 3 X.pv f.prods.length ((f.prods.zip rs).flatMap fun x => prV x.1 x.2)
 rslen:rs.length = f.prods.length
 rights:∀ j (h:j < rs.length) (h':j < f.prods.length),OwnI w B T (100 + j) 3 1 rs[j] f.prods[j].right.length (f.prods[j].right.flatMap csI)
 map:∀ m,mp = some m → T m = 5 ∧ ∃ n,OwnMp w m n (ownL st.told (fun _ => none))
theorem RdW.fresh {B rb b:Nat} {T:Nat → Nat} {w:World} {X:RX} {st:RS} {f:FS} {lv:Value} {rs:List Value} {mp:Option Nat} (h:RdW B T w rb X st f lv rs mp) (hb:w.heap.size ≤ b):T b = 0:=by
 rcases Nat.eq_zero_or_pos (T b) with h1 | h1
 · exact h1
 · have:=(h.own b (by omega)).2
   omega
theorem RdW.kept {B rb:Nat} {T T':Nat → Nat} {w w':World} {X:RX} {st:RS} {f:FS} {lv:Value} {rs:List Value} {mp:Option Nat} {F:Nat → Prop} (h:RdW B T w rb X st f lv rs mp) (hk:Kept F w w') (hF:∀ b,F b → T b = 77) (ht:∀ b,b < w.heap.size → T b ≠ 77 → T' b = T b) (ho:∀ b,T' b ≠ 0 → B ≤ b ∧ b < w'.heap.size):RdW B T' w' rb X st f lv rs mp:=by
 have hk7:Kept (fun b => T b = 77) w w':=hk.mono (fun b _ e => hF b e)
 have hr:=blk_lt h.blk
 have h7:T rb ≠ 77:=by rw [h.rt];decide
 refine ⟨hk7.blk h.blk h7,(ht rb hr h7).trans h.rt,ho,Nat.le_trans h.base hk.size,h.rules.mv hk7 (by decide) ht,h.rlen,fun x hx => (h.rre x hx).mv hk7 ht,h.nonts.mv hk7 (by decide) ht,h.skips.mv hk7 (by decide) ht,h.terms.mv hk7 (by decide) ht,h.nons.mv hk7 (by decide) ht,h.later.mv hk7 (by decide) ht,h.flen,fun x hx => (h.fst x hx).mv hk7 ht,h.levels.mv hk7 (by decide) ht,h.prods.mv hk7 (by decide) ht,h.rslen,fun j a b => (h.rights j a b).mv hk7 (by omega) ht,fun m e => ?_⟩
 obtain ⟨t5,n,hM⟩:=h.map m e
 have h8:T m ≠ 77:=by rw [t5];decide
 have hml:m < w.heap.size:=(h.own m (by rw [t5];decide)).2
 exact ⟨(ht m hml h8).trans t5,n,hM.keep hk7 h8⟩
theorem RdW.keep {B rb:Nat} {T:Nat → Nat} {w w':World} {X:RX} {st:RS} {f:FS} {lv:Value} {rs:List Value} {mp:Option Nat} (h:RdW B T w rb X st f lv rs mp) (hb:Below w.heap.size w w'):RdW B T w' rb X st f lv rs mp:=
 h.kept (F:=fun _ => False) (Kept.of_below hb) (fun _ e => e.elim) (fun _ _ _ => rfl) (fun b hn => ⟨(h.own b hn).1,Nat.lt_of_lt_of_le (h.own b hn).2 hb.size⟩)
theorem RdW.aside {B rb q:Nat} {T:Nat → Nat} {w F:World} {X:RX} {st:RS} {f:FS} {lv:Value} {rs:List Value} {mp:Option Nat} (h:RdW B T w rb X st f lv rs mp) (hb:Below w.heap.size w F) (h1:w.heap.size ≤ q) (h2:q < F.heap.size):RdW B (tagT T q 77) F rb X st f lv rs mp ∧ Chg T (tagT T q 77) w F:=by
 have ht:∀ b,b < w.heap.size → tagT T q 77 b = T b:=fun b hb9 => if_neg (by omega)
 refine ⟨h.kept (F:=fun _ => False) (Kept.of_below hb) (fun _ e => e.elim) (fun b hb9 _ => ht b hb9) (fun b hn => ?_),Kept.of_below hb,ht⟩
 unfold tagT at hn
 split at hn
 · rename_i e;subst e;exact ⟨Nat.le_trans h.base h1,h2⟩
 · exact ⟨(h.own b hn).1,Nat.lt_of_lt_of_le (h.own b hn).2 hb.size⟩
theorem RdW.wrote {B rb q:Nat} {T:Nat → Nat} {w F:World} {X:RX} {st:RS} {f:FS} {lv:Value} {rs:List Value} {mp:Option Nat} (h:RdW B T w rb X st f lv rs mp) (hk:Kept (oneBlk q) w F) (hq:T q = 77):RdW B T F rb X st f lv rs mp:=
 h.kept hk (fun b e => by rw [show b = q from e,hq]) (fun _ _ _ => rfl) (fun b hn => ⟨(h.own b hn).1,Nat.lt_of_lt_of_le (h.own b hn).2 hk.size⟩)
theorem RdW.mapped {B rb m n:Nat} {T:Nat → Nat} {w F:World} {X:RX} {st:RS} {f:FS} {lv:Value} {rs:List Value} (h:RdW B T w rb X st f lv rs none) (hk:Kept (oneBlk rb) w F) (hb:F.heap[rb]? = some (rdK (rdC X lv st.levels st.starts f) (.int .u32 1) (.int .i32 0) (.map (some m)))) (h1:w.heap.size ≤ m) (h2:m < F.heap.size) (hM:OwnMp F m n (ownL st.told (fun _ => none))) :
 RdW B (tagT T m 5) F rb X st f lv rs (some m) ∧ Chg T (tagT T m 5) w F:=by
 have hr:=blk_lt h.blk
 have ht:∀ b,b < w.heap.size → tagT T m 5 b = T b:=fun b hb9 => if_neg (by omega)
 have hc:Chg T (tagT T m 5) w F:=⟨hk.mono (fun k _ e => by rw [show k = rb from e,h.rt];decide),ht⟩
 have hF:∀ i,i ≠ 99 → ∀ b,oneBlk rb b → T b ≠ i:=fun i hi b e => by rw [show b = rb from e,h.rt];exact hi.symm
 refine ⟨⟨hb,(ht rb hr).trans h.rt,fun b hn => ?_,Nat.le_trans h.base hk.size,h.rules.kept hk (hF 1 (by decide)) ht,h.rlen,fun x hx => (h.rre x hx).keep hc,h.nonts.kept hk (hF 2 (by decide)) ht,h.skips.kept hk (hF 8 (by decide)) ht,h.terms.kept hk (hF 9 (by decide)) ht,h.nons.kept hk (hF 10 (by decide)) ht,h.later.kept hk (hF 15 (by decide)) ht,h.flen,fun x hx => (h.fst x hx).keep hc,h.levels.kept hk (hF 3 (by decide)) ht,h.prods.kept hk (hF 4 (by decide)) ht,h.rslen,fun j a b => ?_,fun m' e => ?_⟩,hc⟩
 · unfold tagT at hn
   split at hn
   · rename_i e;subst e;exact ⟨Nat.le_trans h.base h1,h2⟩
   · exact ⟨(h.own b hn).1,Nat.lt_of_lt_of_le (h.own b hn).2 hk.size⟩
 · by_cases h9:100 + j = 99
   · omega
   · exact (h.rights j a b).kept hk (hF (100 + j) h9) ht
 · injection e with e
   subst e
   exact ⟨if_pos rfl,n,hM⟩
end Go.Proofs.YtbpnioehmohbcaaGreat
namespace Go.Proofs.YtbpnioehmohbcaaGreat
open Go.RowKit Go.Maps
structure BndS (st:RS):Prop where
 l1:st.skips.length ≤ 90000
 l2:st.terms.length ≤ 90000
 l3:st.nons.length ≤ 90000
 x1:∀ x ∈ st.skips,x.2.2.length ≤ 1000000
 x2:∀ x ∈ st.terms,x.2.2.length ≤ 1000000
 x3:∀ x ∈ st.nons,x.2.2.length ≤ 1000000
def RdQ (B:Nat) (T:Nat → Nat) (w:World) (rb:Nat) (X:RX) (st:RS) (f:FS) (lv:Value) (rs:List Value) (w':World):Prop:=∃ T' mp,RdW B T' w' rb X st f lv rs mp ∧ Chg T T' w w'
set_option maxRecDepth 20000 in
set_option maxHeartbeats 8000000 in
theorem findC {B rb:Nat} {T:Nat → Nat} {w:World} {X:RX} {st:RS} {f:FS} {lv:Value} {rs:List Value} {mp:Option Nat} (h:RdW B T w rb X st f lv rs mp) (hb:BndS st) (t:Txt) (ht:t.length ≤ 1000000) :
 Calls Tryz.prog 92 #[.pointer (some ⟨rb,8,none⟩),.string (strT t)] w fun r w' => r = .returned (owV (st.fnd t)) ∧ RdQ B T w rb X st f lv rs w':=by
 have hmf:∀ (fn:Fn) (first cap:Array Value) (w:World),(Instr.makeFunc fn first cap).run Tryz.prog w = .ok (.func fn first cap) w:=fun _ _ _ _ => rfl
 obtain ⟨W1,hW1⟩:∃ y,w.alloc boxO0 = y:=⟨_,rfl⟩
 have hz1:W1.heap.size = w.heap.size + 1:=by rw [← hW1];exact World.size_alloc ..
 have hB1:Below w.heap.size w W1:=by rw [← hW1];exact al' w _
 have hr1:W1.heap[w.heap.size]? = some boxO0:=by rw [← hW1];exact heap_new w _
 obtain ⟨h1,c1⟩:=h.aside (q:=w.heap.size) hB1 (Nat.le_refl _) (by omega)
 have hrb:=blk_lt h.blk
 have hne:rb ≠ w.heap.size:=by omega
 have hq7:tagT T w.heap.size 77 w.heap.size = 77:=if_pos rfl
 obtain ⟨o,ho⟩:∃ o,st.fnd t = o:=⟨_,rfl⟩
 have HF:Hid (∀ T3 m F1,RdW B T3 F1 rb X st f lv rs (some m) → Chg (tagT T w.heap.size 77) T3 W1 F1 → F1.heap[w.heap.size]? = some boxO0 ∧ F1.cell? ⟨rb,14,none⟩ = some (.map (some m)) ∧ (Instr.lookup 76 (.map (some m)) (.string (strT t)) false).run Tryz.prog F1 = .ok (owV o) F1 ∧ RdQ B T w rb X st f lv rs (((F1.setCell ⟨w.heap.size,0,none⟩ (.int .i64 (o.1:Int))).setCell ⟨w.heap.size,1,none⟩ (.int .i64 (o.2.1:Int))).setCell ⟨w.heap.size,2,none⟩ (.int .i64 (o.2.2:Int)))):=hid (fun T3 m F1 h3 c3 => by
  obtain ⟨-,n,hM⟩:=h3.map m rfl
  have hbx:F1.heap[w.heap.size]? = some boxO0:=c3.kept.blk hr1 (fun e => e.2 hq7)
  have hk:=hM.look1 t ht
  have e9:(ownL st.told (fun _ => none) t).getD (0,0,0) = o:=ho
  rw [e9] at hk
  have hF:Kept (oneBlk w.heap.size) F1 (((F1.setCell ⟨w.heap.size,0,none⟩ (.int .i64 (o.1:Int))).setCell ⟨w.heap.size,1,none⟩ (.int .i64 (o.2.1:Int))).setCell ⟨w.heap.size,2,none⟩ (.int .i64 (o.2.2:Int))):=(((Kept.refl (oneBlk w.heap.size) F1).setCell (a:=⟨w.heap.size,0,none⟩) (fun _ => rfl)).setCell (a:=⟨w.heap.size,1,none⟩) (fun _ => rfl)).setCell (a:=⟨w.heap.size,2,none⟩) (fun _ => rfl)
  have ht3:T3 w.heap.size = 77:=(c3.tag w.heap.size (by omega)).trans hq7
  have c13:=c1.trans c3
  refine ⟨hbx,blk_cell h3.blk rfl,hk,T3,some m,h3.wrote hF ht3,?_,c13.tag⟩
  exact c13.kept.step hF (fun k hk9 e => absurd hk9 (by rw [show k = w.heap.size from e];exact Nat.lt_irrefl _)))
 have GD:Hid (Calls Tryz.prog 123 #[.pointer (some ⟨rb,11,none⟩),fillV rb] W1 fun r F1 => r = .returned (.tuple #[]) ∧ ∃ T3 m,RdW B T3 F1 rb X st f lv rs (some m) ∧ Chg (tagT T w.heap.size 77) T3 W1 F1):=hid (by
  cases mp with
  | none =>
   refine (doC (c:=rdC X lv st.levels st.starts f) st.skips st.terms st.nons h1.blk (h1.skips.wrow (_n:=0) h1.rt (by decide)) (h1.terms.wrow (_n:=0) h1.rt (by decide)) (h1.nons.wrow (_n:=0) h1.rt (by decide)) hb.l1 hb.l2 hb.l3 hb.x1 hb.x2 hb.x3).mono ?_
   rintro r F1 ⟨e,hblk,⟨n,hM⟩,hk,hs⟩
   obtain ⟨h3,c3⟩:=h1.mapped hk hblk (Nat.le_refl _) hs hM
   exact ⟨e,_,_,h3,c3⟩
  | some m =>
   refine (doneC (fillV rb) (blk_cell h1.blk rfl)).mono ?_
   rintro r F1 ⟨e,rfl⟩
   exact ⟨e,_,m,h1,Chg.refl _ _⟩)
 rw [ho]
 clear h h1 c1 hb hr1 hB1 ho hq7
 obtain ⟨oa,ob,oc⟩:=o
 try dsimp only at *
 go_enter Tryz.func92,Tryz.ntmps92
 go_wp2_with (go_at_call 123;refine GD.out.mono ?_;clear GD;rintro e F1 ⟨rfl,T3,m,h3,c3⟩;obtain ⟨hbx,c14,hlk,hQ⟩:=HF.out T3 m F1 h3 c3;clear HF h3 c3;have hQ:=hid hQ;obtain ⟨⟨q0,q1⟩,⟨q2,q3⟩,⟨q4,q5⟩,q6,q7,q8⟩:=putT3 hbx (.int .i64 (oa:Int)) (.int .i64 (ob:Int)) (.int .i64 (oc:Int));clear hbx)
 refine bodyPost_ret (v:=owV (oa,ob,oc)) (by simp [results,Tryz.results92,go_sem,q6,q7,q8]) rfl ⟨rfl,?_⟩
 exact hQ.out
end Go.Proofs.YtbpnioehmohbcaaGreat
namespace Go.Proofs.YtbpnioehmohbcaaGreat
open Go.RowKit Go.Maps
theorem collapseV {R F:World → Prop} {G:Prop} (h:(∀ V,F V → R V) → G) (pf:∀ V,F V → R V):G:=h pf
def RdR (B:Nat) (T:Nat → Nat) (w:World) (rb:Nat) (X:RX) (st:RS) (f:FS) (lv:Value) (w':World):Prop:=∃ T' rs mp,RdW B T' w' rb X st f lv rs mp ∧ Chg T T' w w'
set_option maxRecDepth 20000 in
theorem fldO (o:Ow) (u:World):(Instr.field 123 (owV o) 0).run Tryz.prog u = .ok (.int .i64 (o.1:Int)) u ∧ (Instr.field 123 (owV o) 1).run Tryz.prog u = .ok (.int .i64 (o.2.1:Int)) u ∧ (Instr.field 123 (owV o) 2).run Tryz.prog u = .ok (.int .i64 (o.2.2:Int)) u:=⟨by kernel_rfl,by kernel_rfl,by kernel_rfl⟩
set_option maxRecDepth 20000 in
theorem findK {B rb p q:Nat} {T:Nat → Nat} {w:World} {X:RX} {st:RS} {f:FS} {lv:Value} {rs:List Value} {mp:Option Nat} {x:Wd} (h:RdW B T w rb X st f lv rs mp) (hb:BndS st) (hx:x.2.2.length ≤ 1000000) (ip:Im T w p (boxR rb)) (iq:Im T w q (boxW x)) :
 Calls Tryz.prog 92 #[.pointer (some ⟨rb,8,none⟩),.string (strT x.2.2)] w fun r w' => r = .returned (owV (st.fnd x.2.2)) ∧ ∃ T' mp',RdW B T' w' rb X st f lv rs mp' ∧ Chg T T' w w' ∧ Im T' w' p (boxR rb) ∧ Im T' w' q (boxW x):=by
 refine (findC h hb x.2.2 hx).mono ?_
 rintro r w' ⟨e,T',mp',hr,hc⟩
 exact ⟨e,T',mp',hr,hc,ip.keep hc,iq.keep hc⟩
set_option maxRecDepth 20000 in
set_option maxHeartbeats 8000000 in
theorem onceK {B rb p q:Nat} {T:Nat → Nat} {w:World} {X:RX} {st:RS} {f:FS} {lv:Value} {rs:List Value} {mp:Option Nat} {x:Wd} (h:RdW B T w rb X st f lv rs mp) (hb:BndS st) (hx:x.2.2.length ≤ 1000000) (ip:Im T w p (boxR rb)) (iq:Im T w q (boxW x)) :
 Calls Tryz.prog 122 #[ptr0 p,ptr0 q] w fun r w' => r = .returned (.int .i64 (if (st.fnd x.2.2).1 < x.2.1 then 6 else 0)) ∧ RdR B T w rb X st f lv w':=by
 have hbd:Below w.heap.size w w.drew:=(Below.refl _ w).drew
 have cd:=Chg.of_below (T:=T) hbd
 have hrd:=h.keep hbd
 have ipd:=ip.keep cd
 have iqd:=iq.keep cd
 have G:=findK hrd hb hx ipd iqd
 have G:Hid (Calls Tryz.prog 92 #[.pointer (some ⟨rb,8,none⟩),.string (strT x.2.2)] w.drew fun r w' => r = .returned (owV (st.fnd x.2.2)) ∧ (w'.cell? ⟨p,0,none⟩ = some (ptr0 rb) ∧ w'.cell? ⟨q,1,none⟩ = some (.int .i64 (x.2.1:Int)) ∧ w'.cell? ⟨q,2,none⟩ = some (.string (strT x.2.2))) ∧ RdR B T w rb X st f lv w'):=hid (G.mono (fun r w' ⟨e,T',mp',hr,hc,i1,i2⟩ => ⟨e,⟨i1.cell rfl,i2.cell rfl,i2.cell rfl⟩,T',rs,mp',hr,cd.trans hc⟩))
 have d0:w.drew.cell? ⟨p,0,none⟩ = some (ptr0 rb):=ipd.cell rfl
 have d1:w.drew.cell? ⟨q,1,none⟩ = some (.int .i64 (x.2.1:Int)):=iqd.cell rfl
 have d2:w.drew.cell? ⟨q,2,none⟩ = some (.string (strT x.2.2)):=iqd.cell rfl
 obtain ⟨o,ho⟩:∃ o,st.fnd x.2.2 = o:=⟨_,rfl⟩
 rw [ho] at G ⊢
 have hfd:∀ u:World,(Instr.field 123 (owV o) 0).run Tryz.prog u = .ok (.int .i64 (o.1:Int)) u:=fun u => (fldO o u).1
 clear h hb hx ip iq hbd cd hrd ipd iqd ho
 obtain ⟨xk,xp,xt⟩:=x
 obtain ⟨oa,ob,oc⟩:=o
 try dsimp only at *
 by_cases hlt:oa < xp
 · have hltz:(oa:Int) < (xp:Int):=by omega
   rw [if_pos hlt]
   clear hlt
   go_enter Tryz.func122,Tryz.ntmps122
   go_wp2_with fail
   go_region_held3 (fun w' => w'.cell? ⟨p,0,none⟩ = some (ptr0 rb) ∧ w'.cell? ⟨q,1,none⟩ = some (.int .i64 (xp:Int)) ∧ w'.cell? ⟨q,2,none⟩ = some (.string (strT xt))) (go_keep) ((go_at_call 92;refine G.out.mono ?_;rintro e u1 ⟨rfl,⟨s0,s1,s2⟩,hQ⟩;have hQ:=hid hQ))
   all_goals
    go_wp2
    go_ret
    exact ⟨rfl,hQ.out⟩
 · have hltz:¬ (oa:Int) < (xp:Int):=by omega
   rw [if_neg hlt]
   clear hlt
   go_enter Tryz.func122,Tryz.ntmps122
   go_wp2_with fail
   go_region_held3 (fun w' => w'.cell? ⟨p,0,none⟩ = some (ptr0 rb) ∧ w'.cell? ⟨q,1,none⟩ = some (.int .i64 (xp:Int)) ∧ w'.cell? ⟨q,2,none⟩ = some (.string (strT xt))) (go_keep) ((go_at_call 92;refine G.out.mono ?_;rintro e u1 ⟨rfl,⟨s0,s1,s2⟩,hQ⟩;have hQ:=hid hQ))
   all_goals
    go_wp2
    go_ret
    exact ⟨rfl,hQ.out⟩
set_option maxRecDepth 20000 in
set_option maxHeartbeats 8000000 in
theorem secK {B rb l:Nat} {T:Nat → Nat} {w:World} {X:RX} {st:RS} {f:FS} {lv:Value} {rs:List Value} {mp:Option Nat} {a:Nat} (h:RdW B T w rb X st f lv rs mp) (il:Im T w l (boxB (decide (a ≠ 0)))) :
 Calls Tryz.prog 90 #[ptr0 l] w fun r w' => r = .returned (.int .i64 (if a = 0 then 0 else 6)) ∧ RdR B T w rb X st f lv w':=by
 have hQ:Hid (RdR B T w rb X st f lv w):=hid ⟨T,rs,mp,h,Chg.refl _ _⟩
 have d0:w.cell? ⟨l,0,none⟩ = some (.bool (decide (a ≠ 0))):=il.cell rfl
 clear h il
 by_cases ha:a = 0
 · rw [if_pos ha]
   rw [decide_eq_false (fun e => e ha)] at d0
   clear ha
   go_enter Tryz.func90,Tryz.ntmps90
   go_wp2
   go_ret
   exact ⟨rfl,hQ.out⟩
 · rw [if_neg ha]
   rw [decide_eq_true (show a ≠ 0 from ha)] at d0
   clear ha
   go_enter Tryz.func90,Tryz.ntmps90
   go_wp2
   go_ret
   exact ⟨rfl,hQ.out⟩
theorem RdW.put {B rb:Nat} {T:Nat → Nat} {w F:World} {X:RX} {st:RS} {f f':FS} {lv:Value} {rs:List Value} {mp:Option Nat} (h:RdW B T w rb X st f lv rs mp) (hk:Kept (oneBlk rb) w F) (hb:F.heap[rb]? = some (rdK (rdC X lv st.levels st.starts f') (.int .u32 (if mp = none then 0 else 1)) (.int .i32 0) (.map mp))) (e1:f'.levels = f.levels) (e2:f'.prods = f.prods) :
 RdW B T F rb X st f' lv rs mp ∧ Chg T T w F:=by
 have hr:=blk_lt h.blk
 have ht:∀ b,b < w.heap.size → T b = T b:=fun _ _ => rfl
 have hc:Chg T T w F:=⟨hk.mono (fun k _ e => by rw [show k = rb from e,h.rt];decide),ht⟩
 have hF:∀ i,i ≠ 99 → ∀ b,oneBlk rb b → T b ≠ i:=fun i hi b e => by rw [show b = rb from e,h.rt];exact hi.symm
 refine ⟨⟨hb,h.rt,fun b hn => ⟨(h.own b hn).1,Nat.lt_of_lt_of_le (h.own b hn).2 hk.size⟩,Nat.le_trans h.base hk.size,h.rules.kept hk (hF 1 (by decide)) ht,h.rlen,fun x hx => (h.rre x hx).keep hc,h.nonts.kept hk (hF 2 (by decide)) ht,h.skips.kept hk (hF 8 (by decide)) ht,h.terms.kept hk (hF 9 (by decide)) ht,h.nons.kept hk (hF 10 (by decide)) ht,h.later.kept hk (hF 15 (by decide)) ht,h.flen,fun x hx => (h.fst x hx).keep hc,?_,?_,?_,?_,fun m e => ?_⟩,hc⟩
 · rw [e1];exact h.levels.kept hk (hF 3 (by decide)) ht
 · rw [e2];exact h.prods.kept hk (hF 4 (by decide)) ht
 · rw [e2];exact h.rslen
 · rw [e2]
   exact fun j a b => (h.rights j a b).kept hk (hF (100 + j) (by omega)) ht
 · obtain ⟨t5,n,hM⟩:=h.map m e
   exact ⟨t5,n,hM.keep hk (fun e9 => by rw [show m = rb from e9,h.rt] at t5;cases t5)⟩
end Go.Proofs.YtbpnioehmohbcaaGreat
namespace Go.Proofs.YtbpnioehmohbcaaGreat
open Go.RowKit Go.Maps
theorem flat_set {α:Type} {sz:Nat} (cs:α → List Value) (hc:∀ x,(cs x).length = sz):∀ (l:List α) (j i:Nat) (y:α) (v:Value) (h:j < l.length),i < sz → (cs l[j]).set i v = cs y → (l.flatMap cs).set (j * sz + i) v = (l.set j y).flatMap cs
 | [],j,i,y,v,h,_,_ => absurd h (Nat.not_lt_zero _)
 | a :: l,0,i,y,v,h,hi,e => by
  rw [List.flatMap_cons,List.set_cons_zero,List.flatMap_cons,Nat.zero_mul,Nat.zero_add,List.set_append_left _ _ (by rw [hc];exact hi)]
  have e:(cs a).set i v = cs y:=e
  rw [e]
 | a :: l,j + 1,i,y,v,h,hi,e => by
  have h1:j < l.length:=by simpa using h
  have e2:(j + 1) * sz + i = (cs a).length + (j * sz + i):=by rw [hc,Nat.succ_mul];omega
  rw [List.flatMap_cons,List.set_cons_succ,List.flatMap_cons,e2,List.set_append_right _ _ (Nat.le_add_right _ _),Nat.add_sub_cancel_left,flat_set cs hc l j i y v h1 hi e]
theorem zip_set {α β:Type}:∀ (l:List α) (m:List β) (j:Nat) (a:α) (b:β),(l.set j a).zip (m.set j b) = (l.zip m).set j (a,b)
 | [],m,j,a,b => by simp
 | x :: l,[],j,a,b => by cases j <;> simp
 | x :: l,y :: m,0,a,b => by simp
 | x :: l,y :: m,j + 1,a,b => by
  rw [List.set_cons_succ,List.set_cons_succ,List.zip_cons_cons,zip_set l m j a b,List.zip_cons_cons,List.set_cons_succ]
theorem OwnI.setc {w:World} {B i sz n g k cap:Nat} {T:Nat → Nat} {te:TypeId} {xs:List Value} (h:OwnI w B T i te sz (.slice (some ⟨g,0,none⟩) n cap) n xs) (y:Value):OwnI (w.setCell ⟨g,k,none⟩ y) B T i te sz (.slice (some ⟨g,0,none⟩) n cap) n (xs.set k y):=⟨own_put h.1 y,h.2⟩
theorem RdW.chgP {B rb j0:Nat} {T T':Nat → Nat} {w F:World} {X:RX} {st:RS} {f f':FS} {lv:Value} {rs rs':List Value} {mp:Option Nat} (h:RdW B T w rb X st f lv rs mp) (hk:Kept (fun b => T b = 4 ∨ T b = 100 + j0) w F) (ht:∀ b,b < w.heap.size → T' b = T b) (ho:∀ b,T' b ≠ 0 → B ≤ b ∧ b < F.heap.size)
 (hp:OwnI F B T' 4 52 3 X.pv f'.prods.length ((f'.prods.zip rs').flatMap fun x => prV x.1 x.2)) (hl:rs'.length = f'.prods.length) (hr:∀ j (h:j < rs'.length) (h':j < f'.prods.length),OwnI F B T' (100 + j) 3 1 rs'[j] f'.prods[j].right.length (f'.prods[j].right.flatMap csI))
 (e1:f'.levels = f.levels) (e2:f'.start = f.start) (e3:f'.pl = f.pl) (e4:f'.err = f.err):RdW B T' F rb X st f' lv rs' mp ∧ Chg T T' w F:=by
 have hrb:=blk_lt h.blk
 have hc:Chg T T' w F:=⟨hk.mono (fun k _ e => by rcases e with e | e <;> rw [e] <;> omega),ht⟩
 have hF:∀ i,i ≠ 4 → i < 100 → ∀ b,T b = 4 ∨ T b = 100 + j0 → T b ≠ i:=fun i hi hj b e => by rcases e with e | e <;> rw [e] <;> omega
 have hnr:¬ (T rb = 4 ∨ T rb = 100 + j0):=fun e => by rw [h.rt] at e;omega
 have ebl:rdC X lv st.levels st.starts f' = rdC X lv st.levels st.starts f:=by
  funext i
  unfold rdC
  rw [e2,e3,e4]
 refine ⟨⟨by rw [ebl];exact hk.blk h.blk hnr,(ht rb hrb).trans h.rt,ho,Nat.le_trans h.base hk.size,h.rules.kept hk (hF 1 (by decide) (by decide)) ht,h.rlen,fun x hx => (h.rre x hx).keep hc,h.nonts.kept hk (hF 2 (by decide) (by decide)) ht,h.skips.kept hk (hF 8 (by decide) (by decide)) ht,h.terms.kept hk (hF 9 (by decide) (by decide)) ht,h.nons.kept hk (hF 10 (by decide) (by decide)) ht,h.later.kept hk (hF 15 (by decide) (by decide)) ht,h.flen,fun x hx => (h.fst x hx).keep hc,?_,hp,hl,hr,fun m e => ?_⟩,hc⟩
 · rw [e1];exact h.levels.kept hk (hF 3 (by decide) (by decide)) ht
 · obtain ⟨t5,n,hM⟩:=h.map m e
   have hml:m < w.heap.size:=(h.own m (by rw [t5];decide)).2
   exact ⟨(ht m hml).trans t5,n,hM.keep hk (fun e9 => by rw [t5] at e9;omega)⟩
theorem RdW.prodAt {B rb j:Nat} {T:Nat → Nat} {w:World} {X:RX} {st:RS} {f:FS} {lv:Value} {rs:List Value} {mp:Option Nat} (h:RdW B T w rb X st f lv rs mp) (hj:j < f.prods.length) :
 ∃ g cap,X.pv = .slice (some ⟨g,0,none⟩) f.prods.length cap ∧ T g = 4 ∧ w.cell? ⟨g,j * 3,none⟩ = some (.int .i64 f.prods[j].left) ∧ w.cell? ⟨g,j * 3 + 1,none⟩ = some (rs[j]'(by rw [h.rslen];exact hj)) ∧ w.cell? ⟨g,j * 3 + 2,none⟩ = some (.int .i64 f.prods[j].prec) ∧ (∀ k,w.frozen? ⟨g,k,none⟩ = false) ∧ g ≠ rb:=by
 have hl:=h.rslen
 have hz:(f.prods.zip rs).length = f.prods.length:=by rw [List.length_zip,hl,Nat.min_self]
 rcases h.prods.1.2 with ⟨h1,h2⟩ | ⟨g,cap,cur,h1,h2,h3,h4,h5,h6,h7⟩
 · omega
 · have hg:T g = 4:=h.prods.2 g (by rw [h1];rfl)
   have hcell:∀ i,i < 3 → w.cell? ⟨g,j * 3 + i,none⟩ = (prV f.prods[j] (rs[j]'(by rw [hl];exact hj)))[i]?:=fun i hi => by
    have e1:=flat_at (fun x:Pd × Value => prV x.1 x.2) (sz:=3) (fun _ => rfl) (f.prods.zip rs) j i (by rw [hz];exact hj) hi
    rw [List.getElem_zip] at e1
    rw [← e1]
    have hown:=h.prods.1
    rw [h1] at hown
    exact hown.cellAt (j * 3 + i) (by omega)
   exact ⟨g,cap,h1,hg,hcell 0 (by decide),hcell 1 (by decide),hcell 2 (by decide),fun k => blk_frozen h3 k,fun e => by rw [e,h.rt] at hg;cases hg⟩
theorem modP_at {l:List Pd} {j:Nat} {g:Pd → Pd} (hj:j < l.length):modP l j g = l.set j (g l[j]):=by
 unfold modP
 rw [List.getElem?_eq_getElem hj]
theorem RdW.setPrec {B rb j g cap:Nat} {T:Nat → Nat} {w:World} {X:RX} {st:RS} {f:FS} {lv:Value} {rs:List Value} {mp:Option Nat} (h:RdW B T w rb X st f lv rs mp) (hj:j < f.prods.length) (hg:X.pv = .slice (some ⟨g,0,none⟩) f.prods.length cap) (n:Int) :
 RdW B T (w.setCell ⟨g,j * 3 + 2,none⟩ (.int .i64 n)) rb X st { f with prods:=modP f.prods j fun p => ⟨p.left,p.right,n⟩ } lv rs mp ∧ Chg T T w (w.setCell ⟨g,j * 3 + 2,none⟩ (.int .i64 n)):=by
 have hl:=h.rslen
 have hz:(f.prods.zip rs).length = f.prods.length:=by rw [List.length_zip,hl,Nat.min_self]
 have hg4:T g = 4:=h.prods.2 g (by rw [hg];rfl)
 have hk:Kept (fun b => T b = 4 ∨ T b = 100 + j) w (w.setCell ⟨g,j * 3 + 2,none⟩ (.int .i64 n)):=(Kept.refl _ w).setCell (fun _ => .inl hg4)
 have hsz:(w.setCell ⟨g,j * 3 + 2,none⟩ (.int .i64 n)).heap.size = w.heap.size:=by simp
 have hone:Kept (oneBlk g) w (w.setCell ⟨g,j * 3 + 2,none⟩ (.int .i64 n)):=(Kept.refl (oneBlk g) w).setCell (a:=⟨g,j * 3 + 2,none⟩) (fun _ => rfl)
 have hm:=modP_at (g:=fun p => ⟨p.left,p.right,n⟩) hj
 refine h.chgP (j0:=j) hk (fun _ _ => rfl) (fun b hn => by rw [hsz];exact h.own b hn) ?_ ?_ ?_ rfl rfl rfl rfl
 · show OwnI _ _ _ _ _ _ X.pv (modP f.prods j _).length (((modP f.prods j _).zip rs).flatMap _)
   rw [hm,List.length_set]
   have e1:rs = rs.set j (rs[j]'(by rw [hl];exact hj)):=by rw [List.set_getElem_self]
   have e2:((f.prods.set j ⟨f.prods[j].left,f.prods[j].right,n⟩).zip rs).flatMap (fun x => prV x.1 x.2) = ((f.prods.zip rs).flatMap (fun x => prV x.1 x.2)).set (j * 3 + 2) (.int .i64 n):=by
    rw [flat_set (fun x:Pd × Value => prV x.1 x.2) (sz:=3) (fun _ => rfl) (f.prods.zip rs) j 2 (⟨f.prods[j].left,f.prods[j].right,n⟩,rs[j]'(by rw [hl];exact hj)) (.int .i64 n) (by rw [hz];exact hj) (by decide) (by rw [List.getElem_zip];rfl),← zip_set]
    rw [← e1]
   rw [e2,hg]
   have:=h.prods
   rw [hg] at this
   exact this.setc _
 · show rs.length = (modP f.prods j _).length
   rw [hm,List.length_set];exact hl
 · intro i a b
   have b':i < f.prods.length:=by rw [← hl];exact a
   have e9:({ f with prods:=modP f.prods j fun p => ⟨p.left,p.right,n⟩ }:FS).prods[i].right = f.prods[i].right:=by
    have e8:(modP f.prods j fun p => ⟨p.left,p.right,n⟩)[i]'b = (f.prods.set j ⟨f.prods[j].left,f.prods[j].right,n⟩)[i]'(by rw [List.length_set];exact b'):=by congr 1
    show ((modP f.prods j fun p => ⟨p.left,p.right,n⟩)[i]'b).right = _
    rw [e8,List.getElem_set]
    split
    · rename_i e7;subst e7;rfl
    · rfl
   rw [e9]
   exact (h.rights i a b').kept hone (fun b0 e0 => by rw [show b0 = g from e0,hg4];omega) (fun _ _ => rfl)
end Go.Proofs.YtbpnioehmohbcaaGreat
