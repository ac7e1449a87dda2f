/- What the five laws of layer 17 share, part 28: no statement of its own. -/
import Derived.Test.YtjgedijclkoemaaGreatDoorJ19
import Derived.Test.YtjgedijclkoemaaGreatDoorJ27
namespace Go.Proofs.YtjgedijclkoemaaGreatDoor
open Go.RowKit Go.Maps Go.Sort
set_option maxRecDepth 20000 in
theorem b0m (rv nv lv pv:Value) (g:Gm) (st:Int) (w:World) (hV:GmV w rv nv lv pv g) (hl:g.rules.length≤1000) :
 Calls Tryz.prog 45 #[gmA rv nv lv pv st] w fun e w'=>e=.returned (.int .i64 (g.terms:Int))∧Below w.heap.size w w':=
 b2c rv nv lv pv st g.rules w (b2B hV.rules) (by omega)
theorem a3A (g:Gm):g.terms≤g.rules.length:=a0d _ _
set_option maxRecDepth 20000 in
set_option maxHeartbeats 8000000 in
theorem c2n (rv nv lv pv:Value) (g:Gm) (st:Int) (w:World) (hV:GmV w rv nv lv pv g) (hl:g.rules.length≤1000) :
 Calls Tryz.prog 180 #[gmA rv nv lv pv st] w fun e w'=>e=.returned (.int .i64 ((g.terms:Int)+1))∧Below w.heap.size w w':=by
 have hB1:=al' w (.cells #[rv,nv,lv,pv,.int .i64 st] 27);obtain ⟨x0,x1,x2,x3,x4⟩:=l_ (b_ w (.cells #[rv,nv,lv,pv,.int .i64 st] 27));obtain ⟨W,hW⟩:∃ x,w.alloc (.cells #[rv,nv,lv,pv,.int .i64 st] 27)=x:=⟨_,rfl⟩;rw [hW] at hB1 x0 x1 x2 x3 x4;have G:=hid (b0m rv nv lv pv g st W (hV.keep hB1) hl);have hB:=hid hB1;have ht:=a3A g;generalize g.terms=tm at *;clear hV hB1;go_enter Tryz.func180,Tryz.ntmps180
 go_wp2_with (go_at_call 45;refine G.out.mono ?_;clear G;rintro e w1 ⟨rfl,hc1⟩;have h1:=hid hc1;clear hc1)
 go_ret;exact ⟨by first | rfl | go_num | simp,a_ hB.out h1.out⟩
def b7K (g:Gm) (n:Int):Bool:=decide (1≤n) && decide (n≤(g.terms:Int))
def b1n (g:Gm) (n:Int):Bool:=decide ((g.terms:Int)<n) && decide (n≤(g.all:Int))
set_option maxRecDepth 20000 in
set_option maxHeartbeats 8000000 in
theorem c3s (rv nv lv pv:Value) (g:Gm) (st n:Int) (w:World) (hV:GmV w rv nv lv pv g) (hl:g.rules.length≤1000) :
 Calls Tryz.prog 181 #[gmA rv nv lv pv st,.int .i64 n] w fun e w'=>e=.returned (.bool (b7K g n))∧Below w.heap.size w w':=by
 have hB1:=al' w (.cells #[rv,nv,lv,pv,.int .i64 st] 27);obtain ⟨x0,x1,x2,x3,x4⟩:=l_ (b_ w (.cells #[rv,nv,lv,pv,.int .i64 st] 27));obtain ⟨W,hW⟩:∃ x,w.alloc (.cells #[rv,nv,lv,pv,.int .i64 st] 27)=x:=⟨_,rfl⟩;rw [hW] at hB1 x0 x1 x2 x3 x4;have G:=hid (b0m rv nv lv pv g st W (hV.keep hB1) hl);have hB:=hid hB1;have ht:=a3A g;unfold b7K;generalize g.terms=tm at *;clear hV hB1;by_cases h1n:(1:Int)≤n
 · go_enter Tryz.func181,Tryz.ntmps181
   go_wp2_with (go_at_call 45;refine G.out.mono ?_;clear G;rintro e w1 ⟨rfl,hc1⟩;have h1:=hid hc1;clear hc1)
   go_ret;exact ⟨by rw [decide_eq_true (show (1:Int)≤n by omega)];simp,a_ hB.out h1.out⟩
 · go_enter Tryz.func181,Tryz.ntmps181
   go_wp2_with fail
   go_ret;exact ⟨by rw [decide_eq_false (show ¬ (1:Int)≤n by omega)];rfl,hB.out⟩
set_option maxRecDepth 20000 in
set_option maxHeartbeats 8000000 in
theorem b7Y (rv nv lv pv:Value) (g:Gm) (st n:Int) (w:World) (hV:GmV w rv nv lv pv g) (hl:g.rules.length≤1000) (hl2:g.nonts.length≤1000) :
 Calls Tryz.prog 144 #[gmA rv nv lv pv st,.int .i64 n] w fun e w'=>e=.returned (.bool (b1n g n))∧Below w.heap.size w w':=by
 obtain ⟨na,nc,rfl⟩:=hV.nonts.shape;have hB1:=al' w (.cells #[rv,.slice na g.nonts.length nc,lv,pv,.int .i64 st] 27);obtain ⟨x0,x1,x2,x3,x4⟩:=l_ (b_ w (.cells #[rv,.slice na g.nonts.length nc,lv,pv,.int .i64 st] 27));obtain ⟨W,hW⟩:∃ x,w.alloc (.cells #[rv,.slice na g.nonts.length nc,lv,pv,.int .i64 st] 27)=x:=⟨_,rfl⟩;rw [hW] at hB1 x0 x1 x2 x3 x4;have cA:Hid (∀ d os,Calls Tryz.prog 180 #[gmA rv (.slice na g.nonts.length nc) lv pv st] (grow (redrawn W d) os) fun e w''=>e=.returned (.int .i64 ((g.terms:Int)+1))∧∃ p:Regrown,w''=grow (redrawn W p.d) p.os):=hid (fun d os=>Calls.regrown_of (c2n rv _ lv pv g st _ (hV.keep (a_ hB1 (below_regrown W d os))) hl));have hB:=hid hB1;have ht:=a3A g;unfold b1n Gm.all;generalize g.terms=tm at *;generalize g.nonts.length=nn at *;have y0:=cell_regrown x0;have y1:=cell_regrown x1;have y2:=cell_regrown x2;have y3:=cell_regrown x3;have y4:=cell_regrown x4;clear hV hB1 x0 x1 x2 x3 x4;by_cases h1n:(tm:Int)+1≤n
 · go_enter Tryz.func144,Tryz.ntmps144
   go_wp2_with fail
   clear hW;refine wp_region_quiet_below (by kernel_rfl) (by kernel_rfl) ?_
   repeat (first | go_big_quiet_step (exact cA.out _ _) | quiet_step (exact cA.out _ _))
   refine wpQuiet_nil ?_;intro _ hw';obtain ⟨⟨dq,osq⟩,hw''⟩:=hw';subst hw'';have hq:=hid (below_regrown W dq osq);generalize grow (redrawn W dq) osq=wz at *;go_wp2;go_ret;refine ⟨?_,a_ hB.out hq.out⟩;rw [decide_eq_true (show (tm:Int)<n by omega)]
   have:(n<(tm:Int)+1+(nn:Int))=(n≤((tm+nn:Nat):Int)):=by apply propext;omega
   simp [this]
 · have hd1:decide ((tm:Int)+1≤n)=false:=decide_eq_false h1n
   go_enter Tryz.func144,Tryz.ntmps144
   go_wp2_with fail
   clear hW;refine wp_region_quiet_below (by kernel_rfl) (by kernel_rfl) ?_
   repeat (first | go_big_quiet_step (exact cA.out _ _) | quiet_step (exact cA.out _ _))
   refine wpQuiet_nil ?_;intro _ hw';obtain ⟨⟨dq,osq⟩,hw''⟩:=hw';subst hw'';have hq:=hid (below_regrown W dq osq);generalize grow (redrawn W dq) osq=wz at *;go_wp2;go_ret;refine ⟨?_,a_ hB.out hq.out⟩;rw [decide_eq_false (show ¬ (tm:Int)<n by omega)];rfl
def a7g (g:Gm):Bool:=decide (g.rules.length≤16) && decide (g.nonts.length≤16) && decide (g.prods.length≤40)
set_option maxRecDepth 20000 in
set_option maxHeartbeats 8000000 in
theorem c3x (rv nv lv pv:Value) (g:Gm) (st:Int) (w:World) (hV:GmV w rv nv lv pv g) :
 Calls Tryz.prog 91 #[gmA rv nv lv pv st] w fun e w'=>e=.returned (.bool (a7g g))∧Below w.heap.size w w':=by
 obtain ⟨ra,rc,rfl⟩:=hV.rules.shape;obtain ⟨na,nc,rfl⟩:=hV.nonts.shape;obtain ⟨pa,pc,rfl⟩:=hV.prods.shape;have hB1:=al' w (.cells #[.slice ra g.rules.length rc,.slice na g.nonts.length nc,lv,.slice pa g.prods.length pc,.int .i64 st] 27);obtain ⟨x0,x1,x2,x3,x4⟩:=l_ (b_ w (.cells #[.slice ra g.rules.length rc,.slice na g.nonts.length nc,lv,.slice pa g.prods.length pc,.int .i64 st] 27));obtain ⟨W,hW⟩:∃ x,w.alloc (.cells #[.slice ra g.rules.length rc,.slice na g.nonts.length nc,lv,.slice pa g.prods.length pc,.int .i64 st] 27)=x:=⟨_,rfl⟩;rw [hW] at hB1 x0 x1 x2 x3 x4;have hB:=hid hB1;unfold a7g;generalize g.rules.length=rn at *;generalize g.nonts.length=nn at *;generalize g.prods.length=pp at *;clear hV hB1;by_cases h1:(rn:Int)≤16
 · by_cases h2:(nn:Int)≤16
   · go_enter Tryz.func91,Tryz.ntmps91
     go_wp2;go_ret;refine ⟨?_,hB.out⟩;rw [decide_eq_true (show rn≤16 by omega),decide_eq_true (show nn≤16 by omega)]
     have:((pp:Int)≤40)=(pp≤40):=by apply propext;omega
     simp [this]
   · go_enter Tryz.func91,Tryz.ntmps91
     go_wp2;go_ret;refine ⟨?_,hB.out⟩;rw [decide_eq_true (show rn≤16 by omega),decide_eq_false (show ¬ nn≤16 by omega)];rfl
 · go_enter Tryz.func91,Tryz.ntmps91
   go_wp2;go_ret;refine ⟨?_,hB.out⟩;rw [decide_eq_false (show ¬ rn≤16 by omega)];rfl
def b1S (l:Int×Int):Bool:=(decide (l.1=0) && decide (l.2=0)) || (decide (0<l.1) && decide (0<l.2) && decide (l.2<4))
set_option maxRecDepth 20000 in
set_option maxHeartbeats 8000000 in
theorem b9K (p s:Int) (w:World):Calls Tryz.prog 143 #[.agg #[.int .i64 p,.int .i64 s]] w fun e w'=>e=.returned (.bool (b1S (p,s)))∧Below w.heap.size w w':=by
 have hB1:=al' w (.cells #[.int .i64 p,.int .i64 s] 143);have k1:=b_ w (.cells #[.int .i64 p,.int .i64 s] 143);obtain ⟨W,hW⟩:∃ x,w.alloc (.cells #[.int .i64 p,.int .i64 s] 143)=x:=⟨_,rfl⟩;rw [hW] at hB1 k1;have x0:W.cell? ⟨w.heap.size,0,none⟩=some (.int .i64 p):=c_ k1 rfl;have x1:W.cell? ⟨w.heap.size,1,none⟩=some (.int .i64 s):=c_ k1 rfl;have hB:=hid hB1;clear hB1 k1;by_cases h0:p=0
 · subst h0
   go_enter Tryz.func143,Tryz.ntmps143
   go_wp2;go_ret;refine ⟨?_,hB.out⟩;unfold b1S;by_cases hs:s=0 <;> simp [hs]
 · have h0z:(p == 0)=false:=by rw [beq_eq_false_iff_ne];exact h0
   by_cases h1:0<p
   · by_cases h2:(1:Int)≤s
     · go_enter Tryz.func143,Tryz.ntmps143
       go_wp2;go_ret;refine ⟨?_,hB.out⟩;unfold b1S;have e1:(0<s)=True:=by apply propext;simp;omega
       have e2:(s≤3)=(s<4):=by apply propext;omega
       simp [h0,h1,e1,e2]
     · go_enter Tryz.func143,Tryz.ntmps143
       go_wp2;go_ret;refine ⟨?_,hB.out⟩;unfold b1S;have e1:¬ 0<s:=by omega
       simp [h0,h1,e1]
   · go_enter Tryz.func143,Tryz.ntmps143
     go_wp2;go_ret;refine ⟨?_,hB.out⟩;unfold b1S;have h1':¬ 0<p:=by omega
     simp only [decide_eq_false h0,decide_eq_false h1',Bool.false_and,Bool.or_false];rfl
def a3Z (g:Gm):Bool:=if g.nonts.length=0 then decide (g.start=0) else b1n g g.start
set_option maxRecDepth 20000 in
set_option maxHeartbeats 8000000 in
theorem b8H (rv nv lv pv:Value) (g:Gm) (w:World) (hV:GmV w rv nv lv pv g) (hl:g.rules.length≤1000) (hl2:g.nonts.length≤1000) :
 Calls Tryz.prog 95 #[gmA rv nv lv pv g.start] w fun e w'=>e=.returned (.bool (a3Z g))∧Below w.heap.size w w':=by
 obtain ⟨na,nc,rfl⟩:=hV.nonts.shape;have hB1:=al' w (.cells #[rv,.slice na g.nonts.length nc,lv,pv,.int .i64 g.start] 27);obtain ⟨x0,x1,x2,x3,x4⟩:=l_ (b_ w (.cells #[rv,.slice na g.nonts.length nc,lv,pv,.int .i64 g.start] 27));obtain ⟨W,hW⟩:∃ x,w.alloc (.cells #[rv,.slice na g.nonts.length nc,lv,pv,.int .i64 g.start] 27)=x:=⟨_,rfl⟩;rw [hW] at hB1 x0 x1 x2 x3 x4;have G:=hid (b7Y rv _ lv pv g g.start g.start W (hV.keep hB1) hl hl2);have hB:=hid hB1;unfold a3Z;generalize b1n g g.start=R at *;generalize g.start=st at *;generalize g.nonts.length=nn at *;clear hV hB1;by_cases h0:nn=0
 · subst h0
   rw [if_pos rfl];go_enter Tryz.func95,Tryz.ntmps95
   go_wp2;go_ret;exact ⟨by first | rfl | (by_cases hs:st=0 <;> simp [hs]),hB.out⟩
 · have h0z:((nn:Int) == 0)=false:=by rw [beq_eq_false_iff_ne];omega
   rw [if_neg h0];go_enter Tryz.func95,Tryz.ntmps95
   go_wp2_with (go_at_call 144;refine G.out.mono ?_;clear G;rintro e w1 ⟨rfl,hc1⟩;have h1:=hid hc1;clear hc1)
   go_ret;exact ⟨by first | rfl | simp,a_ hB.out h1.out⟩
set_option maxRecDepth 20000 in
theorem b6U : (Tryz.prog.fieldsOf 143).toList = [{ name := "Power", type := 3, offset := 0, embedded := false, tag := "", pkgPath := "", byteOffset := 0 }, { name := "Side", type := 3, offset := 1, embedded := false, tag := "", pkgPath := "", byteOffset := 8 }] := by kernel_rfl
set_option maxRecDepth 20000 in
theorem c1J (a b:Int) (w:World):(binOp .neq 143 (.agg #[.int .i64 a,.int .i64 b]) (.agg #[.int .i64 0,.int .i64 0])).run Tryz.prog w=.ok (.bool (!(decide (a=0) && decide (b=0)))) w:=by
 have p0:∀ x0 x1:Int,(part 3 #[.int .i64 x0,.int .i64 x1] 0).run Tryz.prog w=.ok (.int .i64 x0) w:=fun _ _=>by simp [part,isAgg,run_underlying Tryz.underlying3]
 have p1:∀ x0 x1:Int,(part 3 #[.int .i64 x0,.int .i64 x1] 1).run Tryz.prog w=.ok (.int .i64 x1) w:=fun _ _=>by simp [part,isAgg,run_underlying Tryz.underlying3]
 have hi:=fun d x y=>run_equalIn_int (P:=Tryz.prog) w d 3 .i64 .i64 x y Tryz.underlying3
 rw [run_neq_struct,run_equalIn_struct w 9999 _ _ _ (by kernel_rfl) (by kernel_rfl),b6U];by_cases h0:a=0
 · by_cases h1:b=0
   · subst h0 h1;simp [Op.eqFields,p0,p1,hi]
   · subst h0;simp [Op.eqFields,p0,p1,hi,h1]
 · simp [Op.eqFields,p0,hi,h0]
structure LevOK (g:Gm):Prop where
 len:g.levels.length=g.terms+1
 lev:∀ i (h:i<g.levels.length),lvB i g.levels[i]=true
noncomputable def a4L (g:Gm):Bool:=open Classical in decide (LevOK g)
theorem b0c {g:Gm} (h:¬ LevOK g):a4L g=false:=by unfold a4L;exact @decide_eq_false _ (Classical.propDecidable _) h
theorem a7G {g:Gm} (h:LevOK g):a4L g=true:=by unfold a4L;exact @decide_eq_true _ (Classical.propDecidable _) h
theorem b6B (l:Int×Int):lvB 0 l=(decide (l.1=0) && decide (l.2=0)):=by unfold lvB;simp
theorem b3F {i:Nat} (hi:i≠0) (l:Int×Int):lvB i l=b1S l:=by unfold lvB b1S;simp [hi]
set_option maxRecDepth 20000 in
set_option maxHeartbeats 16000000 in
theorem b9J (rv nv lv pv:Value) (g:Gm) (st:Int) (w:World) (hV:GmV w rv nv lv pv g) (hl:g.rules.length≤1000) (hl2:g.levels.length≤1000) :
 Calls Tryz.prog 94 #[gmA rv nv lv pv st] w fun e w'=>e=.returned (.bool (a4L g))∧Below w.heap.size w w':=by
 obtain ⟨la,lc,rfl⟩:=hV.levels.shape;have hB1:=al' w (.cells #[rv,nv,.slice la g.levels.length lc,pv,.int .i64 st] 27);have k1:=b_ w (.cells #[rv,nv,.slice la g.levels.length lc,pv,.int .i64 st] 27);obtain ⟨W,hW⟩:∃ x,w.alloc (.cells #[rv,nv,.slice la g.levels.length lc,pv,.int .i64 st] 27)=x:=⟨_,rfl⟩;rw [hW] at hB1 k1;obtain ⟨x0,x1,x2,x3,x4⟩:=l_ k1;have hk1:Hid (∀ u,Below W.heap.size W u→u.cell? ⟨w.heap.size,2,none⟩=some (.slice la g.levels.length lc)):=hid (fun u hu=>c_ (g_ k1 hu) rfl);have cA:Hid (∀ d os,Calls Tryz.prog 45 #[gmA rv nv (.slice la g.levels.length lc) pv st] (grow (redrawn W d) os) fun e w''=>e=.returned (.int .i64 (g.terms:Int))∧∃ p:Regrown,w''=grow (redrawn W p.d) p.os):=hid (fun d os=>Calls.regrown_of (b0m rv nv _ pv g st _ (hV.keep (a_ hB1 (below_regrown W d os))) hl))
 have hKl:Hid (∀ u,Below W.heap.size W u→∀ k (hk:k<g.levels.length),∃ b o,la=some ⟨b,o,none⟩∧u.cell? ⟨b,o+k * 2,none⟩=some (.int .i64 g.levels[k].1)∧u.cell? ⟨b,o+k * 2+1,none⟩=some (.int .i64 g.levels[k].2)):=hid (fun u hu k hk=>by
  obtain ⟨b,o,e,-,hx⟩:=(hV.keep (a_ hB1 hu)).levels.at hk;exact ⟨b,o,e,hx.1,hx.2⟩)
 have hB:=hid hB1;have ht:=a3A g;have hno:=hid (fun h=>b0c (g:=g) h);have hyes:=hid (fun h=>a7G (g:=g) h);generalize a4L g=R at *;have y0:=cell_regrown x0;have y1:=cell_regrown x1;have y2:=cell_regrown x2;have y3:=cell_regrown x3;have y4:=cell_regrown x4;clear hV hB1 x0 x1 x2 x3 x4 k1;by_cases hlen:g.levels.length=g.terms+1
 · have hp:0<g.levels.length:=by omega
   obtain ⟨b,o,e,z0,z1⟩:=hKl.out W (Below.refl _ _) 0 hp;subst e;rw [Nat.zero_mul,Nat.add_zero] at z0 z1;have u0:=cell_regrown z0;have u1:=cell_regrown z1;have hq0:((g.levels.length:Int) == (g.terms:Int)+1)=true:=by rw [beq_iff_eq];omega
   have hneq:=c1J g.levels[0].1 g.levels[0].2;have hlv0:=b6B g.levels[0];cases hz:(decide (g.levels[0].1=0) && decide (g.levels[0].2=0)) with
   | false =>
    rw [hz] at hneq hlv0;obtain rfl:=hno.out (fun h=>by have:=h.lev 0 hp;rw [hlv0] at this;cases this);clear hz hlv0 hno hyes hKl hk1 z0 z1;generalize g.levels[0].1=l1 at *;generalize g.levels[0].2=l2 at *;generalize g.levels.length=ln at *;generalize g.terms=tm at *;subst hlen;go_enter Tryz.func94,Tryz.ntmps94
    go_wp2_with fail
    clear hW;refine wp_region_quiet_below (by kernel_rfl) (by kernel_rfl) ?_
    repeat (first | go_big_quiet_step (exact cA.out _ _) | quiet_step (exact cA.out _ _))
    refine wpQuiet_nil ?_;intro _ hw';obtain ⟨⟨dq,osq⟩,hw''⟩:=hw';subst hw'';have hq:=hid (below_regrown W dq osq);generalize grow (redrawn W dq) osq=wz at *;go_wp2;go_ret;exact ⟨rfl,a_ hB.out hq.out⟩
   | true =>
    rw [hz] at hneq hlv0
    have hz0:g.levels[0]=(0,0):=by
     rw [Bool.and_eq_true,decide_eq_true_eq,decide_eq_true_eq] at hz;exact Prod.ext hz.1 hz.2
    have hst:Hid (∀ k (hk:k<g.levels.length),b1S g.levels[k]=true→lvB k g.levels[k]=true):=hid (fun k hk h=>by
     rcases Nat.eq_zero_or_pos k with h0 | h0
     · subst h0;exact hlv0
     · rw [b3F (by omega)];exact h)
    have hbd:Hid (∀ k (hk:k<g.levels.length),b1S g.levels[k]=false→R=false):=hid (fun k hk h=>hno.out (fun hO=>by
     have:=hO.lev k hk
     rcases Nat.eq_zero_or_pos k with h0 | h0
     · subst h0;rw [hz0] at h;exact absurd h (by decide)
     · rw [b3F (by omega),h] at this;cases this))
    have hgd:Hid ((∀ k (hk:k<g.levels.length),lvB k g.levels[k]=true)→R=true):=hid (fun h=>hyes.out ⟨hlen,h⟩);have GL:=hid (fun k (hk:k<g.levels.length) u=>b9K g.levels[k].1 g.levels[k].2 u);obtain ⟨ln,hln⟩:∃ n,Hid (g.levels.length=n):=⟨_,hid rfl⟩;clear hz hlv0 hno hyes z0 z1 hz0;generalize g.levels[0].1=l1 at *;generalize g.levels[0].2=l2 at *;generalize g.terms=tm at *;rw [hln.out] at hl2 cA hk1 y2 hlen hp hq0 hW ⊢;subst hlen;go_enter Tryz.func94,Tryz.ntmps94
    go_wp2_with fail
    clear hW;refine wp_region_quiet_below (by kernel_rfl) (by kernel_rfl) ?_
    repeat (first | go_big_quiet_step (exact cA.out _ _) | quiet_step (exact cA.out _ _))
    refine wpQuiet_nil ?_;intro _ hw';obtain ⟨⟨dq,osq⟩,hw''⟩:=hw';subst hw'';have hq:=hid (below_regrown W dq osq);generalize grow (redrawn W dq) osq=wz at *;have q2:=hk1.out wz hq.out;clear y0 y1 y2 y3 y4 u0 u1 cA hq0 hneq hp;go_wp2;obtain ⟨wo,hwo⟩:∃ x,x=wz:=⟨_,rfl⟩;subst hwo;go_loopw [23] (fun i wr=>∃ k:Nat,k≤tm+1∧i=.int .i64 (k:Int)∧Hid (∀ j (hj:j<g.levels.length),j<k→lvB j g.levels[j]=true)∧Hid (Below W.heap.size W wr)) (fun i _=>tm+1 - (intOf i).toNat)
    case atStart=>exact ⟨0,Nat.zero_le _,rfl,hid (fun _ _ h=>absurd h (Nat.not_lt_zero _)),hq⟩
    case round =>
     obtain ⟨k,hk,rfl,hI,hbl⟩:=hrel;by_cases hlt:k<tm+1
     · have hltz:(k:Int)<((tm+1:Nat):Int):=by omega
       have hkl:k<g.levels.length:=by rw [hln.out];exact hlt
       obtain ⟨b',o',e',c0,c1⟩:=hKl.out wr hbl.out k hkl;injection e' with e';injection e' with e1 e2 _;subst e1 e2;have hBa:=hid (a_ hbl.out (al' wr (.cells #[.int .i64 g.levels[k].1,.int .i64 g.levels[k].2] 143)));have G:=hid (fun u=>GL.out k hkl u);have hst9:=hid (hst.out k hkl);have hbd9:=hid (hbd.out k hkl)
       have hmore:Hid (lvB k g.levels[k]=true→∀ j (hj:j<g.levels.length),j<k+1→lvB j g.levels[j]=true):=hid (fun h j hj h9=>by
        rcases Nat.lt_or_ge j k with h8 | h8
        · exact hI.out j hj h8
        · obtain rfl:j=k:=by omega
          exact h)
       clear hI;cases hb:b1S g.levels[k] with
       | true =>
        have hm9:=hid (hmore.out (hst9.out hb));rw [show b1S (g.levels[k].1,g.levels[k].2)=true from hb] at G;clear hst9 hbd9 hmore hb;generalize g.levels[k].1=v1 at *;generalize g.levels[k].2=v2 at *;go_wp2_with (go_at_call 143;refine (G.out _).mono ?_;clear G;rintro e w4 ⟨rfl,hc4⟩;have h4:=hid (a_ hBa.out hc4);clear hc4)
        go_roundw
        case rel=>exact ⟨k+1,by omega,by go_num,hm9,h4⟩
        case measure=>simp [intOf];omega
       | false =>
        obtain rfl:=hbd9.out hb;rw [show b1S (g.levels[k].1,g.levels[k].2)=false from hb] at G;clear hst9 hbd9 hmore hb;generalize g.levels[k].1=v1 at *;generalize g.levels[k].2=v2 at *;go_wp2_with (go_at_call 143;refine (G.out _).mono ?_;clear G;rintro e w4 ⟨rfl,hc4⟩;have h4:=hid (a_ hBa.out hc4);clear hc4)
        go_ret;exact ⟨rfl,a_ hB.out h4.out⟩
     · have hltz:¬ (k:Int)<((tm+1:Nat):Int):=by omega
       obtain rfl:=hgd.out (fun j hj=>hI.out j hj (by rw [hln.out] at hj;omega));go_wp2;go_ret;exact ⟨rfl,a_ hB.out hbl.out⟩
 · obtain rfl:=hno.out (fun h=>hlen h.len)
   have hq0:((g.levels.length:Int) != (g.terms:Int)+1)=true:=by rw [bne_iff_ne];omega
   clear hno hyes hKl hk1;generalize g.levels.length=ln at *;generalize g.terms=tm at *;go_enter Tryz.func94,Tryz.ntmps94
   go_wp2_with fail
   clear hW;refine wp_region_quiet_below (by kernel_rfl) (by kernel_rfl) ?_
   repeat (first | go_big_quiet_step (exact cA.out _ _) | quiet_step (exact cA.out _ _))
   refine wpQuiet_nil ?_;intro _ hw';obtain ⟨⟨dq,osq⟩,hw''⟩:=hw';subst hw'';have hq:=hid (below_regrown W dq osq);generalize grow (redrawn W dq) osq=wz at *;go_wp2;go_ret;exact ⟨rfl,a_ hB.out hq.out⟩
def a9r (g:Gm) (n:Int):Bool:=b7K g n || b1n g n
theorem b8F (g:Gm) (n:Int):a9r g n=(decide (1≤n) && decide (n≤(g.all:Int))):=by
 unfold a9r b7K b1n;have ha:g.terms≤g.all:=by unfold Gm.all;omega
 rw [Bool.eq_iff_iff];simp only [Bool.or_eq_true,Bool.and_eq_true,decide_eq_true_eq];omega
theorem c1C (g:Gm) (p:Pd):pdB g p=(decide (p.right.length≤8) && p.right.all (a9r g) && (b1n g p.left && (decide (p.prec=0) || b7K g p.prec))):=by
 unfold pdB
 have:(p.right.all fun k=>decide (1≤k) && decide (k≤(g.all:Int)))=p.right.all (a9r g):=by
  congr 1
  funext n
  exact (b8F g n).symm
 rw [this];unfold b1n b7K;generalize p.right.all (a9r g)=A;rw [Bool.eq_iff_iff];simp only [Bool.or_eq_true,Bool.and_eq_true,decide_eq_true_eq]
 constructor
 · rintro ⟨⟨⟨⟨⟨h1,h2⟩,h3⟩,h4⟩,h5⟩,h6⟩
   exact ⟨⟨h3,h6⟩,⟨h1,h2⟩,by omega⟩
 · rintro ⟨⟨h3,h6⟩,⟨h1,h2⟩,h4⟩
   exact ⟨⟨⟨⟨⟨h1,h2⟩,h3⟩,by omega⟩,by omega⟩,h6⟩
set_option maxRecDepth 20000 in
set_option maxHeartbeats 16000000 in
theorem c3G (rv nv lv pv:Value) (g:Gm) (st:Int) (p:Pd) (v:Value) (w:World) (hV:GmV w rv nv lv pv g) (hN:Nums w v p.right) (hl:g.rules.length≤1000) (hl2:g.nonts.length≤1000) (hr:p.right.length≤1000) :
 Calls Tryz.prog 145 #[gmA rv nv lv pv st,.agg #[.int .i64 p.left,v,.int .i64 p.prec]] w fun e w'=>e=.returned (.bool (pdB g p))∧Below w.heap.size w w':=by
 obtain ⟨va,vc,rfl,-⟩:=id hN;have hB1:=al' w (.cells #[rv,nv,lv,pv,.int .i64 st] 27);have k1:=b_ w (.cells #[rv,nv,lv,pv,.int .i64 st] 27);obtain ⟨W1,hW1⟩:∃ x,w.alloc (.cells #[rv,nv,lv,pv,.int .i64 st] 27)=x:=⟨_,rfl⟩;rw [hW1] at hB1 k1;have hB2:=al' W1 (.cells #[.int .i64 p.left,.slice va p.right.length vc,.int .i64 p.prec] 64);have k2:=b_ W1 (.cells #[.int .i64 p.left,.slice va p.right.length vc,.int .i64 p.prec] 64);obtain ⟨W,hW⟩:∃ x,W1.alloc (.cells #[.int .i64 p.left,.slice va p.right.length vc,.int .i64 p.prec] 64)=x:=⟨_,rfl⟩;rw [hW] at hB2 k2;have k1:=g_ k1 hB2;have hB:=hid (a_ hB1 hB2);have hk1:=hid (fun u (hu:Below W.heap.size W u)=>l_ (g_ k1 hu));have hk2:=hid (fun u (hu:Below W.heap.size W u)=>a9b (g_ k2 hu));have GT:=hid (fun u (hu:Below W.heap.size W u) n=>c3s rv nv lv pv g st n u (hV.keep (a_ hB.out hu)) hl);have GN:=hid (fun u (hu:Below W.heap.size W u) n=>b7Y rv nv lv pv g st n u (hV.keep (a_ hB.out hu)) hl hl2)
 have hNm:Hid (∀ u,Below W.heap.size W u→∀ k (hk:k<p.right.length),∃ b o,va=some ⟨b,o,none⟩∧u.cell? ⟨b,o+k,none⟩=some (.int .i64 p.right[k])):=hid (fun u hu k hk=>by
  obtain ⟨b,o,cap,e,_,_,hc⟩:=(hN.keep (a_ hB.out hu)).at (by omega);injection e with e1 _ _;exact ⟨b,o,e1,hc k hk⟩)
 rw [c1C];obtain ⟨rn,hrn⟩:∃ n,Hid (p.right.length=n):=⟨_,hid rfl⟩
 have hbad:Hid (∀ k (hk:k<p.right.length),a9r g p.right[k]=false→p.right.all (a9r g)=false):=hid (fun k hk h=>by
  rw [List.all_eq_false];exact ⟨_,List.getElem_mem hk,by rw [h];decide⟩)
 have hgood:Hid ((∀ k (hk:k<p.right.length),a9r g p.right[k]=true)→p.right.all (a9r g)=true):=hid (fun h=>by
  rw [List.all_eq_true];intro x hx;obtain ⟨k,hk,rfl⟩:=List.getElem_of_mem hx;exact h k hk)
 have hsy:=hid (fun n=>show a9r g n=(b7K g n || b1n g n) from rfl);generalize p.right.all (a9r g)=R at *;generalize p.left=pl at *;generalize p.prec=pc at *;rw [hrn.out] at hr hk2 hW ⊢;clear hV hB1 hB2 k1 k2 hN;obtain ⟨x0,x1,x2,x3,x4⟩:=hk1.out W (Below.refl _ _);obtain ⟨y0,y1,y2⟩:=hk2.out W (Below.refl _ _);by_cases h8:(8:Int)<(rn:Int)
 · rw [decide_eq_false (show ¬ rn≤8 by omega)]
   go_enter Tryz.func145,Tryz.ntmps145
   go_wp2;go_ret;exact ⟨rfl,hB.out⟩
 · rw [decide_eq_true (show rn≤8 by omega)]
   go_enter Tryz.func145,Tryz.ntmps145
   go_wp2;clear hW hW1 x0 x1 x2 x3 x4 y0 y1 y2;go_loopw [14] (fun i wr=>∃ k:Nat,k≤rn∧i=.int .i64 (k:Int)∧Hid (∀ j (hj:j<p.right.length),j<k→a9r g p.right[j]=true)∧Hid (Below W.heap.size W wr)) (fun i _=>rn - (intOf i).toNat)
   case atStart=>exact ⟨0,Nat.zero_le _,rfl,hid (fun _ _ h=>absurd h (Nat.not_lt_zero _)),hid (Below.refl _ _)⟩
   case round =>
    obtain ⟨k,hk,rfl,hI,hbl⟩:=hrel;obtain ⟨x0,x1,x2,x3,x4⟩:=hk1.out wr hbl.out;obtain ⟨y0,y1,y2⟩:=hk2.out wr hbl.out;by_cases hlt:k<rn
    · have hltz:(k:Int)<(rn:Int):=by omega
      have hkl:k<p.right.length:=by rw [hrn.out];exact hlt
      obtain ⟨b,o,rfl,c0⟩:=hNm.out wr hbl.out k hkl;have hbd9:=hid (hbad.out k hkl)
      have hmore:Hid (a9r g p.right[k]=true→∀ j (hj:j<p.right.length),j<k+1→a9r g p.right[j]=true):=hid (fun h j hj h9=>by
       rcases Nat.lt_or_ge j k with h8 | h8
       · exact hI.out j hj h8
       · obtain rfl:j=k:=by omega
         exact h)
      clear hI hbad hgood;generalize p.right[k]=n at *;have G1:=hid (GT.out wr hbl.out n);rw [hsy.out] at hbd9 hmore;cases ht:b7K g n with
      | true =>
       have hm9:=hid (hmore.out (by rw [ht];rfl));rw [ht] at G1;clear hbd9 hmore;go_wp2_with (go_at_call 181;refine G1.out.mono ?_;clear G1;rintro e w4 ⟨rfl,hc4⟩;have h4:=hid (a_ hbl.out hc4);clear hc4)
       go_roundw
       case rel=>exact ⟨k+1,by omega,by go_num,hm9,h4⟩
       case measure=>simp [intOf];omega
      | false =>
       rw [ht] at G1 hbd9 hmore;cases hn:b1n g n with
       | true =>
        have hm9:=hid (hmore.out (by rw [hn];rfl));clear hbd9 hmore
        go_wp2_with (first
         | (go_at_call 181;refine G1.out.mono ?_;clear G1;rintro e w4 ⟨rfl,hc4⟩;have h4:=hid (a_ hbl.out hc4);have G2:=hid (GN.out w4 h4.out n);rw [hn] at G2;obtain ⟨z0,z1,z2,z3,z4⟩:=hk1.out w4 h4.out;clear hc4)
         | (go_at_call 144;refine G2.out.mono ?_;clear G2;rintro e w5 ⟨rfl,hc5⟩;have h5:=hid (a_ h4.out hc5);clear hc5))
        go_roundw
        case rel=>exact ⟨k+1,by omega,by go_num,hm9,h5⟩
        case measure=>simp [intOf];omega
       | false =>
        obtain rfl:=hbd9.out (by rw [hn];rfl);clear hbd9 hmore
        go_wp2_with (first
         | (go_at_call 181;refine G1.out.mono ?_;clear G1;rintro e w4 ⟨rfl,hc4⟩;have h4:=hid (a_ hbl.out hc4);have G2:=hid (GN.out w4 h4.out n);rw [hn] at G2;obtain ⟨z0,z1,z2,z3,z4⟩:=hk1.out w4 h4.out;clear hc4)
         | (go_at_call 144;refine G2.out.mono ?_;clear G2;rintro e w5 ⟨rfl,hc5⟩;have h5:=hid (a_ h4.out hc5);clear hc5))
        go_ret;exact ⟨rfl,a_ hB.out h5.out⟩
    · have hltz:¬ (k:Int)<(rn:Int):=by omega
      obtain rfl:=hgood.out (fun j hj=>hI.out j hj (by rw [hrn.out] at hj;omega));clear hI hbad hgood hNm;have G1:=hid (GN.out wr hbl.out pl);cases hn:b1n g pl with
      | false =>
       rw [hn] at G1;go_wp2_with (go_at_call 144;refine G1.out.mono ?_;clear G1;rintro e w4 ⟨rfl,hc4⟩;have h4:=hid (a_ hbl.out hc4);clear hc4)
       go_ret;exact ⟨by rw [hn];rfl,a_ hB.out h4.out⟩
      | true =>
       rw [hn] at G1;by_cases hp0:pc=0
       · subst hp0
         go_wp2_with (go_at_call 144;refine G1.out.mono ?_;clear G1;rintro e w4 ⟨rfl,hc4⟩;have h4:=hid (a_ hbl.out hc4);obtain ⟨z0,z1,z2⟩:=hk2.out w4 h4.out;clear hc4)
         go_ret;exact ⟨rfl,a_ hB.out h4.out⟩
       · have hp0z:(pc == 0)=false:=by rw [beq_eq_false_iff_ne];exact hp0
         go_wp2_with (first
          | (go_at_call 144;refine G1.out.mono ?_;clear G1;rintro e w4 ⟨rfl,hc4⟩;have h4:=hid (a_ hbl.out hc4);obtain ⟨z0,z1,z2⟩:=hk2.out w4 h4.out;obtain ⟨u0,u1,u2,u3,u4⟩:=hk1.out w4 h4.out;have G2:=hid (GT.out w4 h4.out pc);clear hc4)
          | (go_at_call 181;refine G2.out.mono ?_;clear G2;rintro e w5 ⟨rfl,hc5⟩;have h5:=hid (a_ h4.out hc5);clear hc5))
         go_ret;exact ⟨by rw [hn,decide_eq_false hp0];simp,a_ hB.out h5.out⟩
set_option maxRecDepth 20000 in
set_option maxHeartbeats 16000000 in
theorem c1z (rv nv lv pv:Value) (g:Gm) (st:Int) (w:World) (hV:GmV w rv nv lv pv g) (hb:BndG g) (hl:g.rules.length≤1000) (hl2:g.nonts.length≤1000) (hl3:g.prods.length≤1000) :
 Calls Tryz.prog 96 #[gmA rv nv lv pv st] w fun e w'=>e=.returned (.bool (g.prods.all (pdB g)))∧Below w.heap.size w w':=by
 obtain ⟨pa,pc,rfl⟩:=hV.prods.shape;have hB1:=al' w (.cells #[rv,nv,lv,.slice pa g.prods.length pc,.int .i64 st] 27);have k1:=b_ w (.cells #[rv,nv,lv,.slice pa g.prods.length pc,.int .i64 st] 27);obtain ⟨W,hW⟩:∃ x,w.alloc (.cells #[rv,nv,lv,.slice pa g.prods.length pc,.int .i64 st] 27)=x:=⟨_,rfl⟩;rw [hW] at hB1 k1;have hB:=hid hB1;have hk1:=hid (fun u (hu:Below W.heap.size W u)=>l_ (g_ k1 hu))
 have hKp:Hid (∀ u,Below W.heap.size W u→∀ k (hk:k<g.prods.length),∃ b o q1 q3,pa=some ⟨b,o,none⟩∧u.cell? ⟨b,o+k * 3,none⟩=some (.int .i64 g.prods[k].left)∧u.cell? ⟨b,o+k * 3+1,none⟩=some (.slice q1 g.prods[k].right.length q3)∧u.cell? ⟨b,o+k * 3+2,none⟩=some (.int .i64 g.prods[k].prec)∧∀ u',Below u.heap.size u u'→Calls Tryz.prog 145 #[gmA rv nv lv (.slice pa g.prods.length pc) st,.agg #[.int .i64 g.prods[k].left,.slice q1 g.prods[k].right.length q3,.int .i64 g.prods[k].prec]] u' fun e w'=>e=.returned (.bool (pdB g g.prods[k]))∧Below u'.heap.size u' w'):=hid (fun u hu k hk=>by
  obtain ⟨b,o,e,-,v,h0,h1,h2,hN⟩:=(hV.keep (a_ hB1 hu)).prods.at hk;obtain ⟨q1,q3,rfl,-⟩:=id hN;exact ⟨b,o,q1,q3,e,h0,h1,h2,fun u' hu'=>c3G rv nv lv _ g st g.prods[k] _ u' (hV.keep (a_ hB1 (a_ hu hu'))) (hN.keep hu') hl hl2 (by have:=hb.right _ (List.getElem_mem hk);omega)⟩)
 have hbad:Hid (∀ k (hk:k<g.prods.length),pdB g g.prods[k]=false→g.prods.all (pdB g)=false):=hid (fun k hk h=>by
  rw [List.all_eq_false];exact ⟨_,List.getElem_mem hk,by rw [h];decide⟩)
 have hgood:Hid ((∀ k (hk:k<g.prods.length),pdB g g.prods[k]=true)→g.prods.all (pdB g)=true):=hid (fun h=>by
  rw [List.all_eq_true];intro x hx;obtain ⟨k,hk,rfl⟩:=List.getElem_of_mem hx;exact h k hk)
 generalize g.prods.all (pdB g)=R at *;obtain ⟨pn,hpn⟩:∃ n,Hid (g.prods.length=n):=⟨_,hid rfl⟩;obtain ⟨x0,x1,x2,x3,x4⟩:=hk1.out W (Below.refl _ _)
 have hKp':Hid (∀ u,Below W.heap.size W u→∀ k (hk:k<g.prods.length),∃ b o q1 q3,pa=some ⟨b,o,none⟩∧u.cell? ⟨b,o+k * 3,none⟩=some (.int .i64 g.prods[k].left)∧u.cell? ⟨b,o+k * 3+1,none⟩=some (.slice q1 g.prods[k].right.length q3)∧u.cell? ⟨b,o+k * 3+2,none⟩=some (.int .i64 g.prods[k].prec)∧∀ u',Below u.heap.size u u'→Calls Tryz.prog 145 #[gmA rv nv lv (.slice pa pn pc) st,.agg #[.int .i64 g.prods[k].left,.slice q1 g.prods[k].right.length q3,.int .i64 g.prods[k].prec]] u' fun e w'=>e=.returned (.bool (pdB g g.prods[k]))∧Below u'.heap.size u' w'):=hid (fun u hu k hk=>by
  have:=hKp.out u hu k hk
  rw [hpn.out] at this;exact this)
 rw [hpn.out] at hl3 hk1 hW x3 ⊢;clear hV hB1 k1 hKp hb;go_enter Tryz.func96,Tryz.ntmps96
 go_wp2;clear hW x0 x1 x2 x3 x4;go_loopw [8] (fun i wr=>∃ k:Nat,k≤pn∧i=.int .i64 (k:Int)∧Hid (∀ j (hj:j<g.prods.length),j<k→pdB g g.prods[j]=true)∧Hid (Below W.heap.size W wr)) (fun i _=>pn - (intOf i).toNat)
 case atStart=>exact ⟨0,Nat.zero_le _,rfl,hid (fun _ _ h=>absurd h (Nat.not_lt_zero _)),hid (Below.refl _ _)⟩
 case round =>
  obtain ⟨k,hk,rfl,hI,hbl⟩:=hrel;by_cases hlt:k<pn
  · have hltz:(k:Int)<(pn:Int):=by omega
    have hkl:k<g.prods.length:=by rw [hpn.out];exact hlt
    obtain ⟨b,o,q1,q3,rfl,c0,c1,c2,G⟩:=hKp'.out wr hbl.out k hkl;have hal:=al' wr (.cells #[.int .i64 g.prods[k].left,.slice q1 g.prods[k].right.length q3,.int .i64 g.prods[k].prec] 64);have hBa:=hid (a_ hbl.out hal);obtain ⟨x0,x1,x2,x3,x4⟩:=hk1.out _ hBa.out;have G:=hid (G _ hal);have hbd9:=hid (hbad.out k hkl)
    have hmore:Hid (pdB g g.prods[k]=true→∀ j (hj:j<g.prods.length),j<k+1→pdB g g.prods[j]=true):=hid (fun h j hj h9=>by
     rcases Nat.lt_or_ge j k with h8 | h8
     · exact hI.out j hj h8
     · obtain rfl:j=k:=by omega
       exact h)
    clear hI hbad hgood hal hKp';cases hb:pdB g g.prods[k] with
    | true =>
     have hm9:=hid (hmore.out hb);rw [hb] at G;clear hbd9 hmore hb;generalize g.prods[k].left=v1 at *;generalize g.prods[k].right.length=v2 at *;generalize g.prods[k].prec=v3 at *;go_wp2_with (go_at_call 145;refine G.out.mono ?_;clear G;rintro e w4 ⟨rfl,hc4⟩;have h4:=hid (a_ hBa.out hc4);clear hc4)
     go_roundw
     case rel=>exact ⟨k+1,by omega,by go_num,hm9,h4⟩
     case measure=>simp [intOf];omega
    | false =>
     obtain rfl:=hbd9.out hb;rw [hb] at G;clear hbd9 hmore hb;generalize g.prods[k].left=v1 at *;generalize g.prods[k].right.length=v2 at *;generalize g.prods[k].prec=v3 at *;go_wp2_with (go_at_call 145;refine G.out.mono ?_;clear G;rintro e w4 ⟨rfl,hc4⟩;have h4:=hid (a_ hBa.out hc4);clear hc4)
     go_ret;exact ⟨rfl,a_ hB.out h4.out⟩
  · have hltz:¬ (k:Int)<(pn:Int):=by omega
    obtain rfl:=hgood.out (fun j hj=>hI.out j hj (by rw [hpn.out] at hj;omega));go_wp2;go_ret;exact ⟨rfl,a_ hB.out hbl.out⟩
set_option maxRecDepth 20000 in
set_option maxHeartbeats 16000000 in
theorem c1p (rv nv lv pv:Value) (g:Gm) (st:Int) (w:World) (hV:GmV w rv nv lv pv g) (hl:g.rules.length≤1000) :
 Calls Tryz.prog 92 #[gmA rv nv lv pv st] w fun e w'=>e=.returned (.bool (g.rules.all fun r=>v_ r.re))∧Below w.heap.size w w':=by
 obtain ⟨ra,rc,rfl⟩:=hV.rules.shape;have hB1:=al' w (.cells #[.slice ra g.rules.length rc,nv,lv,pv,.int .i64 st] 27);have k1:=b_ w (.cells #[.slice ra g.rules.length rc,nv,lv,pv,.int .i64 st] 27);obtain ⟨W,hW⟩:∃ x,w.alloc (.cells #[.slice ra g.rules.length rc,nv,lv,pv,.int .i64 st] 27)=x:=⟨_,rfl⟩;rw [hW] at hB1 k1;have hB:=hid hB1
 have hKp:Hid (∀ u,Below W.heap.size W u→∀ k (hk:k<g.rules.length),∃ b o q1 q3,ra=some ⟨b,o,none⟩∧u.cell? ⟨b,o+k * 3,none⟩=some (.string (e_ g.rules[k].name))∧u.cell? ⟨b,o+k * 3+1,none⟩=some (.slice q1 g.rules[k].re.length q3)∧u.cell? ⟨b,o+k * 3+2,none⟩=some (.bool g.rules[k].skip)∧∀ u',Below u.heap.size u u'→Calls Tryz.prog 140 #[.slice q1 g.rules[k].re.length q3] u' fun e w'=>e=.returned (.bool (v_ g.rules[k].re))∧Below u'.heap.size u' w'):=hid (fun u hu k hk=>by
  obtain ⟨b,o,e,-,v,h0,h1,h2,hN⟩:=(hV.keep (a_ hB1 hu)).rules.at hk;obtain ⟨q1,q3,rfl,-⟩:=id hN;exact ⟨b,o,q1,q3,e,h0,h1,h2,fun u' hu'=>c1s _ _ u' (hN.keep hu')⟩)
 have hbad:Hid (∀ k (hk:k<g.rules.length),v_ g.rules[k].re=false→(g.rules.all fun r=>v_ r.re)=false):=hid (fun k hk h=>by
  rw [List.all_eq_false];exact ⟨_,List.getElem_mem hk,by rw [h];decide⟩)
 have hgood:Hid ((∀ k (hk:k<g.rules.length),v_ g.rules[k].re=true)→(g.rules.all fun r=>v_ r.re)=true):=hid (fun h=>by
  rw [List.all_eq_true];intro x hx;obtain ⟨k,hk,rfl⟩:=List.getElem_of_mem hx;exact h k hk)
 generalize (g.rules.all fun r=>v_ r.re)=R at *;obtain ⟨pn,hpn⟩:∃ n,Hid (g.rules.length=n):=⟨_,hid rfl⟩;have x0:W.cell? ⟨w.heap.size,0,none⟩=some (.slice ra g.rules.length rc):=c_ k1 rfl;rw [hpn.out] at hl hW x0 ⊢;clear hV hB1 k1;go_enter Tryz.func92,Tryz.ntmps92
 go_wp2;clear hW x0;go_loopw [8] (fun i wr=>∃ k:Nat,k≤pn∧i=.int .i64 (k:Int)∧Hid (∀ j (hj:j<g.rules.length),j<k→v_ g.rules[j].re=true)∧Hid (Below W.heap.size W wr)) (fun i _=>pn - (intOf i).toNat)
 case atStart=>exact ⟨0,Nat.zero_le _,rfl,hid (fun _ _ h=>absurd h (Nat.not_lt_zero _)),hid (Below.refl _ _)⟩
 case round =>
  obtain ⟨k,hk,rfl,hI,hbl⟩:=hrel;by_cases hlt:k<pn
  · have hltz:(k:Int)<(pn:Int):=by omega
    have hkl:k<g.rules.length:=by rw [hpn.out];exact hlt
    obtain ⟨b,o,q1,q3,rfl,c0,c1,c2,G⟩:=hKp.out wr hbl.out k hkl;have hal:=al' wr (.cells #[.string (e_ g.rules[k].name),.slice q1 g.rules[k].re.length q3,.bool g.rules[k].skip] 62);have hBa:=hid (a_ hbl.out hal);have G:=hid (G _ hal);have hbd9:=hid (hbad.out k hkl)
    have hmore:Hid (v_ g.rules[k].re=true→∀ j (hj:j<g.rules.length),j<k+1→v_ g.rules[j].re=true):=hid (fun h j hj h9=>by
     rcases Nat.lt_or_ge j k with h8 | h8
     · exact hI.out j hj h8
     · obtain rfl:j=k:=by omega
       exact h)
    clear hI hbad hgood hal hKp;cases hb:v_ g.rules[k].re with
    | true =>
     have hm9:=hid (hmore.out hb);rw [hb] at G;clear hbd9 hmore hb;generalize e_ g.rules[k].name=v1 at *;generalize g.rules[k].re.length=v2 at *;generalize g.rules[k].skip=v3 at *;go_wp2_with (go_at_call 140;refine G.out.mono ?_;clear G;rintro e w4 ⟨rfl,hc4⟩;have h4:=hid (a_ hBa.out hc4);clear hc4)
     go_roundw
     case rel=>exact ⟨k+1,by omega,by go_num,hm9,h4⟩
     case measure=>simp [intOf];omega
    | false =>
     obtain rfl:=hbd9.out hb;rw [hb] at G;clear hbd9 hmore hb;generalize e_ g.rules[k].name=v1 at *;generalize g.rules[k].re.length=v2 at *;generalize g.rules[k].skip=v3 at *;go_wp2_with (go_at_call 140;refine G.out.mono ?_;clear G;rintro e w4 ⟨rfl,hc4⟩;have h4:=hid (a_ hBa.out hc4);clear hc4)
     go_ret;exact ⟨rfl,a_ hB.out h4.out⟩
  · have hltz:¬ (k:Int)<(pn:Int):=by omega
    obtain rfl:=hgood.out (fun j hj=>hI.out j hj (by rw [hpn.out] at hj;omega));go_wp2;go_ret;exact ⟨rfl,a_ hB.out hbl.out⟩
theorem c2Q {t:Txt} (h0:¬ t=[116,111,107,101,110]) (h1:¬ t=[115,107,105,112]) (h2:¬ t=[108,101,102,116]) (h3:¬ t=[114,105,103,104,116]) (h4:¬ t=[110,111,110,101]) (h5:¬ t=[115,116,97,114,116]):kwB t=false:=by
 have e:sdN t=0:=by
  unfold sdN;rw [if_neg (show ¬ t=a6s from h2),if_neg (show ¬ t=a2s from h3),if_neg (show ¬ t=a6r from h4)]
 unfold kwB;rw [e,decide_eq_false (show ¬ t=a8R from h0),decide_eq_false (show ¬ t=L_ from h1),decide_eq_false (show ¬ t=a1w from h5)];rfl
set_option maxRecDepth 20000 in
set_option maxHeartbeats 4000000 in
theorem c4W (t:Txt) (w:World):Calls Tryz.prog 179 #[.string (e_ t)] w fun e w'=>e=.returned (.bool (kwB t))∧w'=w:=by
 by_cases h0:t=[116,111,107,101,110]
 · have hb0:((e_ t).toList == ([116,111,107,101,110]:Txt))=true:=a0a h0
   have hR:kwB t=true:=by rw [h0];decide
   rw [hR];generalize e_ t=S at *;clear h0 hR;go_enter Tryz.func179,Tryz.ntmps179
   go_wp2_with fail
   go_ret;exact ⟨rfl,rfl⟩
 have hb0:((e_ t).toList == ([116,111,107,101,110]:Txt))=false:=D_ h0;by_cases h1:t=[115,107,105,112]
 · have hb1:((e_ t).toList == ([115,107,105,112]:Txt))=true:=a0a h1
   have hR:kwB t=true:=by rw [h1];decide
   rw [hR];generalize e_ t=S at *;clear h0 h1 hR;go_enter Tryz.func179,Tryz.ntmps179
   go_wp2_with fail
   go_ret;exact ⟨rfl,rfl⟩
 have hb1:((e_ t).toList == ([115,107,105,112]:Txt))=false:=D_ h1;by_cases h2:t=[108,101,102,116]
 · have hb2:((e_ t).toList == ([108,101,102,116]:Txt))=true:=a0a h2
   have hR:kwB t=true:=by rw [h2];decide
   rw [hR];generalize e_ t=S at *;clear h0 h1 h2 hR;go_enter Tryz.func179,Tryz.ntmps179
   go_wp2_with fail
   go_ret;exact ⟨rfl,rfl⟩
 have hb2:((e_ t).toList == ([108,101,102,116]:Txt))=false:=D_ h2;by_cases h3:t=[114,105,103,104,116]
 · have hb3:((e_ t).toList == ([114,105,103,104,116]:Txt))=true:=a0a h3
   have hR:kwB t=true:=by rw [h3];decide
   rw [hR];generalize e_ t=S at *;clear h0 h1 h2 h3 hR;go_enter Tryz.func179,Tryz.ntmps179
   go_wp2_with fail
   go_ret;exact ⟨rfl,rfl⟩
 have hb3:((e_ t).toList == ([114,105,103,104,116]:Txt))=false:=D_ h3;by_cases h4:t=[110,111,110,101]
 · have hb4:((e_ t).toList == ([110,111,110,101]:Txt))=true:=a0a h4
   have hR:kwB t=true:=by rw [h4];decide
   rw [hR];generalize e_ t=S at *;clear h0 h1 h2 h3 h4 hR;go_enter Tryz.func179,Tryz.ntmps179
   go_wp2_with fail
   go_ret;exact ⟨rfl,rfl⟩
 have hb4:((e_ t).toList == ([110,111,110,101]:Txt))=false:=D_ h4;by_cases h5:t=[115,116,97,114,116]
 · have hb5:((e_ t).toList == ([115,116,97,114,116]:Txt))=true:=a0a h5
   have hR:kwB t=true:=by rw [h5];decide
   rw [hR];generalize e_ t=S at *;clear h0 h1 h2 h3 h4 h5 hR;go_enter Tryz.func179,Tryz.ntmps179
   go_wp2_with fail
   go_ret;exact ⟨rfl,rfl⟩
 have hb5:((e_ t).toList == ([115,116,97,114,116]:Txt))=false:=D_ h5;rw [c2Q h0 h1 h2 h3 h4 h5];clear h0 h1 h2 h3 h4 h5;generalize e_ t=S at *;go_enter Tryz.func179,Tryz.ntmps179
 go_wp2_with fail
 go_ret;exact ⟨rfl,rfl⟩
theorem b3I (n:Nat) (h:a1d n=true):¬ n=35∧b1K n=false∧b1O n=false:=by
 unfold a1d at h;simp only [Bool.or_eq_true,Bool.and_eq_true,decide_eq_true_eq,beq_iff_eq] at h;refine ⟨by omega,Bool.eq_false_iff.2 fun h2=>?_,Bool.eq_false_iff.2 fun h2=>?_⟩
 · unfold b1K at h2
   simp only [Bool.or_eq_true,beq_iff_eq] at h2;omega
 · unfold b1O at h2
   simp only [Bool.or_eq_true,beq_iff_eq] at h2;omega
theorem b0d {c:UInt8} (h:a1d c.toNat=true):¬ c.toNat=35∧b1K c.toNat=false∧b1O c.toNat=false:=b3I c.toNat h
def nmB (s:Txt):Bool:=(match s with | []=>false | c :: _=>a1d c.toNat) && s.all (fun c=>a1d c.toNat || a4s c.toNat)
theorem a9j (T:Txt):∀ (f a:Nat) (l:List Wd),(a4G T f a l).2.2=0→∃ r,(a4G T f a l).1=l++r
 | 0,_,l,_=>⟨[],by rw [List.append_nil];rfl⟩
 | f+1,a,l,h=>by
  rw [a4G] at h ⊢;split at h
  · rename_i hc
    rw [if_pos hc];exact ⟨[],by rw [List.append_nil]⟩
  · rename_i hc
    rw [if_neg hc];cases he:a8o (T.drop a) with
    | none=>rw [he] at h;exact absurd h (show ¬ (1:Int)=0 by decide)
    | some n =>
     rw [he] at h;obtain ⟨r,hr⟩:=a9j T f _ _ h;exact ⟨_,by rw [hr,List.append_assoc]⟩
theorem a4n:∀ u:Txt,(u.all fun c=>a1d c.toNat || a4s c.toNat)=true↔a2g u=u.length
 | []=>by simp [a2g]
 | c :: r=>by
  have ih:=a4n r;have hle:=a6i r;rw [List.all_cons,a2g,List.length_cons];cases hc:(a1d c.toNat || a4s c.toNat)
  · simp
  · rw [if_pos rfl,Bool.true_and,ih]
    omega
def b9q (s:Txt):Bool:=decide ((a0w s).2.2=0) && (match (a0w s).1 with | [x]=>decide (x.1=1) && decide (x.2.2=s) | _=>false)
theorem b6i {s:Txt} (hl:s.length≤16) (h:nmB s=true):b9q s=true:=by
 obtain ⟨c,r,rfl⟩:∃ c r,s=c :: r:=by cases s with | nil=>exact absurd h (by decide) | cons c r=>exact ⟨c,r,rfl⟩
 unfold nmB at h;rw [Bool.and_eq_true] at h;obtain ⟨h1,h2⟩:=h;have h1:a1d c.toNat=true:=h1;have hn:=(a4n _).1 h2;have hb:=b0d h1;have hs0:skL false (c :: r)=0:=by rw [skL,if_neg hb.1,if_neg (by rw [hb.2.1];decide)]
 have he:a8o (c :: r)=some (c :: r).length:=by
  rw [a8o,if_neg (by rw [hb.2.2];decide),if_pos h1,if_neg (by rw [hn];omega),hn]
 have hw:a0w (c :: r)=([(1,0,c :: r)],0,0):=by
  unfold a0w;rw [if_neg (by omega),hs0,List.length_cons,a4G,if_neg (by rw [List.length_cons];omega),List.drop_zero,he]
  show a4G (c :: r) r.length (0+(c :: r).length+skL false ((c :: r).drop (0+(c :: r).length))) ([]++[b5j (c :: r) 0 (c :: r).length])=_
  rw [a7b (c:=c.toNat) rfl h1,List.drop_zero,List.take_length,Nat.zero_add,List.drop_length,skL];cases r with
  | nil=>rfl
  | cons d r=>rw [List.length_cons,a4G,if_pos (by simp)];rfl
 unfold b9q;rw [hw];simp
theorem b9p {s:Txt} (hl:s.length≤16) (h:b9q s=true):nmB s=true:=by
 unfold b9q at h;rw [Bool.and_eq_true,decide_eq_true_eq] at h;obtain ⟨h1,h2⟩:=h;unfold a0w at h1 h2;rw [if_neg (by omega)] at h1 h2;cases hsl:s.length with
 | zero =>
  rw [hsl] at h2;cases h2
 | succ f =>
  rw [hsl,a4G] at h1 h2;by_cases hc:s.length≤skL false s
  · rw [if_pos hc] at h2
    cases h2
  · rw [if_neg hc] at h1 h2
    cases he:a8o (s.drop (skL false s)) with
    | none=>rw [he] at h1;exact absurd h1 (show ¬ (1:Int)=0 by decide)
    | some n =>
     rw [he] at h1 h2;obtain ⟨t,ht⟩:=a9j s f _ _ h1;simp only [] at h2;rw [ht] at h2;cases t with
     | cons x t=>simp at h2
     | nil =>
      generalize skL false s=a at *;have h3:(b5j s a n).1=1∧(b5j s a n).2.2=s:=by simpa using h2
      have hd:s.drop a≠[]:=fun e=>by have:=congrArg List.length e;rw [List.length_drop,List.length_nil] at this;omega
      obtain ⟨c,r,hcr⟩:∃ c r,s.drop a=c :: r:=by cases hq:s.drop a with | nil=>exact absurd hq hd | cons c r=>exact ⟨c,r,rfl⟩
      have hlc:a1d c.toNat=true:=by
       have:=h3.1
       unfold b5j a5m at this;rw [hcr] at this;cases hq:a1d c.toNat with
       | true=>rfl
       | false =>
        exfalso
        simp only [List.headD_cons,hq] at this;by_cases h47:c.toNat=47
        · simp [h47] at this
        · simp [h47] at this
      have h4:=h3.2;rw [a7b (c:=c.toNat) (by rw [hcr];rfl) hlc] at h4
      have h5:a=0:=by
       have:=congrArg List.length h4
       simp only [List.length_take,List.length_drop] at this;omega
      subst h5;rw [List.drop_zero] at hcr h4 he;have hb:=b0d hlc;rw [hcr,a8o,if_neg (by rw [hb.2.2];decide),if_pos hlc,← hcr] at he;split at he
      · cases he
      · injection he with he
        have h6:=congrArg List.length h4;rw [List.length_take] at h6;have h7:=a6i s;unfold nmB;rw [Bool.and_eq_true];refine ⟨?_,(a4n s).2 (by omega)⟩;rw [hcr];exact hlc
theorem b6s (s:Txt):a0V s=(decide (s.length≤16) && !kwB s && b9q s):=by
 by_cases hl:s.length≤16
 · have:b9q s=nmB s:=by
    cases h:nmB s with
    | true=>exact b6i hl h
    | false=>exact Bool.eq_false_iff.2 fun h'=>by rw [b9p hl h'] at h;cases h
   rw [this];unfold a0V nmB;cases s with
   | nil=>simp
   | cons c r =>
    cases kwB (c :: r)
    · simp [Bool.and_assoc]
    · simp
 · unfold a0V
   rw [decide_eq_false hl];simp
end Go.Proofs.YtjgedijclkoemaaGreatDoor
