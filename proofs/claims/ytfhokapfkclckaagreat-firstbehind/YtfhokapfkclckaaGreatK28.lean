/- Package check: firstNont, term, nont, soundSize, soundStart, soundLevel. Package first: markVanish. Package check: soundSize, soundLevel. Package check: soundStart, soundLevels. -/
import Derived.Test.YtfhokapfkclckaaGreatK25
import Derived.Test.YtfhokapfkclckaaGreatK27
import Derived.Test.YtfhokapfkclckaaGreatK24
import Derived.Lib.QuietBelow
import Derived.Deep.RegionLaw
import Derived.Deep.LoopGhost
namespace Go.Proofs.YtfhokapfkclckaaGreat
open Go.RowKit Go.Maps Go.Sort
set_option maxRecDepth 20000 in
theorem gtermC (rv nv lv pv:Value) (g:Gm) (st:Int) (w:World) (hV:GmV w rv nv lv pv g) (hl:g.rules.length ≤ 1000) :
 Calls Tryz.prog 30 #[gmA rv nv lv pv st] w fun e w' => e = .returned (.int .i64 (g.terms:Int)) ∧ Below w.heap.size w w':=
 termsL rv nv lv pv st g.rules w (rulL_of hV.rules) (by omega)
theorem terms_le (g:Gm):g.terms ≤ g.rules.length:=trmK_le _ _
set_option maxRecDepth 20000 in
set_option maxHeartbeats 8000000 in
theorem firstC (rv nv lv pv:Value) (g:Gm) (st:Int) (w:World) (hV:GmV w rv nv lv pv g) (hl:g.rules.length ≤ 1000) :
 Calls Tryz.prog 90 #[gmA rv nv lv pv st] w fun e w' => e = .returned (.int .i64 ((g.terms:Int) + 1)) ∧ Below w.heap.size w w':=by
 have hB1:=al' w (.cells #[rv,nv,lv,pv,.int .i64 st] 27)
 obtain ⟨x0,x1,x2,x3,x4⟩:=cells5m (heap_new w (.cells #[rv,nv,lv,pv,.int .i64 st] 27))
 obtain ⟨W,hW⟩:∃ x,w.alloc (.cells #[rv,nv,lv,pv,.int .i64 st] 27) = x:=⟨_,rfl⟩
 rw [hW] at hB1 x0 x1 x2 x3 x4
 have G:=hid (gtermC rv nv lv pv g st W (hV.keep hB1) hl)
 have hB:=hid hB1
 have ht:=terms_le g
 generalize g.terms = tm at *
 clear hV hB1
 go_enter Tryz.func90,Tryz.ntmps90
 go_wp2_with (go_at_call 30;refine G.out.mono ?_;clear G;rintro e w1 ⟨rfl,hc1⟩;have h1:=hid hc1;clear hc1)
 go_ret
 exact ⟨by first | rfl | go_num | simp,bl_step hB.out h1.out⟩
def trmB (g:Gm) (n:Int):Bool:=decide (1 ≤ n) && decide (n ≤ (g.terms:Int))
def ntmB (g:Gm) (n:Int):Bool:=decide ((g.terms:Int) < n) && decide (n ≤ (g.all:Int))
set_option maxRecDepth 20000 in
set_option maxHeartbeats 8000000 in
theorem termC (rv nv lv pv:Value) (g:Gm) (st n:Int) (w:World) (hV:GmV w rv nv lv pv g) (hl:g.rules.length ≤ 1000) :
 Calls Tryz.prog 91 #[gmA rv nv lv pv st,.int .i64 n] w fun e w' => e = .returned (.bool (trmB g n)) ∧ Below w.heap.size w w':=by
 have hB1:=al' w (.cells #[rv,nv,lv,pv,.int .i64 st] 27)
 obtain ⟨x0,x1,x2,x3,x4⟩:=cells5m (heap_new w (.cells #[rv,nv,lv,pv,.int .i64 st] 27))
 obtain ⟨W,hW⟩:∃ x,w.alloc (.cells #[rv,nv,lv,pv,.int .i64 st] 27) = x:=⟨_,rfl⟩
 rw [hW] at hB1 x0 x1 x2 x3 x4
 have G:=hid (gtermC rv nv lv pv g st W (hV.keep hB1) hl)
 have hB:=hid hB1
 have ht:=terms_le g
 unfold trmB
 generalize g.terms = tm at *
 clear hV hB1
 by_cases h1n:(1:Int) ≤ n
 · go_enter Tryz.func91,Tryz.ntmps91
   go_wp2_with (go_at_call 30;refine G.out.mono ?_;clear G;rintro e w1 ⟨rfl,hc1⟩;have h1:=hid hc1;clear hc1)
   go_ret
   exact ⟨by rw [decide_eq_true (show (1:Int) ≤ n by omega)];simp,bl_step hB.out h1.out⟩
 · go_enter Tryz.func91,Tryz.ntmps91
   go_wp2_with fail
   go_ret
   exact ⟨by rw [decide_eq_false (show ¬ (1:Int) ≤ n by omega)];rfl,hB.out⟩
set_option maxRecDepth 20000 in
set_option maxHeartbeats 8000000 in
theorem nontK3 (rv nv lv pv:Value) (g:Gm) (st n:Int) (w:World) (hV:GmV w rv nv lv pv g) (hl:g.rules.length ≤ 1000) (hl2:g.nonts.length ≤ 1000) :
 Calls Tryz.prog 68 #[gmA rv nv lv pv st,.int .i64 n] w fun e w' => e = .returned (.bool (ntmB g n)) ∧ Below w.heap.size w w':=by
 obtain ⟨na,nc,rfl⟩:=hV.nonts.shape
 have hB1:=al' w (.cells #[rv,.slice na g.nonts.length nc,lv,pv,.int .i64 st] 27)
 obtain ⟨x0,x1,x2,x3,x4⟩:=cells5m (heap_new w (.cells #[rv,.slice na g.nonts.length nc,lv,pv,.int .i64 st] 27))
 obtain ⟨W,hW⟩:∃ x,w.alloc (.cells #[rv,.slice na g.nonts.length nc,lv,pv,.int .i64 st] 27) = x:=⟨_,rfl⟩
 rw [hW] at hB1 x0 x1 x2 x3 x4
 have cA:Hid (∀ d os,Calls Tryz.prog 90 #[gmA rv (.slice na g.nonts.length nc) lv pv st] (grow (redrawn W d) os) fun e w'' => e = .returned (.int .i64 ((g.terms:Int) + 1)) ∧ ∃ p:Regrown,w'' = grow (redrawn W p.d) p.os):=hid (fun d os => Calls.regrown_of (firstC rv _ lv pv g st _ (hV.keep (bl_step hB1 (below_regrown W d os))) hl))
 have hB:=hid hB1
 have ht:=terms_le g
 unfold ntmB Gm.all
 generalize g.terms = tm at *
 generalize g.nonts.length = nn at *
 have y0:=cell_regrown x0
 have y1:=cell_regrown x1
 have y2:=cell_regrown x2
 have y3:=cell_regrown x3
 have y4:=cell_regrown x4
 clear hV hB1 x0 x1 x2 x3 x4
 by_cases h1n:(tm:Int) + 1 ≤ n
 · go_enter Tryz.func68,Tryz.ntmps68
   go_wp2_with fail
   clear hW
   refine wp_region_quiet_below (by kernel_rfl) (by kernel_rfl) ?_
   repeat (first | go_big_quiet_step (exact cA.out _ _) | quiet_step (exact cA.out _ _))
   refine wpQuiet_nil ?_
   intro _ hw'
   obtain ⟨⟨dq,osq⟩,hw''⟩:=hw'
   subst hw''
   have hq:=hid (below_regrown W dq osq)
   generalize grow (redrawn W dq) osq = wz at *
   go_wp2
   go_ret
   refine ⟨?_,bl_step hB.out hq.out⟩
   rw [decide_eq_true (show (tm:Int) < n by omega)]
   have:(n < (tm:Int) + 1 + (nn:Int)) = (n ≤ ((tm + nn:Nat):Int)):=by apply propext;omega
   simp [this]
 · have hd1:decide ((tm:Int) + 1 ≤ n) = false:=decide_eq_false h1n
   go_enter Tryz.func68,Tryz.ntmps68
   go_wp2_with fail
   clear hW
   refine wp_region_quiet_below (by kernel_rfl) (by kernel_rfl) ?_
   repeat (first | go_big_quiet_step (exact cA.out _ _) | quiet_step (exact cA.out _ _))
   refine wpQuiet_nil ?_
   intro _ hw'
   obtain ⟨⟨dq,osq⟩,hw''⟩:=hw'
   subst hw''
   have hq:=hid (below_regrown W dq osq)
   generalize grow (redrawn W dq) osq = wz at *
   go_wp2
   go_ret
   refine ⟨?_,bl_step hB.out hq.out⟩
   rw [decide_eq_false (show ¬ (tm:Int) < n by omega)]
   rfl
end Go.Proofs.YtfhokapfkclckaaGreat
namespace Go.Proofs.YtfhokapfkclckaaGreat
open Go.RowKit Go.Maps Go.Sort
theorem step_call15 {P:Program} {ops:Array Oper} {o:Oper} {a:Act} {w:World} {K:Act → World → Prop} {Q:Exit → Act → World → Prop} {E:Prop} (hgd:o.guard = none) (f:FuncId) (args:Array Value)
 (hrun:(execOp a.eval o).run P w = .ok (.enter f args) w) {R:Ending → World → Prop} (hc:Calls P f args w R) (h:∀ e w',R e w' → ∃ v,e = .returned v ∧ K (a.put o.dst v) w') :
 if Region.wanted o (yielded ops a.tmps) = true then Oper.wp P o a w K Q else E:=by
 have hw:Region.wanted o (yielded ops a.tmps) = true:=by simp [Region.wanted,hgd]
 rw [if_pos hw]
 unfold Oper.wp
 rw [hrun,Oper.upon_enter]
 refine hc.mono fun e w' hr => ?_
 obtain ⟨v,rfl,hk⟩:=h e w' hr
 exact hk
theorem collapse3 {R F:World → Nat → Nat → Prop} {G:Prop} (h:(∀ V a b,F V a b → R V a b) → G) (pf:∀ V a b,F V a b → R V a b):G:=h pf
section
variable {out:List Int} {p:Pd}
theorem vaP_old (h:out.contains p.left = true):vaP out p = out:=by
 unfold vaP
 rw [h]
 simp
theorem any_gone (l:List Int):l.any (fun n => !out.contains n) = !goneB out l:=by
 unfold goneB
 rw [List.not_all_eq_any_not]
theorem vaP_no (h:p.right.any (fun n => !out.contains n) = true):vaP out p = out:=by
 rw [any_gone,Bool.not_eq_true'] at h
 unfold vaP
 rw [h]
 simp
theorem vaP_yes (h1:out.contains p.left = false) (h2:p.right.any (fun n => !out.contains n) = false):vaP out p = out ++ [p.left]:=by
 rw [any_gone,Bool.not_eq_false'] at h2
 unfold vaP
 rw [h1,h2]
 simp
end
structure VaL (g:Gm) (o0 o:List Int) (i:Nat) (b:Bool):Prop where
 is:o = (g.prods.take i).foldl vaP o0
 inv:VaI g o
 more:b = decide (o0.length < o.length)
section
variable {g:Gm} {o0 o:List Int} {i:Nat} {b:Bool}
theorem VaL.start (h:VaI g o0):VaL g o0 o0 0 false:=⟨rfl,h,by simp⟩
theorem take_fold {α β:Type} {f:β → α → β} {l:List α} {i:Nat} (hi:i < l.length) (o:β):(l.take (i + 1)).foldl f o = f ((l.take i).foldl f o) l[i]:=by
 rw [List.take_succ_eq_append_getElem hi,List.foldl_append]
 rfl
theorem VaL.skip (h:VaL g o0 o i b) (hi:i < g.prods.length) (e:vaP o g.prods[i] = o):VaL g o0 o (i + 1) b:=
 ⟨by rw [take_fold hi,← h.is,e],h.inv,h.more⟩
theorem VaL.mark (h:VaL g o0 o i b) (hi:i < g.prods.length) (e:vaP o g.prods[i] = o ++ [g.prods[i].left]):VaL g o0 (o ++ [g.prods[i].left]) (i + 1) true:=by
 refine ⟨by rw [take_fold hi,← h.is,e],?_,?_⟩
 · have:=h.inv.prod (List.getElem_mem hi)
   rw [e] at this
   exact this
 · obtain ⟨r,hr⟩:=fold_sub vaP_sub (g.prods.take i) o0
   have e2:=h.is
   rw [hr] at e2
   symm
   rw [decide_eq_true_iff,List.length_append,e2,List.length_append]
   simp
   omega
theorem VaL.stop (h:VaL g o0 o i false) (hi:g.prods.length ≤ i) (n:Int):n ∈ o ↔ Van g n:=by
 refine ⟨h.inv.1 n,fun hn => ?_⟩
 have e1:=h.is
 rw [List.take_of_length_le hi] at e1
 have e1:o = vaR g o0:=e1
 obtain ⟨r,hr⟩:=vaR_sub g o0
 have hm:=h.more.symm
 rw [decide_eq_false_iff_not,e1,hr,List.length_append] at hm
 have hr0:r = []:=List.eq_nil_of_length_eq_zero (by omega)
 rw [hr0,List.append_nil] at hr
 rw [e1,hr]
 exact va_all hr hn
end
set_option maxRecDepth 20000 in
set_option maxHeartbeats 16000000 in
theorem markV15 (g:Gm) (hg:SndG g) (rv nv lv pv:Value) (w:World) (hV:GmV w rv nv lv pv g) :
 Calls Tryz.prog 24 #[gmA rv nv lv pv g.start] w fun e w' => ∃ mb,e = .returned (.slice (some ⟨mb,0,none⟩) (g.all + 1) (g.all + 1)) ∧ MkB w' mb (g.all + 1) (nulL g) ∧ w.heap.size ≤ mb ∧ Below w.heap.size w w':=by
 have hal:=all_le hg
 have hr:=hg.rules
 have hn:=hg.nonts
 have hp:=hg.prods
 obtain ⟨na,nc,rfl⟩:=hV.nonts.shape
 obtain ⟨pa,pc,rfl⟩:=hV.prods.shape
 have hB1:=al' w (.cells #[rv,.slice na g.nonts.length nc,lv,.slice pa g.prods.length pc,.int .i64 g.start] 27)
 have k1:=heap_new w (.cells #[rv,.slice na g.nonts.length nc,lv,.slice pa g.prods.length pc,.int .i64 g.start] 27)
 have z1:(w.alloc (.cells #[rv,.slice na g.nonts.length nc,lv,.slice pa g.prods.length pc,.int .i64 g.start] 27)).heap.size = w.heap.size + 1:=World.size_alloc ..
 obtain ⟨W,hW⟩:∃ x,w.alloc (.cells #[rv,.slice na g.nonts.length nc,lv,.slice pa g.prods.length pc,.int .i64 g.start] 27) = x:=⟨_,rfl⟩
 rw [hW] at hB1 k1 z1
 have hk1:=hid (fun u (hu:Below W.heap.size W u) => cells5m (hs_keep k1 hu))
 have hB:=hid hB1
 have hz:=hid z1
 have GT:=hid (fun u (hu:Below W.heap.size W u) => gtermC rv _ lv _ g g.start u (hV.keep (bl_step hB1 hu)) (by omega))
 have hall:Hid ((g.all:Int) = (g.terms:Int) + (g.nonts.length:Int)):=hid (by unfold Gm.all;omega)
 have hKp:Hid (∀ u,Below w.heap.size w u → ∀ i (hi:i < g.prods.length),∃ b o q1 q3,pa = some ⟨b,o,none⟩ ∧ u.cell? ⟨b,o + i * 3,none⟩ = some (.int .i64 g.prods[i].left) ∧ u.cell? ⟨b,o + i * 3 + 1,none⟩ = some (.slice q1 g.prods[i].right.length q3) ∧ u.cell? ⟨b,o + i * 3 + 2,none⟩ = some (.int .i64 g.prods[i].prec) ∧ Nums u (.slice q1 g.prods[i].right.length q3) g.prods[i].right):=hid (fun u hu i hi => by
  obtain ⟨b0,o0,e0,hb0,v,h0,h1,h2,hN⟩:=(hV.keep hu).prods.at hi
  obtain ⟨q1,q3,rfl,-⟩:=id hN
  exact ⟨b0,o0,q1,q3,e0,h0,h1,h2,hN⟩)
 have hpd:Hid (∀ i (hi:i < g.prods.length),0 ≤ g.prods[i].left ∧ g.prods[i].left.toNat < g.all + 1 ∧ g.prods[i].right.length ≤ 8 ∧ ∀ s ∈ g.prods[i].right,0 ≤ s ∧ s.toNat < g.all + 1):=hid (fun i hi => by
  have h1:=left_sym hg (List.getElem_mem hi)
  have h2:=right_sym hg (List.getElem_mem hi)
  have:=hg.prod _ (List.getElem_mem hi)
  unfold pdB at this
  simp only [Bool.and_eq_true,decide_eq_true_eq,List.all_eq_true] at this
  refine ⟨by omega,by omega,this.1.1.1.2,fun s hs => ?_⟩
  have:=h2 s hs
  omega)
 have hln:Hid (∀ o,VaI g o → o.length ≤ g.nonts.length):=hid (fun o h => h.len hg)
 have hI0:Hid (VaI g []):=hid (vaN_good g 0)
 have hnl:=hid (fun n => nulL_mem hg n)
 have ht:=terms_le g
 have hmk:=run_make_row' (P:=Tryz.prog) 50 4 (.bool false) 1 Tryz.underlying50 Tryz.infoB4 rfl .i64 .i64 (g.all + 1) (by omega) (by omega)
 have hsum:Hid (IntKind.i64.wrap (IntKind.i64.wrap ((g.terms:Int) + 1) + (g.nonts.length:Int)) = ((g.all + 1:Nat):Int)):=hid (by
  have:=hall.out
  rw [IntKind.wrap_i64,IntKind.wrap_i64]
  omega)
 clear hV hB1 k1 hg z1
 obtain ⟨N,hN9⟩:∃ n,Hid (g.all + 1 = n):=⟨_,hid rfl⟩
 rw [hN9.out] at hpd hmk hsum ⊢
 have hal:N ≤ 101:=by have:=hN9.out;omega
 obtain ⟨tm,htm⟩:∃ n,Hid (g.terms = n):=⟨_,hid rfl⟩
 obtain ⟨nn,hnn⟩:∃ n,Hid (g.nonts.length = n):=⟨_,hid rfl⟩
 obtain ⟨pn,hpn⟩:∃ n,Hid (g.prods.length = n):=⟨_,hid rfl⟩
 obtain ⟨st,hst⟩:∃ n,Hid (g.start = n):=⟨_,hid rfl⟩
 rw [htm.out] at GT ht hall hsum
 rw [hnn.out] at GT hn hW hk1 hall hln hsum ⊢
 rw [hst.out] at GT hW hk1 ⊢
 rw [hpn.out] at GT hW hk1 hp ⊢
 have F1:Hid (∀ w1,Below W.heap.size W w1 → MkS ((w1.alloc (.cells (madeCells #[.bool false] N) 4)).alloc (.cells #[.slice (some ⟨w1.heap.size,0,none⟩) N N] 50)) (w1.heap.size + 1) w1.heap.size N [] ∧ Below W.heap.size W ((w1.alloc (.cells (madeCells #[.bool false] N) 4)).alloc (.cells #[.slice (some ⟨w1.heap.size,0,none⟩) N N] 50)) ∧ W.heap.size ≤ w1.heap.size + 1 ∧ W.heap.size ≤ w1.heap.size):=hid (fun w1 h1 => by
  have hs:=h1.size
  have a1:=al' w1 (.cells (madeCells #[.bool false] N) 4)
  have a2:=al' (w1.alloc (.cells (madeCells #[.bool false] N) 4)) (.cells #[.slice (some ⟨w1.heap.size,0,none⟩) N N] 50)
  have z2:(w1.alloc (.cells (madeCells #[.bool false] N) 4)).heap.size = w1.heap.size + 1:=World.size_alloc ..
  have b2:=heap_new (w1.alloc (.cells (madeCells #[.bool false] N) 4)) (.cells #[.slice (some ⟨w1.heap.size,0,none⟩) N N] 50)
  rw [z2] at b2
  exact ⟨⟨b2,(made_marks w1 N).keep a2,by omega⟩,bl_step (bl_step h1 a1) a2,by omega,hs⟩)
 have F2:Hid (∀ w1,Below W.heap.size W w1 → MkS ((w1.alloc (.cells #[.slice (some ⟨w1.heap.size + 1,0,none⟩) N N] 50)).alloc (.cells (madeCells #[.bool false] N) 4)) w1.heap.size (w1.heap.size + 1) N [] ∧ Below W.heap.size W ((w1.alloc (.cells #[.slice (some ⟨w1.heap.size + 1,0,none⟩) N N] 50)).alloc (.cells (madeCells #[.bool false] N) 4)) ∧ W.heap.size ≤ w1.heap.size ∧ W.heap.size ≤ w1.heap.size + 1):=hid (fun w1 h1 => by
  have hs:=h1.size
  have a1:=al' w1 (.cells #[.slice (some ⟨w1.heap.size + 1,0,none⟩) N N] 50)
  have a2:=al' (w1.alloc (.cells #[.slice (some ⟨w1.heap.size + 1,0,none⟩) N N] 50)) (.cells (madeCells #[.bool false] N) 4)
  have z2:(w1.alloc (.cells #[.slice (some ⟨w1.heap.size + 1,0,none⟩) N N] 50)).heap.size = w1.heap.size + 1:=World.size_alloc ..
  have b2:=made_marks (w1.alloc (.cells #[.slice (some ⟨w1.heap.size + 1,0,none⟩) N N] 50)) N
  rw [z2] at b2
  exact ⟨⟨hs_keep (heap_new w1 _) a2,b2,by omega⟩,bl_step (bl_step h1 a1) a2,hs,by omega⟩)
 have F3:Hid (∀ w1,Below (W.alloc (.cells #[.slice none 0 0] 50)).heap.size (W.alloc (.cells #[.slice none 0 0] 50)) w1 → MkS ((w1.alloc (.cells (madeCells #[.bool false] N) 4)).setCell ⟨W.heap.size,0,none⟩ (.slice (some ⟨w1.heap.size,0,none⟩) N N)) W.heap.size w1.heap.size N [] ∧ Below W.heap.size W ((w1.alloc (.cells (madeCells #[.bool false] N) 4)).setCell ⟨W.heap.size,0,none⟩ (.slice (some ⟨w1.heap.size,0,none⟩) N N)) ∧ W.heap.size ≤ W.heap.size ∧ W.heap.size ≤ w1.heap.size):=hid (fun w1 h1 => by
  have hs:=h1.size
  have z2:(W.alloc (.cells #[.slice none 0 0] 50)).heap.size = W.heap.size + 1:=World.size_alloc ..
  have a0:=al' W (.cells #[.slice none 0 0] 50)
  have a2:=al' w1 (.cells (madeCells #[.bool false] N) 4)
  have b2:=made_marks w1 N
  have b1:=hs_keep (hs_keep (heap_new W (.cells #[.slice none 0 0] 50)) h1) a2
  have hK:Kept (oneBlk W.heap.size) (w1.alloc (.cells (madeCells #[.bool false] N) 4)) ((w1.alloc (.cells (madeCells #[.bool false] N) 4)).setCell ⟨W.heap.size,0,none⟩ (.slice (some ⟨w1.heap.size,0,none⟩) N N)):=set_kept
  exact ⟨⟨heap_setCell b1,hK.blk b2 (fun e => by have:w1.heap.size = W.heap.size:=e;omega),by omega⟩,(bl_step (bl_step a0 h1) a2).trans (hK.below (fun k e => by rw [show k = W.heap.size from e];exact Nat.le_refl _) (bl_step (bl_step a0 h1) a2).size),Nat.le_refl _,by omega⟩)
 obtain ⟨x0,x1,x2,x3,x4⟩:=hk1.out W (Below.refl _ _)
 go_enter Tryz.func24,Tryz.ntmps24
 go_wp2_with fail
 apply collapse3 (F:=fun V sb mb => MkS V sb mb N [] ∧ Below W.heap.size W V ∧ W.heap.size ≤ sb ∧ W.heap.size ≤ mb)
 case h =>
  intro rest
  have hsum:=hsum.out
  obtain ⟨b0,b1,b2,b3,b4⟩:=hk1.out _ (al' W (.cells #[.slice none 0 0] 50))
  go_region_law ((first
   | (refine step_call15 (by rfl) 30 #[gmA rv (.slice na nn nc) lv (.slice pa pn pc) st] (by go_simp) (GT.out W.drew (Below.refl W.heap.size W).drew) ?_;rintro e w1 ⟨rfl,hc1⟩;refine ⟨_,rfl,?_⟩;have hc2:=(Below.refl W.heap.size W).drew.trans hc1;have hq1:=hid hc2;obtain ⟨z0,z1,z2,z3,z4⟩:=hk1.out w1 hc2;have y1:=keep_cell (al' w1 (.cells #[.slice none 0 0] 50)) z1;have hx8:=hs_keep (heap_new w1 (.cells #[.slice none 0 0] 50)) (al' (w1.alloc (.cells #[.slice none 0 0] 50)) (.cells (madeCells #[.bool false] N) 4));have n0:=blk_cell (o:=0) hx8 rfl;have n1:=blk_frozen hx8 0;clear hc1 hc2 hx8)
   | (refine step_call15 (by rfl) 30 #[gmA rv (.slice na nn nc) lv (.slice pa pn pc) st] (by go_simp) (GT.out (W.alloc (.cells #[.slice none 0 0] 50)).drew (al' W (.cells #[.slice none 0 0] 50)).drew) ?_;rintro e w1 ⟨rfl,hc1⟩;refine ⟨_,rfl,?_⟩;have hc2:=(Below.refl (W.alloc (.cells #[.slice none 0 0] 50)).heap.size (W.alloc (.cells #[.slice none 0 0] 50))).drew.trans hc1;have hq2:=hid hc2;have hb9:=hs_keep (heap_new W (.cells #[.slice none 0 0] 50)) hc2;have hb8:=hs_keep hb9 (al' w1 (.cells (madeCells #[.bool false] N) 4));have m0:=blk_cell (o:=0) hb8 rfl;have m1:=blk_frozen hb8 0;obtain ⟨z0,z1,z2,z3,z4⟩:=hk1.out w1 (bl_step (al' W (.cells #[.slice none 0 0] 50)) hc2);clear hc1 hc2 hb9 hb8)))
  all_goals
   first
    | (have hf:=F1.out w1 hq1.out
       generalize (w1.alloc (.cells (madeCells #[.bool false] N) 4)).alloc (.cells #[.slice (some ⟨w1.heap.size,0,none⟩) N N] 50) = V at hf ⊢
       generalize w1.heap.size + 1 = sb at hf ⊢
       generalize w1.heap.size = mb at hf ⊢
       exact rest V sb mb hf)
    | (have hf:=F2.out w1 hq1.out
       generalize (w1.alloc (.cells #[.slice (some ⟨w1.heap.size + 1,0,none⟩) N N] 50)).alloc (.cells (madeCells #[.bool false] N) 4) = V at hf ⊢
       generalize w1.heap.size + 1 = mb at hf ⊢
       generalize w1.heap.size = sb at hf ⊢
       exact rest V sb mb hf)
    | exact rest _ W.heap.size w1.heap.size (F3.out w1 hq2.out)
 case pf =>
  rintro V sb mb ⟨hS,hBV,hsb,hmb⟩
  have c0:=(hk1.out V hBV).2.2.2.1
  have hlow:Hid (∀ u,Kept (oneBlk mb) V u → Below w.heap.size w u ∧ u.cell? ⟨w.heap.size,3,none⟩ = some (.slice pa pn pc)):=hid (fun u hu => by
   have h1:Below W.heap.size W u:=hBV.trans (hu.below (fun k e => by rw [show k = mb from e];exact hmb) hBV.size)
   exact ⟨bl_step hB.out h1,(hk1.out u h1).2.2.2.1⟩)
  have hmw:Hid (w.heap.size ≤ mb):=hid (by have:=hz.out;omega)
  have hS:=hid hS
  clear c0 x0 x1 x2 x3 x4 hk1 GT hmk hsum hBV hsb hmb F1 F2 F3 hW
  have hNb:Hid (∀ o,VaI g o → o.length + 1 ≤ nn + 1):=hid (fun o h => Nat.succ_le_succ (hln.out o h))
  go_wp2_with fail
  go_loopg [5] (nn + 2) (fun gk mo wr => ∃ (b:Bool) (C:List Int),mo = .bool b ∧ Hid (MkS wr sb mb N C) ∧ Hid (VaI g C) ∧ Hid (b = false → ∀ n,n ∈ C ↔ Van g n) ∧ Hid (Kept (oneBlk mb) V wr) ∧ Hid ((nn - C.length) + (if b then 1 else 0) ≤ gk))
  case atStart => exact ⟨true,[],rfl,hS,hI0,hid (fun e => by cases e),hid (Kept.refl _ _),hid (by simp)⟩
  case round =>
   clear hS hI0
   obtain ⟨b,C0,rfl,hM,hC,hd,hK,hgk⟩:=hrel
   obtain ⟨hl9,g3⟩:=hlow.out wr hK.out
   have c1:=hM.out.c0
   cases b with
   | false =>
    have hlw:=hid hl9
    have hend:=hid (hM.out.row.congr (out':=nulL g) (fun n => (hd.out rfl n).trans (hnl.out n).symm))
    clear hl9 g3 hC hd hM
    go_wp2
    go_ret
    exact ⟨mb,rfl,hend.out,hmw.out,hlw.out⟩
   | true =>
    have hE0:=hid (VaL.start hC.out)
    clear hd hl9 c1
    go_wp2_with fail
    clear g3
    go_loopw [5,21] (fun mo x wr => ∃ (b:Bool) (C:List Int) (i:Nat),i ≤ pn ∧ mo = .bool b ∧ x = .int .i64 (i:Int) ∧ Hid (MkS wr sb mb N C) ∧ Hid (VaL g C0 C i b) ∧ Hid (Kept (oneBlk mb) V wr)) (fun _ x _ => pn - (intOf x).toNat)
    case atStart => exact ⟨false,C0,0,Nat.zero_le _,rfl,rfl,hM,hE0,hK⟩
    case round =>
     clear hM hE0 hK
     obtain ⟨b,C,i,hi,rfl,rfl,hM,hE,hK⟩:=hrel
     by_cases hlt:i < pn
     · have hltz:(i:Int) < (pn:Int):=by omega
       have hil:i < g.prods.length:=by rw [hpn.out];exact hlt
       obtain ⟨hl9,-⟩:=hlow.out wr hK.out
       obtain ⟨pb,po,q1,q3,rfl,d0,d1,d2,hN⟩:=hKp.out wr hl9 i hil
       obtain ⟨hp1,hp2,hp3,hp4⟩:=hpd.out i hil
       have hal9:=al' wr (.cells #[.int .i64 g.prods[i].left,.slice q1 g.prods[i].right.length q3,.int .i64 g.prods[i].prec] 43)
       have hMa:=hid (hM.out.keep hal9)
       have hKa:=hid (hK.out.trans (Kept.of_below hal9))
       have G1:=hid (staysC sb mb N C g.prods[i].left _ hMa.out (by omega) hp1 hp2)
       have G2:=hid (hasStays sb (fun n => !C.contains n) _ g.prods[i].right _ (hN.keep hal9) (by omega) (fun k hk => staysC sb mb N C g.prods[i].right[k] _ hMa.out (by omega) (hp4 _ (List.getElem_mem hk)).1 (hp4 _ (List.getElem_mem hk)).2))
       have hskip:Hid (vaP C g.prods[i] = C → VaL g C0 C (i + 1) b):=hid (fun h => hE.out.skip hil h)
       have hmark:Hid (vaP C g.prods[i] = C ++ [g.prods[i].left] → VaL g C0 (C ++ [g.prods[i].left]) (i + 1) true):=hid (fun h => hE.out.mark hil h)
       have e1:=vaP_old (out:=C) (p:=g.prods[i])
       have e2:=vaP_no (out:=C) (p:=g.prods[i])
       have e3:=vaP_yes (out:=C) (p:=g.prods[i])
       have hset:=hid (hMa.out.set hp1 hp2)
       have hy2:=hid (hMa.out.row.at hp1 hp2)
       have hfz:=hid (hMa.out.row.free g.prods[i].left.toNat)
       obtain ⟨j,hj⟩:∃ j:Nat,g.prods[i].left.toNat = j:=⟨_,rfl⟩
       have hjl:g.prods[i].left = (j:Int):=by omega
       rw [hj] at hp2 hset hy2 hfz
       have hjN:(j:Int) < (N:Int):=by omega
       clear hl9 hN hal9 hM hK hE hj hp1 hp4
       generalize vaP C g.prods[i] = PC at *
       generalize g.prods[i].right.any (fun n => !C.contains n) = R at *
       generalize g.prods[i].right.length = v2 at *
       generalize g.prods[i].left = v1 at *
       generalize g.prods[i].prec = v3 at *
       subst hjl
       cases ho:C.contains (j:Int) with
       | true =>
        rw [ho] at G1
        have hI9:=hid (hskip.out (e1 ho))
        clear hskip hmark G2 ho e1 e2 e3 hset hy2 hfz
        go_wp2_with (go_at_call 48;refine G1.out.mono ?_;clear G1;rintro e w4 ⟨rfl,hc4⟩;subst w4)
        go_roundw
        case rel => exact ⟨b,C,i + 1,by omega,rfl,by go_num,hMa,hI9,hKa⟩
        case measure => simp [intOf];omega
       | false =>
        rw [ho] at G1
        cases R with
        | true =>
         have hI9:=hid (hskip.out (e2 rfl))
         clear hskip hmark ho e1 e2 e3 hset hy2 hfz
         go_wp2_with (first
          | (go_at_call 48;refine G1.out.mono ?_;clear G1;rintro e w4 ⟨rfl,hc4⟩;subst w4)
          | (go_at_call 31;refine G2.out.mono ?_;clear G2;rintro e w5 ⟨rfl,hc5⟩;subst w5))
         go_roundw
         case rel => exact ⟨b,C,i + 1,by omega,rfl,by go_num,hMa,hI9,hKa⟩
         case measure => simp [intOf];omega
        | false =>
         have hI9:=hid (hmark.out (e3 ho rfl))
         have e0:(wr.alloc (.cells #[.int .i64 (j:Int),.slice q1 v2 q3,.int .i64 v3] 43)).cell? ⟨wr.heap.size,0,none⟩ = some (.int .i64 (j:Int)):=blk_cell (heap_new wr _) rfl
         have e1':(wr.alloc (.cells #[.int .i64 (j:Int),.slice q1 v2 q3,.int .i64 v3] 43)).cell? ⟨wr.heap.size,1,none⟩ = some (.slice q1 v2 q3):=blk_cell (heap_new wr _) rfl
         obtain ⟨wa,hwa⟩:∃ x,wr.alloc (.cells #[.int .i64 (j:Int),.slice q1 v2 q3,.int .i64 v3] 43) = x:=⟨_,rfl⟩
         rw [hwa] at G1 G2 hMa hKa e0 e1' hset hy2 hfz
         have y0:=hMa.out.c0
         have y2:=hy2.out
         have y3:=hfz.out
         generalize C.contains (j:Int) = cb at y2
         have hK9:=hid (hKa.out.trans (set_kept (rb:=mb) (o:=j) (v:=.bool true)))
         clear hskip hmark ho e1 e2 e3 hy2 hfz
         go_wp2_with (first
          | (go_at_call 48;refine G1.out.mono ?_;clear G1;rintro e w4 ⟨rfl,hc4⟩;subst w4)
          | (go_at_call 31;refine G2.out.mono ?_;clear G2;rintro e w5 ⟨rfl,hc5⟩;subst w5))
         go_roundw
         case rel => exact ⟨true,_,i + 1,by omega,rfl,by go_num,hset,hI9,hK9⟩
         case measure => simp [intOf];omega
     · have hltz:¬ (i:Int) < (pn:Int):=by omega
       have hall9:Hid (b = false → ∀ n,n ∈ C ↔ Van g n):=hid (fun e => by subst e;exact hE.out.stop (by rw [hpn.out];omega))
       have hcnt:Hid ((nn - C.length) + (if b then 1 else 0) < gk):=hid (by
        have h1:nn - C0.length + 1 ≤ gk:=by simpa using hgk.out
        have h2:=hE.out.more
        have h3:=hln.out C hE.out.inv
        have h4:C0.length ≤ C.length:=by
         obtain ⟨r,hr⟩:=fold_sub vaP_sub (g.prods.take i) C0
         rw [hE.out.is,hr,List.length_append]
         omega
        cases b with
        | false => simp;omega
        | true =>
         have h2:=h2.symm
         rw [decide_eq_true_iff] at h2
         simp
         omega)
       have hC9:=hid hE.out.inv
       go_wp2
       go_roundg ((nn - C.length) + (if b then 1 else 0))
       case measure => exact hcnt.out
       case rel => exact ⟨b,C,rfl,hM,hC9,hall9,hK,hid (Nat.le_refl _)⟩
end Go.Proofs.YtfhokapfkclckaaGreat
namespace Go.Proofs.YtfhokapfkclckaaGreat
open Go.RowKit Go.Maps Go.Sort
def sizeB (g:Gm):Bool:=decide (g.rules.length ≤ 16) && decide (g.nonts.length ≤ 16) && decide (g.prods.length ≤ 40)
set_option maxRecDepth 20000 in
set_option maxHeartbeats 8000000 in
theorem sizeC (rv nv lv pv:Value) (g:Gm) (st:Int) (w:World) (hV:GmV w rv nv lv pv g) :
 Calls Tryz.prog 42 #[gmA rv nv lv pv st] w fun e w' => e = .returned (.bool (sizeB g)) ∧ Below w.heap.size w w':=by
 obtain ⟨ra,rc,rfl⟩:=hV.rules.shape
 obtain ⟨na,nc,rfl⟩:=hV.nonts.shape
 obtain ⟨pa,pc,rfl⟩:=hV.prods.shape
 have hB1:=al' w (.cells #[.slice ra g.rules.length rc,.slice na g.nonts.length nc,lv,.slice pa g.prods.length pc,.int .i64 st] 27)
 obtain ⟨x0,x1,x2,x3,x4⟩:=cells5m (heap_new w (.cells #[.slice ra g.rules.length rc,.slice na g.nonts.length nc,lv,.slice pa g.prods.length pc,.int .i64 st] 27))
 obtain ⟨W,hW⟩:∃ x,w.alloc (.cells #[.slice ra g.rules.length rc,.slice na g.nonts.length nc,lv,.slice pa g.prods.length pc,.int .i64 st] 27) = x:=⟨_,rfl⟩
 rw [hW] at hB1 x0 x1 x2 x3 x4
 have hB:=hid hB1
 unfold sizeB
 generalize g.rules.length = rn at *
 generalize g.nonts.length = nn at *
 generalize g.prods.length = pp at *
 clear hV hB1
 by_cases h1:(rn:Int) ≤ 16
 · by_cases h2:(nn:Int) ≤ 16
   · go_enter Tryz.func42,Tryz.ntmps42
     go_wp2
     go_ret
     refine ⟨?_,hB.out⟩
     rw [decide_eq_true (show rn ≤ 16 by omega),decide_eq_true (show nn ≤ 16 by omega)]
     have:((pp:Int) ≤ 40) = (pp ≤ 40):=by apply propext;omega
     simp [this]
   · go_enter Tryz.func42,Tryz.ntmps42
     go_wp2
     go_ret
     refine ⟨?_,hB.out⟩
     rw [decide_eq_true (show rn ≤ 16 by omega),decide_eq_false (show ¬ nn ≤ 16 by omega)]
     rfl
 · go_enter Tryz.func42,Tryz.ntmps42
   go_wp2
   go_ret
   refine ⟨?_,hB.out⟩
   rw [decide_eq_false (show ¬ rn ≤ 16 by omega)]
   rfl
def lvlB (l:Int × Int):Bool:=(decide (l.1 = 0) && decide (l.2 = 0)) || (decide (0 < l.1) && decide (0 < l.2) && decide (l.2 < 4))
set_option maxRecDepth 20000 in
set_option maxHeartbeats 8000000 in
theorem levelK3 (p s:Int) (w:World):Calls Tryz.prog 67 #[.agg #[.int .i64 p,.int .i64 s]] w fun e w' => e = .returned (.bool (lvlB (p,s))) ∧ Below w.heap.size w w':=by
 have hB1:=al' w (.cells #[.int .i64 p,.int .i64 s] 53)
 have k1:=heap_new w (.cells #[.int .i64 p,.int .i64 s] 53)
 obtain ⟨W,hW⟩:∃ x,w.alloc (.cells #[.int .i64 p,.int .i64 s] 53) = x:=⟨_,rfl⟩
 rw [hW] at hB1 k1
 have x0:W.cell? ⟨w.heap.size,0,none⟩ = some (.int .i64 p):=blk_cell k1 rfl
 have x1:W.cell? ⟨w.heap.size,1,none⟩ = some (.int .i64 s):=blk_cell k1 rfl
 have hB:=hid hB1
 clear hB1 k1
 by_cases h0:p = 0
 · subst h0
   go_enter Tryz.func67,Tryz.ntmps67
   go_wp2
   go_ret
   refine ⟨?_,hB.out⟩
   unfold lvlB
   by_cases hs:s = 0 <;> simp [hs]
 · have h0z:(p == 0) = false:=by rw [beq_eq_false_iff_ne];exact h0
   by_cases h1:0 < p
   · by_cases h2:(1:Int) ≤ s
     · go_enter Tryz.func67,Tryz.ntmps67
       go_wp2
       go_ret
       refine ⟨?_,hB.out⟩
       unfold lvlB
       have e1:(0 < s) = True:=by apply propext;simp;omega
       have e2:(s ≤ 3) = (s < 4):=by apply propext;omega
       simp [h0,h1,e1,e2]
     · go_enter Tryz.func67,Tryz.ntmps67
       go_wp2
       go_ret
       refine ⟨?_,hB.out⟩
       unfold lvlB
       have e1:¬ 0 < s:=by omega
       simp [h0,h1,e1]
   · go_enter Tryz.func67,Tryz.ntmps67
     go_wp2
     go_ret
     refine ⟨?_,hB.out⟩
     unfold lvlB
     have h1':¬ 0 < p:=by omega
     simp only [decide_eq_false h0,decide_eq_false h1',Bool.false_and,Bool.or_false]
     rfl
def startB (g:Gm):Bool:=if g.nonts.length = 0 then decide (g.start = 0) else ntmB g g.start
set_option maxRecDepth 20000 in
set_option maxHeartbeats 8000000 in
theorem startK3 (rv nv lv pv:Value) (g:Gm) (w:World) (hV:GmV w rv nv lv pv g) (hl:g.rules.length ≤ 1000) (hl2:g.nonts.length ≤ 1000) :
 Calls Tryz.prog 46 #[gmA rv nv lv pv g.start] w fun e w' => e = .returned (.bool (startB g)) ∧ Below w.heap.size w w':=by
 obtain ⟨na,nc,rfl⟩:=hV.nonts.shape
 have hB1:=al' w (.cells #[rv,.slice na g.nonts.length nc,lv,pv,.int .i64 g.start] 27)
 obtain ⟨x0,x1,x2,x3,x4⟩:=cells5m (heap_new w (.cells #[rv,.slice na g.nonts.length nc,lv,pv,.int .i64 g.start] 27))
 obtain ⟨W,hW⟩:∃ x,w.alloc (.cells #[rv,.slice na g.nonts.length nc,lv,pv,.int .i64 g.start] 27) = x:=⟨_,rfl⟩
 rw [hW] at hB1 x0 x1 x2 x3 x4
 have G:=hid (nontK3 rv _ lv pv g g.start g.start W (hV.keep hB1) hl hl2)
 have hB:=hid hB1
 unfold startB
 generalize ntmB g g.start = R at *
 generalize g.start = st at *
 generalize g.nonts.length = nn at *
 clear hV hB1
 by_cases h0:nn = 0
 · subst h0
   rw [if_pos rfl]
   go_enter Tryz.func46,Tryz.ntmps46
   go_wp2
   go_ret
   exact ⟨by first | rfl | (by_cases hs:st = 0 <;> simp [hs]),hB.out⟩
 · have h0z:((nn:Int) == 0) = false:=by rw [beq_eq_false_iff_ne];omega
   rw [if_neg h0]
   go_enter Tryz.func46,Tryz.ntmps46
   go_wp2_with (go_at_call 68;refine G.out.mono ?_;clear G;rintro e w1 ⟨rfl,hc1⟩;have h1:=hid hc1;clear hc1)
   go_ret
   exact ⟨by first | rfl | simp,bl_step hB.out h1.out⟩
end Go.Proofs.YtfhokapfkclckaaGreat
