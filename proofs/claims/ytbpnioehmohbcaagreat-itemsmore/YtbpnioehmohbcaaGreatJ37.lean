/- Package check: firstNont, term, nont, soundSize, soundStart, soundLevel. Package check: soundSize, soundLevel. Package check: soundStart, soundLevels. Package check: soundLevels. -/
import Derived.Test.YtbpnioehmohbcaaGreatJ34
import Derived.Test.YtbpnioehmohbcaaGreatJ26
import Derived.Lib.QuietBelow
import Derived.Laws.StructEq
namespace Go.Proofs.YtbpnioehmohbcaaGreat
open Go.RowKit Go.Maps Go.Sort
set_option maxRecDepth 20000 in
theorem gtermC (rv nv lv pv:Value) (g:Gm) (st:Int) (w:World) (hV:GmV w rv nv lv pv g) (hl:g.rules.length ≤ 1000) :
 Calls Tryz.prog 45 #[gmA rv nv lv pv st] w fun e w' => e = .returned (.int .i64 (g.terms:Int)) ∧ Below w.heap.size w w':=
 termsL rv nv lv pv st g.rules w (rulL_of hV.rules) (by omega)
theorem terms_le (g:Gm):g.terms ≤ g.rules.length:=trmK_le _ _
set_option maxRecDepth 20000 in
set_option maxHeartbeats 8000000 in
theorem firstC (rv nv lv pv:Value) (g:Gm) (st:Int) (w:World) (hV:GmV w rv nv lv pv g) (hl:g.rules.length ≤ 1000) :
 Calls Tryz.prog 102 #[gmA rv nv lv pv st] w fun e w' => e = .returned (.int .i64 ((g.terms:Int) + 1)) ∧ Below w.heap.size w w':=by
 have hB1:=al' w (.cells #[rv,nv,lv,pv,.int .i64 st] 27)
 obtain ⟨x0,x1,x2,x3,x4⟩:=cells5m (heap_new w (.cells #[rv,nv,lv,pv,.int .i64 st] 27))
 obtain ⟨W,hW⟩:∃ x,w.alloc (.cells #[rv,nv,lv,pv,.int .i64 st] 27) = x:=⟨_,rfl⟩
 rw [hW] at hB1 x0 x1 x2 x3 x4
 have G:=hid (gtermC rv nv lv pv g st W (hV.keep hB1) hl)
 have hB:=hid hB1
 have ht:=terms_le g
 generalize g.terms = tm at *
 clear hV hB1
 go_enter Tryz.func102,Tryz.ntmps102
 go_wp2_with (go_at_call 45;refine G.out.mono ?_;clear G;rintro e w1 ⟨rfl,hc1⟩;have h1:=hid hc1;clear hc1)
 go_ret
 exact ⟨by first | rfl | go_num | simp,bl_step hB.out h1.out⟩
def trmB (g:Gm) (n:Int):Bool:=decide (1 ≤ n) && decide (n ≤ (g.terms:Int))
def ntmB (g:Gm) (n:Int):Bool:=decide ((g.terms:Int) < n) && decide (n ≤ (g.all:Int))
set_option maxRecDepth 20000 in
set_option maxHeartbeats 8000000 in
theorem termC (rv nv lv pv:Value) (g:Gm) (st n:Int) (w:World) (hV:GmV w rv nv lv pv g) (hl:g.rules.length ≤ 1000) :
 Calls Tryz.prog 103 #[gmA rv nv lv pv st,.int .i64 n] w fun e w' => e = .returned (.bool (trmB g n)) ∧ Below w.heap.size w w':=by
 have hB1:=al' w (.cells #[rv,nv,lv,pv,.int .i64 st] 27)
 obtain ⟨x0,x1,x2,x3,x4⟩:=cells5m (heap_new w (.cells #[rv,nv,lv,pv,.int .i64 st] 27))
 obtain ⟨W,hW⟩:∃ x,w.alloc (.cells #[rv,nv,lv,pv,.int .i64 st] 27) = x:=⟨_,rfl⟩
 rw [hW] at hB1 x0 x1 x2 x3 x4
 have G:=hid (gtermC rv nv lv pv g st W (hV.keep hB1) hl)
 have hB:=hid hB1
 have ht:=terms_le g
 unfold trmB
 generalize g.terms = tm at *
 clear hV hB1
 by_cases h1n:(1:Int) ≤ n
 · go_enter Tryz.func103,Tryz.ntmps103
   go_wp2_with (go_at_call 45;refine G.out.mono ?_;clear G;rintro e w1 ⟨rfl,hc1⟩;have h1:=hid hc1;clear hc1)
   go_ret
   exact ⟨by rw [decide_eq_true (show (1:Int) ≤ n by omega)];simp,bl_step hB.out h1.out⟩
 · go_enter Tryz.func103,Tryz.ntmps103
   go_wp2_with fail
   go_ret
   exact ⟨by rw [decide_eq_false (show ¬ (1:Int) ≤ n by omega)];rfl,hB.out⟩
set_option maxRecDepth 20000 in
set_option maxHeartbeats 8000000 in
theorem nontK3 (rv nv lv pv:Value) (g:Gm) (st n:Int) (w:World) (hV:GmV w rv nv lv pv g) (hl:g.rules.length ≤ 1000) (hl2:g.nonts.length ≤ 1000) :
 Calls Tryz.prog 70 #[gmA rv nv lv pv st,.int .i64 n] w fun e w' => e = .returned (.bool (ntmB g n)) ∧ Below w.heap.size w w':=by
 obtain ⟨na,nc,rfl⟩:=hV.nonts.shape
 have hB1:=al' w (.cells #[rv,.slice na g.nonts.length nc,lv,pv,.int .i64 st] 27)
 obtain ⟨x0,x1,x2,x3,x4⟩:=cells5m (heap_new w (.cells #[rv,.slice na g.nonts.length nc,lv,pv,.int .i64 st] 27))
 obtain ⟨W,hW⟩:∃ x,w.alloc (.cells #[rv,.slice na g.nonts.length nc,lv,pv,.int .i64 st] 27) = x:=⟨_,rfl⟩
 rw [hW] at hB1 x0 x1 x2 x3 x4
 have cA:Hid (∀ d os,Calls Tryz.prog 102 #[gmA rv (.slice na g.nonts.length nc) lv pv st] (grow (redrawn W d) os) fun e w'' => e = .returned (.int .i64 ((g.terms:Int) + 1)) ∧ ∃ p:Regrown,w'' = grow (redrawn W p.d) p.os):=hid (fun d os => Calls.regrown_of (firstC rv _ lv pv g st _ (hV.keep (bl_step hB1 (below_regrown W d os))) hl))
 have hB:=hid hB1
 have ht:=terms_le g
 unfold ntmB Gm.all
 generalize g.terms = tm at *
 generalize g.nonts.length = nn at *
 have y0:=cell_regrown x0
 have y1:=cell_regrown x1
 have y2:=cell_regrown x2
 have y3:=cell_regrown x3
 have y4:=cell_regrown x4
 clear hV hB1 x0 x1 x2 x3 x4
 by_cases h1n:(tm:Int) + 1 ≤ n
 · go_enter Tryz.func70,Tryz.ntmps70
   go_wp2_with fail
   clear hW
   refine wp_region_quiet_below (by kernel_rfl) (by kernel_rfl) ?_
   repeat (first | go_big_quiet_step (exact cA.out _ _) | quiet_step (exact cA.out _ _))
   refine wpQuiet_nil ?_
   intro _ hw'
   obtain ⟨⟨dq,osq⟩,hw''⟩:=hw'
   subst hw''
   have hq:=hid (below_regrown W dq osq)
   generalize grow (redrawn W dq) osq = wz at *
   go_wp2
   go_ret
   refine ⟨?_,bl_step hB.out hq.out⟩
   rw [decide_eq_true (show (tm:Int) < n by omega)]
   have:(n < (tm:Int) + 1 + (nn:Int)) = (n ≤ ((tm + nn:Nat):Int)):=by apply propext;omega
   simp [this]
 · have hd1:decide ((tm:Int) + 1 ≤ n) = false:=decide_eq_false h1n
   go_enter Tryz.func70,Tryz.ntmps70
   go_wp2_with fail
   clear hW
   refine wp_region_quiet_below (by kernel_rfl) (by kernel_rfl) ?_
   repeat (first | go_big_quiet_step (exact cA.out _ _) | quiet_step (exact cA.out _ _))
   refine wpQuiet_nil ?_
   intro _ hw'
   obtain ⟨⟨dq,osq⟩,hw''⟩:=hw'
   subst hw''
   have hq:=hid (below_regrown W dq osq)
   generalize grow (redrawn W dq) osq = wz at *
   go_wp2
   go_ret
   refine ⟨?_,bl_step hB.out hq.out⟩
   rw [decide_eq_false (show ¬ (tm:Int) < n by omega)]
   rfl
end Go.Proofs.YtbpnioehmohbcaaGreat
namespace Go.Proofs.YtbpnioehmohbcaaGreat
open Go.RowKit Go.Maps Go.Sort
def sizeB (g:Gm):Bool:=decide (g.rules.length ≤ 16) && decide (g.nonts.length ≤ 16) && decide (g.prods.length ≤ 40)
set_option maxRecDepth 20000 in
set_option maxHeartbeats 8000000 in
theorem sizeC (rv nv lv pv:Value) (g:Gm) (st:Int) (w:World) (hV:GmV w rv nv lv pv g) :
 Calls Tryz.prog 47 #[gmA rv nv lv pv st] w fun e w' => e = .returned (.bool (sizeB g)) ∧ Below w.heap.size w w':=by
 obtain ⟨ra,rc,rfl⟩:=hV.rules.shape
 obtain ⟨na,nc,rfl⟩:=hV.nonts.shape
 obtain ⟨pa,pc,rfl⟩:=hV.prods.shape
 have hB1:=al' w (.cells #[.slice ra g.rules.length rc,.slice na g.nonts.length nc,lv,.slice pa g.prods.length pc,.int .i64 st] 27)
 obtain ⟨x0,x1,x2,x3,x4⟩:=cells5m (heap_new w (.cells #[.slice ra g.rules.length rc,.slice na g.nonts.length nc,lv,.slice pa g.prods.length pc,.int .i64 st] 27))
 obtain ⟨W,hW⟩:∃ x,w.alloc (.cells #[.slice ra g.rules.length rc,.slice na g.nonts.length nc,lv,.slice pa g.prods.length pc,.int .i64 st] 27) = x:=⟨_,rfl⟩
 rw [hW] at hB1 x0 x1 x2 x3 x4
 have hB:=hid hB1
 unfold sizeB
 generalize g.rules.length = rn at *
 generalize g.nonts.length = nn at *
 generalize g.prods.length = pp at *
 clear hV hB1
 by_cases h1:(rn:Int) ≤ 16
 · by_cases h2:(nn:Int) ≤ 16
   · go_enter Tryz.func47,Tryz.ntmps47
     go_wp2
     go_ret
     refine ⟨?_,hB.out⟩
     rw [decide_eq_true (show rn ≤ 16 by omega),decide_eq_true (show nn ≤ 16 by omega)]
     have:((pp:Int) ≤ 40) = (pp ≤ 40):=by apply propext;omega
     simp [this]
   · go_enter Tryz.func47,Tryz.ntmps47
     go_wp2
     go_ret
     refine ⟨?_,hB.out⟩
     rw [decide_eq_true (show rn ≤ 16 by omega),decide_eq_false (show ¬ nn ≤ 16 by omega)]
     rfl
 · go_enter Tryz.func47,Tryz.ntmps47
   go_wp2
   go_ret
   refine ⟨?_,hB.out⟩
   rw [decide_eq_false (show ¬ rn ≤ 16 by omega)]
   rfl
def lvlB (l:Int × Int):Bool:=(decide (l.1 = 0) && decide (l.2 = 0)) || (decide (0 < l.1) && decide (0 < l.2) && decide (l.2 < 4))
set_option maxRecDepth 20000 in
set_option maxHeartbeats 8000000 in
theorem levelK3 (p s:Int) (w:World):Calls Tryz.prog 69 #[.agg #[.int .i64 p,.int .i64 s]] w fun e w' => e = .returned (.bool (lvlB (p,s))) ∧ Below w.heap.size w w':=by
 have hB1:=al' w (.cells #[.int .i64 p,.int .i64 s] 96)
 have k1:=heap_new w (.cells #[.int .i64 p,.int .i64 s] 96)
 obtain ⟨W,hW⟩:∃ x,w.alloc (.cells #[.int .i64 p,.int .i64 s] 96) = x:=⟨_,rfl⟩
 rw [hW] at hB1 k1
 have x0:W.cell? ⟨w.heap.size,0,none⟩ = some (.int .i64 p):=blk_cell k1 rfl
 have x1:W.cell? ⟨w.heap.size,1,none⟩ = some (.int .i64 s):=blk_cell k1 rfl
 have hB:=hid hB1
 clear hB1 k1
 by_cases h0:p = 0
 · subst h0
   go_enter Tryz.func69,Tryz.ntmps69
   go_wp2
   go_ret
   refine ⟨?_,hB.out⟩
   unfold lvlB
   by_cases hs:s = 0 <;> simp [hs]
 · have h0z:(p == 0) = false:=by rw [beq_eq_false_iff_ne];exact h0
   by_cases h1:0 < p
   · by_cases h2:(1:Int) ≤ s
     · go_enter Tryz.func69,Tryz.ntmps69
       go_wp2
       go_ret
       refine ⟨?_,hB.out⟩
       unfold lvlB
       have e1:(0 < s) = True:=by apply propext;simp;omega
       have e2:(s ≤ 3) = (s < 4):=by apply propext;omega
       simp [h0,h1,e1,e2]
     · go_enter Tryz.func69,Tryz.ntmps69
       go_wp2
       go_ret
       refine ⟨?_,hB.out⟩
       unfold lvlB
       have e1:¬ 0 < s:=by omega
       simp [h0,h1,e1]
   · go_enter Tryz.func69,Tryz.ntmps69
     go_wp2
     go_ret
     refine ⟨?_,hB.out⟩
     unfold lvlB
     have h1':¬ 0 < p:=by omega
     simp only [decide_eq_false h0,decide_eq_false h1',Bool.false_and,Bool.or_false]
     rfl
end Go.Proofs.YtbpnioehmohbcaaGreat
namespace Go.Proofs.YtbpnioehmohbcaaGreat
open Go.RowKit Go.Maps Go.Sort
def startB (g:Gm):Bool:=if g.nonts.length = 0 then decide (g.start = 0) else ntmB g g.start
set_option maxRecDepth 20000 in
set_option maxHeartbeats 8000000 in
theorem startK3 (rv nv lv pv:Value) (g:Gm) (w:World) (hV:GmV w rv nv lv pv g) (hl:g.rules.length ≤ 1000) (hl2:g.nonts.length ≤ 1000) :
 Calls Tryz.prog 51 #[gmA rv nv lv pv g.start] w fun e w' => e = .returned (.bool (startB g)) ∧ Below w.heap.size w w':=by
 obtain ⟨na,nc,rfl⟩:=hV.nonts.shape
 have hB1:=al' w (.cells #[rv,.slice na g.nonts.length nc,lv,pv,.int .i64 g.start] 27)
 obtain ⟨x0,x1,x2,x3,x4⟩:=cells5m (heap_new w (.cells #[rv,.slice na g.nonts.length nc,lv,pv,.int .i64 g.start] 27))
 obtain ⟨W,hW⟩:∃ x,w.alloc (.cells #[rv,.slice na g.nonts.length nc,lv,pv,.int .i64 g.start] 27) = x:=⟨_,rfl⟩
 rw [hW] at hB1 x0 x1 x2 x3 x4
 have G:=hid (nontK3 rv _ lv pv g g.start g.start W (hV.keep hB1) hl hl2)
 have hB:=hid hB1
 unfold startB
 generalize ntmB g g.start = R at *
 generalize g.start = st at *
 generalize g.nonts.length = nn at *
 clear hV hB1
 by_cases h0:nn = 0
 · subst h0
   rw [if_pos rfl]
   go_enter Tryz.func51,Tryz.ntmps51
   go_wp2
   go_ret
   exact ⟨by first | rfl | (by_cases hs:st = 0 <;> simp [hs]),hB.out⟩
 · have h0z:((nn:Int) == 0) = false:=by rw [beq_eq_false_iff_ne];omega
   rw [if_neg h0]
   go_enter Tryz.func51,Tryz.ntmps51
   go_wp2_with (go_at_call 70;refine G.out.mono ?_;clear G;rintro e w1 ⟨rfl,hc1⟩;have h1:=hid hc1;clear hc1)
   go_ret
   exact ⟨by first | rfl | simp,bl_step hB.out h1.out⟩
end Go.Proofs.YtbpnioehmohbcaaGreat
namespace Go.Proofs.YtbpnioehmohbcaaGreat
open Go.RowKit Go.Maps Go.Sort
set_option maxRecDepth 20000 in
theorem flds_lev : (Tryz.prog.fieldsOf 96).toList = [{ name := "Power", type := 3, offset := 0, embedded := false, tag := "", pkgPath := "", byteOffset := 0 }, { name := "Side", type := 3, offset := 1, embedded := false, tag := "", pkgPath := "", byteOffset := 8 }] := by kernel_rfl
set_option maxRecDepth 20000 in
theorem neqLev (a b:Int) (w:World):(binOp .neq 96 (.agg #[.int .i64 a,.int .i64 b]) (.agg #[.int .i64 0,.int .i64 0])).run Tryz.prog w = .ok (.bool (!(decide (a = 0) && decide (b = 0)))) w:=by
 have p0:∀ x0 x1:Int,(part 3 #[.int .i64 x0,.int .i64 x1] 0).run Tryz.prog w = .ok (.int .i64 x0) w:=fun _ _ => by simp [part,isAgg,run_underlying Tryz.underlying3]
 have p1:∀ x0 x1:Int,(part 3 #[.int .i64 x0,.int .i64 x1] 1).run Tryz.prog w = .ok (.int .i64 x1) w:=fun _ _ => by simp [part,isAgg,run_underlying Tryz.underlying3]
 have hi:=fun d x y => run_equalIn_int (P:=Tryz.prog) w d 3 .i64 .i64 x y Tryz.underlying3
 rw [run_neq_struct,run_equalIn_struct w 9999 _ _ _ (by kernel_rfl) (by kernel_rfl),flds_lev]
 by_cases h0:a = 0
 · by_cases h1:b = 0
   · subst h0 h1;simp [Op.eqFields,p0,p1,hi]
   · subst h0;simp [Op.eqFields,p0,p1,hi,h1]
 · simp [Op.eqFields,p0,hi,h0]
structure LevOK (g:Gm):Prop where
 len:g.levels.length = g.terms + 1
 lev:∀ i (h:i < g.levels.length),lvB i g.levels[i] = true
noncomputable def levsB (g:Gm):Bool:=open Classical in decide (LevOK g)
theorem levsB_no {g:Gm} (h:¬ LevOK g):levsB g = false:=by unfold levsB;exact @decide_eq_false _ (Classical.propDecidable _) h
theorem levsB_yes {g:Gm} (h:LevOK g):levsB g = true:=by unfold levsB;exact @decide_eq_true _ (Classical.propDecidable _) h
theorem lvB_zero (l:Int × Int):lvB 0 l = (decide (l.1 = 0) && decide (l.2 = 0)):=by unfold lvB;simp
theorem lvB_pos {i:Nat} (hi:i ≠ 0) (l:Int × Int):lvB i l = lvlB l:=by unfold lvB lvlB;simp [hi]
set_option maxRecDepth 20000 in
set_option maxHeartbeats 16000000 in
theorem levelsC (rv nv lv pv:Value) (g:Gm) (st:Int) (w:World) (hV:GmV w rv nv lv pv g) (hl:g.rules.length ≤ 1000) (hl2:g.levels.length ≤ 1000) :
 Calls Tryz.prog 50 #[gmA rv nv lv pv st] w fun e w' => e = .returned (.bool (levsB g)) ∧ Below w.heap.size w w':=by
 obtain ⟨la,lc,rfl⟩:=hV.levels.shape
 have hB1:=al' w (.cells #[rv,nv,.slice la g.levels.length lc,pv,.int .i64 st] 27)
 have k1:=heap_new w (.cells #[rv,nv,.slice la g.levels.length lc,pv,.int .i64 st] 27)
 obtain ⟨W,hW⟩:∃ x,w.alloc (.cells #[rv,nv,.slice la g.levels.length lc,pv,.int .i64 st] 27) = x:=⟨_,rfl⟩
 rw [hW] at hB1 k1
 obtain ⟨x0,x1,x2,x3,x4⟩:=cells5m k1
 have hk1:Hid (∀ u,Below W.heap.size W u → u.cell? ⟨w.heap.size,2,none⟩ = some (.slice la g.levels.length lc)):=hid (fun u hu => blk_cell (hs_keep k1 hu) rfl)
 have cA:Hid (∀ d os,Calls Tryz.prog 45 #[gmA rv nv (.slice la g.levels.length lc) pv st] (grow (redrawn W d) os) fun e w'' => e = .returned (.int .i64 (g.terms:Int)) ∧ ∃ p:Regrown,w'' = grow (redrawn W p.d) p.os):=hid (fun d os => Calls.regrown_of (gtermC rv nv _ pv g st _ (hV.keep (bl_step hB1 (below_regrown W d os))) hl))
 have hKl:Hid (∀ u,Below W.heap.size W u → ∀ k (hk:k < g.levels.length),∃ b o,la = some ⟨b,o,none⟩ ∧ u.cell? ⟨b,o + k * 2,none⟩ = some (.int .i64 g.levels[k].1) ∧ u.cell? ⟨b,o + k * 2 + 1,none⟩ = some (.int .i64 g.levels[k].2)):=hid (fun u hu k hk => by
  obtain ⟨b,o,e,-,hx⟩:=(hV.keep (bl_step hB1 hu)).levels.at hk
  exact ⟨b,o,e,hx.1,hx.2⟩)
 have hB:=hid hB1
 have ht:=terms_le g
 have hno:=hid (fun h => levsB_no (g:=g) h)
 have hyes:=hid (fun h => levsB_yes (g:=g) h)
 generalize levsB g = R at *
 have y0:=cell_regrown x0
 have y1:=cell_regrown x1
 have y2:=cell_regrown x2
 have y3:=cell_regrown x3
 have y4:=cell_regrown x4
 clear hV hB1 x0 x1 x2 x3 x4 k1
 by_cases hlen:g.levels.length = g.terms + 1
 · have hp:0 < g.levels.length:=by omega
   obtain ⟨b,o,e,z0,z1⟩:=hKl.out W (Below.refl _ _) 0 hp
   subst e
   rw [Nat.zero_mul,Nat.add_zero] at z0 z1
   have u0:=cell_regrown z0
   have u1:=cell_regrown z1
   have hq0:((g.levels.length:Int) == (g.terms:Int) + 1) = true:=by rw [beq_iff_eq];omega
   have hneq:=neqLev g.levels[0].1 g.levels[0].2
   have hlv0:=lvB_zero g.levels[0]
   cases hz:(decide (g.levels[0].1 = 0) && decide (g.levels[0].2 = 0)) with
   | false =>
    rw [hz] at hneq hlv0
    obtain rfl:=hno.out (fun h => by have:=h.lev 0 hp;rw [hlv0] at this;cases this)
    clear hz hlv0 hno hyes hKl hk1 z0 z1
    generalize g.levels[0].1 = l1 at *
    generalize g.levels[0].2 = l2 at *
    generalize g.levels.length = ln at *
    generalize g.terms = tm at *
    subst hlen
    go_enter Tryz.func50,Tryz.ntmps50
    go_wp2_with fail
    clear hW
    refine wp_region_quiet_below (by kernel_rfl) (by kernel_rfl) ?_
    repeat (first | go_big_quiet_step (exact cA.out _ _) | quiet_step (exact cA.out _ _))
    refine wpQuiet_nil ?_
    intro _ hw'
    obtain ⟨⟨dq,osq⟩,hw''⟩:=hw'
    subst hw''
    have hq:=hid (below_regrown W dq osq)
    generalize grow (redrawn W dq) osq = wz at *
    go_wp2
    go_ret
    exact ⟨rfl,bl_step hB.out hq.out⟩
   | true =>
    rw [hz] at hneq hlv0
    have hz0:g.levels[0] = (0,0):=by
     rw [Bool.and_eq_true,decide_eq_true_eq,decide_eq_true_eq] at hz
     exact Prod.ext hz.1 hz.2
    have hst:Hid (∀ k (hk:k < g.levels.length),lvlB g.levels[k] = true → lvB k g.levels[k] = true):=hid (fun k hk h => by
     rcases Nat.eq_zero_or_pos k with h0 | h0
     · subst h0;exact hlv0
     · rw [lvB_pos (by omega)];exact h)
    have hbd:Hid (∀ k (hk:k < g.levels.length),lvlB g.levels[k] = false → R = false):=hid (fun k hk h => hno.out (fun hO => by
     have:=hO.lev k hk
     rcases Nat.eq_zero_or_pos k with h0 | h0
     · subst h0;rw [hz0] at h;exact absurd h (by decide)
     · rw [lvB_pos (by omega),h] at this;cases this))
    have hgd:Hid ((∀ k (hk:k < g.levels.length),lvB k g.levels[k] = true) → R = true):=hid (fun h => hyes.out ⟨hlen,h⟩)
    have GL:=hid (fun k (hk:k < g.levels.length) u => levelK3 g.levels[k].1 g.levels[k].2 u)
    obtain ⟨ln,hln⟩:∃ n,Hid (g.levels.length = n):=⟨_,hid rfl⟩
    clear hz hlv0 hno hyes z0 z1 hz0
    generalize g.levels[0].1 = l1 at *
    generalize g.levels[0].2 = l2 at *
    generalize g.terms = tm at *
    rw [hln.out] at hl2 cA hk1 y2 hlen hp hq0 hW ⊢
    subst hlen
    go_enter Tryz.func50,Tryz.ntmps50
    go_wp2_with fail
    clear hW
    refine wp_region_quiet_below (by kernel_rfl) (by kernel_rfl) ?_
    repeat (first | go_big_quiet_step (exact cA.out _ _) | quiet_step (exact cA.out _ _))
    refine wpQuiet_nil ?_
    intro _ hw'
    obtain ⟨⟨dq,osq⟩,hw''⟩:=hw'
    subst hw''
    have hq:=hid (below_regrown W dq osq)
    generalize grow (redrawn W dq) osq = wz at *
    have q2:=hk1.out wz hq.out
    clear y0 y1 y2 y3 y4 u0 u1 cA hq0 hneq hp
    go_wp2
    obtain ⟨wo,hwo⟩:∃ x,x = wz:=⟨_,rfl⟩
    subst hwo
    go_loopw [23] (fun i wr => ∃ k:Nat,k ≤ tm + 1 ∧ i = .int .i64 (k:Int) ∧ Hid (∀ j (hj:j < g.levels.length),j < k → lvB j g.levels[j] = true) ∧ Hid (Below W.heap.size W wr)) (fun i _ => tm + 1 - (intOf i).toNat)
    case atStart => exact ⟨0,Nat.zero_le _,rfl,hid (fun _ _ h => absurd h (Nat.not_lt_zero _)),hq⟩
    case round =>
     obtain ⟨k,hk,rfl,hI,hbl⟩:=hrel
     by_cases hlt:k < tm + 1
     · have hltz:(k:Int) < ((tm + 1:Nat):Int):=by omega
       have hkl:k < g.levels.length:=by rw [hln.out];exact hlt
       obtain ⟨b',o',e',c0,c1⟩:=hKl.out wr hbl.out k hkl
       injection e' with e'
       injection e' with e1 e2 _
       subst e1 e2
       have hBa:=hid (bl_step hbl.out (al' wr (.cells #[.int .i64 g.levels[k].1,.int .i64 g.levels[k].2] 96)))
       have G:=hid (fun u => GL.out k hkl u)
       have hst9:=hid (hst.out k hkl)
       have hbd9:=hid (hbd.out k hkl)
       have hmore:Hid (lvB k g.levels[k] = true → ∀ j (hj:j < g.levels.length),j < k + 1 → lvB j g.levels[j] = true):=hid (fun h j hj h9 => by
        rcases Nat.lt_or_ge j k with h8 | h8
        · exact hI.out j hj h8
        · obtain rfl:j = k:=by omega
          exact h)
       clear hI
       cases hb:lvlB g.levels[k] with
       | true =>
        have hm9:=hid (hmore.out (hst9.out hb))
        rw [show lvlB (g.levels[k].1,g.levels[k].2) = true from hb] at G
        clear hst9 hbd9 hmore hb
        generalize g.levels[k].1 = v1 at *
        generalize g.levels[k].2 = v2 at *
        go_wp2_with (go_at_call 69;refine (G.out _).mono ?_;clear G;rintro e w4 ⟨rfl,hc4⟩;have h4:=hid (bl_step hBa.out hc4);clear hc4)
        go_roundw
        case rel => exact ⟨k + 1,by omega,by go_num,hm9,h4⟩
        case measure => simp [intOf];omega
       | false =>
        obtain rfl:=hbd9.out hb
        rw [show lvlB (g.levels[k].1,g.levels[k].2) = false from hb] at G
        clear hst9 hbd9 hmore hb
        generalize g.levels[k].1 = v1 at *
        generalize g.levels[k].2 = v2 at *
        go_wp2_with (go_at_call 69;refine (G.out _).mono ?_;clear G;rintro e w4 ⟨rfl,hc4⟩;have h4:=hid (bl_step hBa.out hc4);clear hc4)
        go_ret
        exact ⟨rfl,bl_step hB.out h4.out⟩
     · have hltz:¬ (k:Int) < ((tm + 1:Nat):Int):=by omega
       obtain rfl:=hgd.out (fun j hj => hI.out j hj (by rw [hln.out] at hj;omega))
       go_wp2
       go_ret
       exact ⟨rfl,bl_step hB.out hbl.out⟩
 · obtain rfl:=hno.out (fun h => hlen h.len)
   have hq0:((g.levels.length:Int) != (g.terms:Int) + 1) = true:=by rw [bne_iff_ne];omega
   clear hno hyes hKl hk1
   generalize g.levels.length = ln at *
   generalize g.terms = tm at *
   go_enter Tryz.func50,Tryz.ntmps50
   go_wp2_with fail
   clear hW
   refine wp_region_quiet_below (by kernel_rfl) (by kernel_rfl) ?_
   repeat (first | go_big_quiet_step (exact cA.out _ _) | quiet_step (exact cA.out _ _))
   refine wpQuiet_nil ?_
   intro _ hw'
   obtain ⟨⟨dq,osq⟩,hw''⟩:=hw'
   subst hw''
   have hq:=hid (below_regrown W dq osq)
   generalize grow (redrawn W dq) osq = wz at *
   go_wp2
   go_ret
   exact ⟨rfl,bl_step hB.out hq.out⟩
end Go.Proofs.YtbpnioehmohbcaaGreat
