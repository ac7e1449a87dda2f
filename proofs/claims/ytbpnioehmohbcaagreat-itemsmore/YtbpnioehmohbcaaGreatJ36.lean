/- The reference of layer 16: Goto's walk. Layer 16: what holds of values in a region that draws: a number a block tells whose it is. What is asked of package items; ItemsUnion's walk. topiarylaw16.wakes, of what the example is read to. -/
import Derived.Test.YtbpnioehmohbcaaGreatJ35
import Derived.Test.YtbpnioehmohbcaaGreatJ32
import Derived.Test.YtbpnioehmohbcaaGreatJ31
import Derived.Test.YtbpnioehmohbcaaGreatJ14
import Derived.Maps.AppendAt
namespace Go.Proofs.YtbpnioehmohbcaaGreat
open Go.RowKit Go.Maps Go.Sort
theorem mvL_take {g:Gm} {l:List It} {sym:Int} {k:Nat} (hk:k < l.length):mvL g (l.take (k + 1)) sym = mvL g (l.take k) sym ++ (if 0 < sym ∧ nxtG g l[k] = sym then [(l[k].1,l[k].2 + 1)] else []):=by
 unfold mvL
 rw [List.take_succ_eq_append_getElem hk,List.filter_append,List.map_append]
 congr 1
 by_cases h:0 < sym ∧ nxtG g l[k] = sym
 · rw [if_pos h,List.filter_cons_of_pos (by rw [Bool.and_eq_true,decide_eq_true_eq,decide_eq_true_eq];exact h)]
   rfl
 · rw [if_neg h,List.filter_cons_of_neg (by rw [Bool.and_eq_true,decide_eq_true_eq,decide_eq_true_eq];exact h)]
   rfl
theorem mvL_len (g:Gm) (l:List It) (sym:Int):(mvL g l sym).length ≤ l.length:=by
 unfold mvL
 rw [List.length_map]
 exact List.length_filter_le _ _
set_option maxRecDepth 100000 in
set_option maxHeartbeats 16000000 in
theorem refGoto (g:Gm) (rv nv lv pv v:Value) (l:List It) (sym:Int) (w:World) (hV:GmV w rv nv lv pv g) (hb:BndG g) (hr:RgtI g l) (hl:l.length ≤ 100000) (hI:Its w v l) :
 Calls Tryz.prog 21 #[gmA rv nv lv pv g.start,v,.int .i64 sym] w fun e w' => ∃ v',e = .returned v' ∧ OwnIt w' w.heap.size v' (gotL g l sym) ∧ Below w.heap.size w w':=by
 have hg:=hr.us.snd
 have GN:=hid (fun u (hu:Below w.heap.size w u) x hx => refNextI g _ _ _ _ x u (hV.keep hu) hb hx)
 have GO:=hid (fun u (hu:Below w.heap.size w u) v' l' (hl':l'.length ≤ 1000000) (h:Its u v' l') => refOfI g _ _ _ _ v' l' u (hV.keep hu) hb hg hl' h)
 have GC:=hid (fun u (hu:Below w.heap.size w u) => refClosure g _ _ _ _ v l u (hV.keep hu) hb hr hl (hI.keep hu))
 have hB1:=al' w (.cells #[rv,nv,lv,pv,.int .i64 g.start] 27)
 have k1:=heap_new w (.cells #[rv,nv,lv,pv,.int .i64 g.start] 27)
 obtain ⟨W,hW⟩:∃ x,w.alloc (.cells #[rv,nv,lv,pv,.int .i64 g.start] 27) = x:=⟨_,rfl⟩
 rw [hW] at hB1 k1
 have hk1:=hid (fun u (hu:Below W.heap.size W u) => cells5m (hs_keep k1 hu))
 have hB:=hid hB1
 obtain ⟨y0,y1,y2,y3,y4⟩:=hk1.out W (Below.refl _ W)
 have GC:=hid (GC.out W hB1)
 have hfin:=hid (ofI_goto hr.all sym)
 have hln:=hid (cloL_len hg l)
 have hal:=hid (fun x (hx:x ∈ cloL g l) => itB_of_clo hr.all ((cloL_mem hr.all).1 hx))
 have hdt:=hid (fun x (hx:x ∈ cloL g l) => by
  have h1:=itB_iff.1 (itB_of_clo hr.all ((cloL_mem hr.all).1 hx))
  have h2:=sidG_len hg h1.2.1
  exact (⟨h1.2.2.1,by have:=h1.2.2.2;omega⟩:0 ≤ x.2 ∧ x.2 ≤ 8))
 clear hV hb hg hB1 k1 hI hr
 generalize cloL g l = C at *
 have hst:=hid (fun k (hk:k < C.length) => mvL_take (g:=g) (sym:=sym) hk)
 have hml:=hid (fun k => Nat.le_trans (mvL_len g (C.take k) sym) (by rw [List.length_take];have:=hln.out;omega:(C.take k).length ≤ 369))
 have h00:Hid (mvL g (C.take 0) sym = []):=hid rfl
 have hend:Hid (mvL g (C.take C.length) sym = mvL g C sym):=hid (by rw [List.take_length])
 rw [← hfin.out]
 clear hfin
 obtain ⟨cl,hcl⟩:∃ n,Hid (C.length = n):=⟨_,hid rfl⟩
 have hln9:cl ≤ 369:=by rw [← hcl.out];exact hln.out
 generalize g.start = st at *
 go_enter Tryz.func21,Tryz.ntmps21
 go_wp2_with (go_at_call 19;refine GC.out.mono ?_;clear GC;rintro e w3 ⟨v3,rfl,hO3,hc3⟩;obtain ⟨ca,cc,rfl⟩:=(Its.of_row hO3).shape;have hc3:=hid hc3;have hO3:=hid hO3)
 clear hW y0 y1 y2 y3 y4
 have hO0:Hid (OwnIt w3 W.heap.size (.slice none 0 0) (mvL g (C.take 0) sym)):=hid (World.ownsRow_nil _ _ _ _)
 have b30:=hid (Below.refl w3.heap.size w3)
 have hIC:=hid (Its.of_row hO3.out)
 rw [hcl.out] at hIC ⊢
 clear hO3
 go_loopw [7,9] (fun v i wr => ∃ k:Nat,k ≤ cl ∧ i = .int .i64 (k:Int) ∧ Hid (OwnIt wr w3.heap.size v (mvL g (C.take k) sym)) ∧ Hid (Below w3.heap.size w3 wr)) (fun _ i _ => cl - (intOf i).toNat)
 case atStart => exact ⟨0,Nat.zero_le _,rfl,hid (World.ownsRow_nil _ _ _ _),b30⟩
 case round =>
  clear hO0 b30
  obtain ⟨k,hk,rfl,hO,hbl⟩:=hrel
  have hb5:=hid (bl_step hc3.out hbl.out)
  obtain ⟨y0,y1,y2,y3,y4⟩:=hk1.out wr hb5.out
  by_cases hlt:k < cl
  · have hltz:(k:Int) < (cl:Int):=by omega
    have hkl:k < C.length:=by rw [hcl.out];exact hlt
    have hstk:=hid (hst.out k hkl)
    by_cases hs0:0 < sym
    · have hat:=hIC.out.keep hbl.out
      obtain ⟨b,o,e,-,z0,z1⟩:=Lst.at hat hkl
      subst e
      obtain ⟨hd0,hd8⟩:=hdt.out _ (List.getElem_mem hkl)
      have hx:=hal.out _ (List.getElem_mem hkl)
      have cA:Hid (∀ d os,Calls Tryz.prog 16 #[gmA rv nv lv pv st,.agg #[.int .i64 C[k].1,.int .i64 C[k].2]] (grow (redrawn wr d) os) fun e w'' => e = .returned (.int .i64 (nxtG g C[k])) ∧ ∃ p:Regrown,w'' = grow (redrawn wr p.d) p.os):=hid (fun d os => Calls.regrown_of (GN.out _ (bl_step hB.out (bl_step hb5.out (below_regrown wr d os))) _ hx))
      have r0:=cell_regrown z0
      have r1:=cell_regrown z1
      have y0:=cell_regrown y0
      have y1:=cell_regrown y1
      have y2:=cell_regrown y2
      have y3:=cell_regrown y3
      have y4:=cell_regrown y4
      have hsd:=decide_eq_true hs0
      clear hat hx
      by_cases hd:nxtG g C[k] = sym
      · have hq:(nxtG g C[k] == sym) = true:=beq_iff_eq.2 hd
        have hS:=hstk.out
        rw [if_pos ⟨hs0,hd⟩] at hS
        have hS:=hid hS
        have hm:=hml.out k
        clear hd hstk
        generalize nxtG g C[k] = nx at *
        generalize C[k].1 = x1 at *
        generalize C[k].2 = x2 at *
        go_wp2_with fail
        refine wp_region_quiet_below (by kernel_rfl) (by kernel_rfl) ?_
        repeat (first | go_big_quiet_step (exact cA.out _ _) | quiet_step (exact cA.out _ _))
        refine wpQuiet_nil ?_
        intro _ hw'
        obtain ⟨⟨dq,osq⟩,hw''⟩:=hw'
        subst hw''
        have hb6:=hid (bl_step hbl.out (below_regrown wr dq osq))
        have hO6:=hid (own_below hO.out (below_regrown wr dq osq))
        have z0:=keep_cell (below_regrown wr dq osq) z0
        have z1:=keep_cell (below_regrown wr dq osq) z1
        generalize grow (redrawn wr dq) osq = w6 at *
        have hwr:IntKind.i64.wrap (x2 + 1) = x2 + 1:=IntWalk.i64_in _ (by omega)
        have hwH:=hid hwr
        obtain ⟨g9,c9,w9,hrun,hO9,hb9⟩:=run_appI1 (x:=x1) (y:=IntKind.i64.wrap (x2 + 1)) hO6.out (by omega) hb6.out.size
        have hO9:=hid hO9
        have hb9:=hid (hb6.out.trans hb9)
        rw [hwr] at hO9
        generalize (mvL g (C.take k) sym).length = ml at *
        clear r0 r1 y0 y1 y2 y3 y4 hq cA hO hbl hb5 hwr hd0 hd8
        go_wp2_with fail
        apply collapseI
        case h =>
         intro rest
         go_region_law (refine step_runI (by rfl) (.tmp 31) (.tmp 44) 36 (by rfl) _ _ (by rfl) (by rfl) hrun ?_)
         all_goals exact rest.out
        case pf =>
         go_wp2
         go_roundw
         case rel => exact ⟨k + 1,by omega,by go_num,hid (by rw [hS.out];exact hO9.out),hb9⟩
         case measure => simp [intOf];omega
      · have hq:(nxtG g C[k] == sym) = false:=beq_eq_false_iff_ne.2 hd
        have hS:=hstk.out
        rw [if_neg (fun h => hd h.2),List.append_nil] at hS
        have hS:=hid hS
        clear hd hstk
        generalize nxtG g C[k] = nx at *
        generalize C[k].1 = x1 at *
        generalize C[k].2 = x2 at *
        go_wp2_with fail
        refine wp_region_quiet_below (by kernel_rfl) (by kernel_rfl) ?_
        repeat (first | go_big_quiet_step (exact cA.out _ _) | quiet_step (exact cA.out _ _))
        refine wpQuiet_nil ?_
        intro _ hw'
        obtain ⟨⟨dq,osq⟩,hw''⟩:=hw'
        subst hw''
        have hb6:=hid (bl_step hbl.out (below_regrown wr dq osq))
        have hO6:=hid (own_below hO.out (below_regrown wr dq osq))
        generalize grow (redrawn wr dq) osq = w6 at *
        clear r0 r1 z0 z1 y0 y1 y2 y3 y4 hq cA hO hbl
        go_wp2
        go_roundw
        case rel => exact ⟨k + 1,by omega,by go_num,hid (by rw [hS.out];exact hO6.out),hb6⟩
        case measure => simp [intOf];omega
    · have hS:=hstk.out
      rw [if_neg (fun h => hs0 h.1),List.append_nil] at hS
      have hS:=hid hS
      have hsd:=decide_eq_false hs0
      have y0:=cell_regrown y0
      have y1:=cell_regrown y1
      have y2:=cell_regrown y2
      have y3:=cell_regrown y3
      have y4:=cell_regrown y4
      clear hstk
      go_wp2_with fail
      refine wp_region_quiet_below (by kernel_rfl) (by kernel_rfl) ?_
      repeat (first | go_big_quiet_step (fail) | quiet_step (fail))
      refine wpQuiet_nil ?_
      intro _ hw'
      obtain ⟨⟨dq,osq⟩,hw''⟩:=hw'
      subst hw''
      have hb6:=hid (bl_step hbl.out (below_regrown wr dq osq))
      have hO6:=hid (own_below hO.out (below_regrown wr dq osq))
      generalize grow (redrawn wr dq) osq = w6 at *
      clear y0 y1 y2 y3 y4 hO hbl
      go_wp2
      go_roundw
      case rel => exact ⟨k + 1,by omega,by go_num,hid (by rw [hS.out];exact hO6.out),hb6⟩
      case measure => simp [intOf];omega
  · have hltz:¬ (k:Int) < (cl:Int):=by omega
    obtain rfl:k = cl:=by omega
    have hO9:=hid hO.out
    rw [← hcl.out,hend.out] at hO9
    have hm:=hml.out k
    rw [← hcl.out,hend.out] at hm
    have G:=hid (GO.out wr (bl_step hB.out hb5.out) _ (mvL g C sym) (by omega) (Its.of_row hO9.out))
    clear hO hO9
    go_wp2_with (go_at_call 22;refine G.out.mono ?_;clear G;rintro e w5 ⟨v5,rfl,hO5,hc5⟩;have hO5:=hid hO5;have hc5:=hid hc5)
    go_ret
    exact ⟨_,rfl,own_base hO5.out (bl_step hB.out hb5.out).size,bl_step hB.out (bl_step hb5.out hc5.out)⟩
end Go.Proofs.YtbpnioehmohbcaaGreat
namespace Go.Proofs.YtbpnioehmohbcaaGreat
open Go.RowKit Go.Maps Go.Sort
structure TagI (w0:World) (τ:Nat → Nat) (w:World):Prop where
 low:Below w0.heap.size w0 w
 new:∀ k,w.heap.size ≤ k → τ k = 0
structure StepT (w0:World) (t:Nat) (τ:Nat → Nat) (w:World) (τ':Nat → Nat) (w':World):Prop where
 size:w.heap.size ≤ w'.heap.size
 blk:∀ k,k < w.heap.size → (w0.heap.size ≤ k → τ k ≠ t) → w'.heap[k]? = w.heap[k]?
 tag:∀ k,k < w.heap.size → τ k ≠ t → τ' k = τ k
structure RowT (w0:World) (t:Nat) (l:List It) (τ:Nat → Nat) (w:World) (v:Value):Prop where
 own:OwnIt w w0.heap.size v l
 tag:∀ k,v.ownBlock = some k → τ k = t
theorem Its.stepB {w w':World} {v:Value} {l:List It} (h:Its w v l) (hs:w.heap.size ≤ w'.heap.size) (hb:∀ k,v.ownBlock = some k → k < w.heap.size → w'.heap[k]? = w.heap[k]?):Its w' v l:=by
 obtain ⟨a,cap,rfl,hc,hn,hat⟩:=h
 refine ⟨a,cap,rfl,hc,hn,fun j hj => ?_⟩
 obtain ⟨b,o,rfl,hlt,h1,h2⟩:=hat j hj
 have he:∀ p,w'.cell? ⟨b,p,none⟩ = w.cell? ⟨b,p,none⟩:=fun p => World.cell?_of_block (w:=w) (hb b rfl hlt)
 exact ⟨b,o,rfl,Nat.lt_of_lt_of_le hlt hs,by rw [he];exact h1,by rw [he];exact h2⟩
theorem Nums.stepB {w w':World} {v:Value} {l:List Int} (h:Nums w v l) (hs:w.heap.size ≤ w'.heap.size) (hb:∀ k,v.ownBlock = some k → k < w.heap.size → w'.heap[k]? = w.heap[k]?):Nums w' v l:=by
 obtain ⟨a,cap,rfl,hc,hn,hat⟩:=h
 refine ⟨a,cap,rfl,hc,hn,fun j hj => ?_⟩
 obtain ⟨b,o,rfl,hlt,h1⟩:=hat j hj
 have he:∀ p,w'.cell? ⟨b,p,none⟩ = w.cell? ⟨b,p,none⟩:=fun p => World.cell?_of_block (w:=w) (hb b rfl hlt)
 exact ⟨b,o,rfl,Nat.lt_of_lt_of_le hlt hs,by rw [he];exact h1⟩
def StabB (H:World → Value → Prop):Prop:=∀ w w' v,H w v → w.heap.size ≤ w'.heap.size → (∀ k,v.ownBlock = some k → k < w.heap.size → w'.heap[k]? = w.heap[k]?) → H w' v
theorem its_stab (l:List It):StabB fun w v => Its w v l:=fun _ _ _ h hs hb => h.stepB hs hb
theorem nums_stab (l:List Int):StabB fun w v => Nums w v l:=fun _ _ _ h hs hb => h.stepB hs hb
def StabL (H:World → Value → Prop):Prop:=∀ w w' v,H w v → w.heap.size ≤ w'.heap.size → (∀ k,k < w.heap.size → w'.heap[k]? = w.heap[k]?) → H w' v
theorem StabB.low {H:World → Value → Prop} (h:StabB H):StabL H:=fun w w' v h1 hs hb => h w w' v h1 hs (fun k _ hk => hb k hk)
structure Cl where
 val:Option Value
 own:Option (Nat × List It)
 off:Option { H:World → Value → Prop // StabB H }
 low:Option { H:World → Value → Prop // StabL H }
def OffT (w0:World) (H:World → Value → Prop) (τ:Nat → Nat) (w:World) (v:Value):Prop:=(∀ w',H w' v) ∨ (H w v ∧ ∀ k,v.ownBlock = some k → k < w.heap.size ∧ (w0.heap.size ≤ k → τ k = 0))
def Cl.holds (c:Cl) (w0:World) (τ:Nat → Nat) (w:World) (v:Value):Prop:=
 (∀ V,c.val = some V → v = V) ∧ (∀ t l,c.own = some (t,l) → RowT w0 t l τ w v) ∧ (∀ H,c.off = some H → OffT w0 H.1 τ w v) ∧ ∀ H,c.low = some H → H.1 w v
theorem OffT.at {w0:World} {H:World → Value → Prop} {τ:Nat → Nat} {w:World} {v:Value} (h:OffT w0 H τ w v):H w v:=h.elim (fun h => h w) (fun h => h.1)
def clV (V:Value):Cl:=⟨some V,none,none,none⟩
def clO (t:Nat) (l:List It):Cl:=⟨none,some (t,l),none,none⟩
def clI (l:List It):Cl:=⟨none,none,some ⟨_,its_stab l⟩,none⟩
def clIL (l:List It):Cl:=⟨none,none,none,some ⟨_,(its_stab l).low⟩⟩
def clNL (l:List Int):Cl:=⟨none,none,none,some ⟨_,(nums_stab l).low⟩⟩
def clA:Cl:=⟨none,none,none,none⟩
theorem Cl.step {c:Cl} {w0:World} {t:Nat} {τ τ':Nat → Nat} {w w':World} {v:Value} (h:c.holds w0 τ w v) (hs:StepT w0 t τ w τ' w') (ht:t ≠ 0) (hc:∀ t' l,c.own = some (t',l) → t' ≠ t) (hlw:c.low = none ∨ ∀ k,k < w.heap.size → w'.heap[k]? = w.heap[k]?):c.holds w0 τ' w' v:=by
 refine ⟨h.1,fun t' l e => ?_,fun H e => ?_,fun H e => ?_⟩
 · have ho:=h.2.1 t' l e
   have hlt:∀ k,v.ownBlock = some k → k < w.heap.size:=fun k hk => (ho.own.lt k hk).2
   exact ⟨own_keep ho.own fun k hk => hs.blk k (hlt k hk) fun _ => by rw [ho.tag k hk];exact hc t' l e,fun k hk => by rw [hs.tag k (hlt k hk) (by rw [ho.tag k hk];exact hc t' l e)];exact ho.tag k hk⟩
 · rcases h.2.2.1 H e with h1 | ⟨h1,h2⟩
   · exact .inl h1
   · refine .inr ⟨H.2 w w' v h1 hs.size fun k hk hlt => hs.blk k hlt fun hB => by rw [(h2 k hk).2 hB];exact fun e => ht e.symm,fun k hk => ?_⟩
     have hlt:=(h2 k hk).1
     exact ⟨Nat.lt_of_lt_of_le hlt hs.size,fun hB => by rw [hs.tag k hlt (by rw [(h2 k hk).2 hB];exact fun e => ht e.symm)];exact (h2 k hk).2 hB⟩
 · rcases hlw with h1 | h1
   · rw [h1] at e;cases e
   · exact H.2 w w' v (h.2.2.2 H e) hs.size h1
theorem holdsV (V:Value) (w0:World) (τ:Nat → Nat) (w:World):(clV V).holds w0 τ w V:=⟨fun _ e => (by injection e),fun _ _ e => (by cases e),fun _ e => (by cases e),fun _ e => (by cases e)⟩
theorem valOf {V v:Value} {w0:World} {τ:Nat → Nat} {w:World} (h:(clV V).holds w0 τ w v):v = V:=h.1 V rfl
theorem rowOf {t:Nat} {l:List It} {v:Value} {w0:World} {τ:Nat → Nat} {w:World} (h:(clO t l).holds w0 τ w v):RowT w0 t l τ w v:=h.2.1 t l rfl
theorem itsOf {l:List It} {v:Value} {w0:World} {τ:Nat → Nat} {w:World} (h:(clI l).holds w0 τ w v):Its w v l:=(h.2.2.1 _ rfl).at
theorem holdsO {t:Nat} {l:List It} {v:Value} {w0:World} {τ:Nat → Nat} {w:World} (h:RowT w0 t l τ w v):(clO t l).holds w0 τ w v:=⟨fun _ e => (by cases e),fun _ _ e => (by cases e;exact h),fun _ e => (by cases e),fun _ e => (by cases e)⟩
theorem holdsI {l:List It} {v:Value} {w0:World} {τ:Nat → Nat} {w:World} (h:OffT w0 (fun w v => Its w v l) τ w v):(clI l).holds w0 τ w v:=⟨fun _ e => (by cases e),fun _ _ e => (by cases e),fun _ e => (by cases e;exact h),fun _ e => (by cases e)⟩
theorem itsLOf {l:List It} {v:Value} {w0:World} {τ:Nat → Nat} {w:World} (h:(clIL l).holds w0 τ w v):Its w v l:=h.2.2.2 _ rfl
theorem numsLOf {l:List Int} {v:Value} {w0:World} {τ:Nat → Nat} {w:World} (h:(clNL l).holds w0 τ w v):Nums w v l:=h.2.2.2 _ rfl
theorem holdsIL {l:List It} {v:Value} {w0:World} {τ:Nat → Nat} {w:World} (h:Its w v l):(clIL l).holds w0 τ w v:=⟨fun _ e => (by cases e),fun _ _ e => (by cases e),fun _ e => (by cases e),fun _ e => (by cases e;exact h)⟩
theorem holdsNL {l:List Int} {v:Value} {w0:World} {τ:Nat → Nat} {w:World} (h:Nums w v l):(clNL l).holds w0 τ w v:=⟨fun _ e => (by cases e),fun _ _ e => (by cases e),fun _ e => (by cases e),fun _ e => (by cases e;exact h)⟩
def NewB (B:Nat) (w:World) (v:Value):Prop:=∀ k,v.ownBlock = some k → B ≤ k ∧ k < w.heap.size
theorem TagI.startD (w:World):TagI w (fun _ => 0) w.drew:=⟨(Below.refl _ _).drew,fun _ _ => rfl⟩
theorem TagI.call {w0 w w':World} {τ:Nat → Nat} (h:TagI w0 τ w) (hb:Below w.heap.size w w'):TagI w0 τ w' ∧ ∀ t,StepT w0 t τ w τ w':=
 ⟨⟨bl_step h.low hb,fun k hk => h.new k (Nat.le_trans hb.size hk)⟩,fun _ => ⟨hb.size,fun k hk _ => hb.block k hk,fun _ _ _ => rfl⟩⟩
theorem OffT.fresh {w0 w w':World} {τ:Nat → Nat} {H:World → Value → Prop} {v:Value} (h:TagI w0 τ w) (hH:H w' v) (hn:NewB w.heap.size w' v):OffT w0 H τ w' v:=
 .inr ⟨hH,fun k hk => ⟨(hn k hk).2,fun _ => h.new k (hn k hk).1⟩⟩
theorem its_empty {w:World} {v:Value} (h:Its w v []) (w':World):Its w' v []:=by
 obtain ⟨a,c,rfl,h1,h2,-⟩:=h
 exact ⟨a,c,rfl,h1,h2,fun j hj => absurd hj (Nat.not_lt_zero _)⟩
theorem TagI.lit0 {w0 w:World} {τ:Nat → Nat} (h:TagI w0 τ w) (t:Nat):TagI w0 (fun k => if k = w.heap.size then t else τ k) (w.alloc (.cells #[] 29)) ∧ (∀ t',StepT w0 t' τ w (fun k => if k = w.heap.size then t else τ k) (w.alloc (.cells #[] 29))) ∧ RowT w0 t [] (fun k => if k = w.heap.size then t else τ k) (w.alloc (.cells #[] 29)) (.slice (some ⟨w.heap.size,0,none⟩) 0 0):=by
 have hal:=al' w (.cells #[] 29)
 refine ⟨⟨bl_step h.low hal,fun k hk => ?_⟩,fun t' => ⟨hal.size,fun k hk _ => hal.block k hk,fun k hk _ => if_neg (by omega)⟩,⟨own_base (World.ownsRow_lit w #[] 0 (Nat.le_refl _) (by unfold maxLen;omega) rfl) h.low.size,fun k e => ?_⟩⟩
 · rw [World.size_alloc] at hk
   rw [if_neg (by omega)]
   exact h.new k (by omega)
 · have e:w.heap.size = k:=by injection e
   subst e
   exact if_pos rfl
set_option maxRecDepth 20000 in
theorem TagI.app {w0 w:World} {τ:Nat → Nat} (h:TagI w0 τ w) {t:Nat} (t':Nat) {l1 l2:List It} {v vx:Value} (ho:RowT w0 t l1 τ w v) (hx:Its w vx l2) (hl:l1.length + l2.length ≤ 4000000) :
 ∃ v' w' τ',(Builtin.append_ #[36,36] 36 #[v,vx]).run Tryz.prog w = .ok v' w' ∧ TagI w0 τ' w' ∧ StepT w0 t τ w τ' w' ∧ RowT w0 t' (l1 ++ l2) τ' w' v':=by
 obtain ⟨i0,hi,hz0,hz1,hz2⟩:=info_parts infoIt
 have hlt:∀ k,v.ownBlock = some k → w0.heap.size ≤ k ∧ k < w.heap.size:=fun k hk => ho.own.lt k hk
 have key:∀ v' w',(Builtin.append_ #[36,36] 36 #[v,vx]).run Tryz.prog w = .ok v' w' → OwnIt w' w0.heap.size v' (l1 ++ l2) → w.grownBy w' v.ownBlock → (v'.ownBlock = v.ownBlock ∨ v'.ownBlock = some w.heap.size) →
  ∃ v' w' τ',(Builtin.append_ #[36,36] 36 #[v,vx]).run Tryz.prog w = .ok v' w' ∧ TagI w0 τ' w' ∧ StepT w0 t τ w τ' w' ∧ RowT w0 t' (l1 ++ l2) τ' w' v':=by
  intro v' w' hr hO hg hloc
  have hlow:Below w0.heap.size w0 w':=h.low.grown hg h.low.size fun k hk => (hlt k hk).1
  refine ⟨v',w',fun k => if v'.ownBlock = some k then t' else τ k,hr,⟨hlow,fun k hk => ?_⟩,⟨hg.size,fun k hk hn => hg.block k hk fun e => ?_,fun k hk hn => if_neg fun e => ?_⟩,⟨hO,fun k hk => if_pos hk⟩⟩
  · show (if v'.ownBlock = some k then t' else τ k) = 0
    rw [if_neg (fun e => Nat.lt_irrefl _ (Nat.lt_of_lt_of_le (hO.lt k e).2 hk))]
    exact h.new k (Nat.le_trans hg.size hk)
  · have e:=e.symm
    exact hn (hlt k e).1 (ho.tag k e)
  · rcases hloc with hl1 | hl1
    · exact hn (ho.tag k (by rw [← hl1];exact e))
    · rw [hl1] at e
      injection e with e
      omega
 rcases hx.parts with ⟨rfl,rfl⟩ | ⟨ad,cap,rfl,hnews⟩
 · exact key v w (run_append_owned_none (P:=Tryz.prog) (w:=w) _ 36 36 29 i0 2 Tryz.underlying36 hi _ _ _ ho.own) (by rw [List.append_nil];exact ho.own) ⟨rfl,rfl,rfl,Nat.le_refl _,fun _ _ _ => rfl⟩ (.inl rfl)
 · obtain ⟨v',w',hr,hO,hg,-,hloc⟩:=run_append_own_at (P:=Tryz.prog) w w0.heap.size 36 36 29 i0 (.agg #[.int .i64 0,.int .i64 0]) 2 16 Tryz.underlying36 hi hz0 hz1 hz2 rfl (by decide) _ _ _ ho.own ad l2.length cap (itCells l2) (itCells_len l2) hnews (itCells_one l2) (by unfold maxLen;omega) (by omega) h.low.size
   exact key v' w' hr (by unfold OwnIt;rw [itCells_app,List.length_append];exact hO) hg hloc
def ownOK (C:List Cl) (use:Nat → Option Nat) (i t:Nat):Bool:=(List.range C.length).all fun j => decide (j = i) || decide (use j = some i) || match (C.getD j clA).own with
 | some p => p.1 != t
 | none => (C.getD j clA).low.isNone
theorem ownOK_at {C:List Cl} {use:Nat → Option Nat} {i t:Nat} (h:ownOK C use i t = true) {j:Nat} (hj:j ≠ i) (hu:use j ≠ some i) {t':Nat} {l:List It} (e:(C.getD j clA).own = some (t',l)):t' ≠ t:=by
 rcases Nat.lt_or_ge j C.length with hl | hl
 · unfold ownOK at h
   rw [List.all_eq_true] at h
   have:=h j (List.mem_range.2 hl)
   rw [e,decide_eq_false hj,decide_eq_false hu] at this
   simpa using this
 · rw [List.getD_eq_getElem?_getD,List.getElem?_eq_none hl] at e
   cases e
def Cl.good (c:Cl):Bool:=c.own.isNone || c.low.isNone
theorem ownOK_low {C:List Cl} {use:Nat → Option Nat} {i t:Nat} (hg:C.all Cl.good = true) (h:ownOK C use i t = true) {j:Nat} (hj:j ≠ i) (hu:use j ≠ some i):(C.getD j clA).low = none:=by
 rcases Nat.lt_or_ge j C.length with hl | hl
 · unfold ownOK at h
   rw [List.all_eq_true] at h hg
   have h1:=h j (List.mem_range.2 hl)
   have h2:=hg C[j] (List.getElem_mem hl)
   have e:C.getD j clA = C[j]:=by rw [List.getD_eq_getElem?_getD,List.getElem?_eq_getElem hl,Option.getD_some]
   rw [e,decide_eq_false hj,decide_eq_false hu] at h1
   rw [e]
   unfold Cl.good at h2
   cases ho:C[j].own with
   | none => rw [ho] at h1;simpa using h1
   | some p => rw [ho] at h2;simpa using h2
 · rw [List.getD_eq_getElem?_getD,List.getElem?_eq_none hl]
   rfl
def topT:List Cl → Nat
 | [] => 1
 | c :: C => (match c.own with | some p => p.1 | none => 0) + topT C
theorem topT_pos:∀ C,1 ≤ topT C
 | [] => Nat.le_refl _
 | c :: C => by have:=topT_pos C;unfold topT;omega
theorem topT_lt:∀ (C:List Cl) (j t':Nat) (l:List It),(C.getD j clA).own = some (t',l) → t' < topT C
 | [],j,t',l,e => by cases e
 | c :: C,0,t',l,e => by
  have e:c.own = some (t',l):=e
  have:=topT_pos C
  unfold topT
  rw [e]
  show t' < t' + topT C
  omega
 | c :: C,j + 1,t',l,e => by
  have h1:=topT_lt C j t' l e
  unfold topT
  omega
theorem topT_ne {C:List Cl} {j t':Nat} {l:List It} (e:(C.getD j clA).own = some (t',l)):t' ≠ topT C:=Nat.ne_of_lt (topT_lt C j t' l e)
section
variable {P:Program} {Q:Exit → Act → World → Prop}
def clOb (P:Program) (Q:Exit → Act → World → Prop) (w0:World) (C:List Cl) (use:Nat → Option Nat) (l:List Oper) (A:(Nat → Value) → Act) (i:Nat) (o:Oper):Prop:=
 ∀ (xs:Nat → Value) (τ:Nat → Nat) (w:World) (a:Act),A xs = a → TagI w0 τ w → (∀ j,(o.after.toList.any fun e => Region.binds .any e && decide (e.on = j) && (decide (use j = none) || decide (use j = some i))) = true → (C.getD j clA).holds w0 τ w (xs j)) →
  ∀ K:Act → World → Prop,(∀ v τ' w',TagI w0 τ' w' → ((∀ t,StepT w0 t τ w τ' w') ∨ ∃ t,t ≠ 0 ∧ StepT w0 t τ w τ' w' ∧ ownOK C use i t = true) → (C.getD i clA).holds w0 τ' w' v → K (a.put o.dst v) w') →
   if Region.wanted o (yielded l.toArray a.tmps) = true then o.wp P a w K Q else K (a.put o.dst undef) w
theorem wp_region_cl (C:List Cl) (use:Nat → Option Nat) {A:(Nat → Value) → Act} {id:Nat} {l:List Oper} {a0:Act} {w0:World} (hm:P.follows .mixedOrders = true) (hB:rgB l = true) (hgd:C.all Cl.good = true)
 (hA:∀ xs,putL l 0 xs a0 = A xs) (hop:rgAll (clOb P Q w0 C use l A) 0 l)
 (hfin:∀ xs τ w a,A xs = a → TagI w0 τ w → (∀ j,(decide (j < l.length) && (match use j with | none => true | some k => decide (l.length ≤ k))) = true → (C.getD j clA).holds w0 τ w (xs j)) → Q .normal a w):(Code.region id l.toArray true).wp P Q a0 w0:=by
 refine wp_region_rg (G:=Nat → Nat) (fun τ w => TagI w0 τ w) (fun i τ w v => (C.getD i clA).holds w0 τ w v) use (fun _ => 0) hm hB hA (TagI.startD w0) ?_ (fun xs τ w h1 h2 => hfin xs τ w (A xs) rfl h1 (fun j hj => ?_))
 · have:∀ (l':List Oper) (k:Nat),rgAll (clOb P Q w0 C use l A) k l' → rgAll (rgOb P Q (fun τ w => TagI w0 τ w) (fun i τ w v => (C.getD i clA).holds w0 τ w v) use l A) k l':=by
    intro l'
    induction l' with
    | nil => intro k _;trivial
    | cons o l' ih =>
     intro k h
     refine ⟨?_,ih (k + 1) h.2⟩
     intro xs τ w hI hd K hK
     refine h.1 xs τ w (A xs) rfl hI (fun j hj => ?_) K (fun v τ' w' hI' hs hv => hK v τ' w' hI' hv (fun j u hj hu hh => ?_))
     · rw [List.any_eq_true] at hj
       obtain ⟨e,he,h2⟩:=hj
       simp only [Bool.and_eq_true,Bool.or_eq_true,decide_eq_true_eq] at h2
       obtain ⟨⟨hb,rfl⟩,hu⟩:=h2
       exact hd e he hb hu
     · rcases hs with hs | ⟨t,ht,hs,hok⟩
       · exact Cl.step hh (hs (topT C)) (by have:=topT_pos C;omega) (fun t' l e => topT_ne e) (.inr fun k hk => (hs (τ k + 1)).blk k hk fun _ => by omega)
       · exact Cl.step hh hs ht (fun t' l e => ownOK_at hok hj hu e) (.inl (ownOK_low hgd hok hj hu))
   exact this l 0 hop
 · rw [Bool.and_eq_true,decide_eq_true_eq] at hj
   refine h2 j hj.1 (fun k hk => ?_)
   have:=hj.2
   rw [hk] at this
   simpa using this
end
theorem StepT.refl (w0:World) (τ:Nat → Nat) (w:World):∀ t,StepT w0 t τ w τ w:=fun _ => ⟨Nat.le_refl _,fun _ _ _ => rfl,fun _ _ _ => rfl⟩
theorem TagI.lit1 {w0 w:World} {τ:Nat → Nat} (h:TagI w0 τ w) (a b:Int):TagI w0 τ (w.alloc (.cells #[.int .i64 a,.int .i64 b] 29)) ∧ (∀ t,StepT w0 t τ w τ (w.alloc (.cells #[.int .i64 a,.int .i64 b] 29))) ∧ OffT w0 (fun w v => Its w v [(a,b)]) τ (w.alloc (.cells #[.int .i64 a,.int .i64 b] 29)) (.slice (some ⟨w.heap.size,0,none⟩) 1 1):=by
 obtain ⟨h1,h2⟩:=h.call (al' w (.cells #[.int .i64 a,.int .i64 b] 29))
 refine ⟨h1,h2,.fresh h (Its.lit1 w a b) fun k e => ?_⟩
 have e:w.heap.size = k:=by injection e
 subst e
 exact ⟨Nat.le_refl _,by rw [World.size_alloc];omega⟩
end Go.Proofs.YtbpnioehmohbcaaGreat
namespace Go.Proofs.YtbpnioehmohbcaaGreat
open Go.RowKit Go.Maps Go.Sort
theorem Fits12.bnd {g:Gm} (h:Fits12 g):BndG g where
 rules:=by have:=h.rules;omega
 nonts:=by have:=h.nonts;omega
 levels:=by have:=h.levels;omega
 prods:=by have:=h.prods;omega
 re r hr:=by
  obtain ⟨j,hj,e⟩:=List.getElem_of_mem hr
  have:=(h.rule j hj).1
  rw [e] at this
  omega
 right p hp:=by
  obtain ⟨j,hj,e⟩:=List.getElem_of_mem hp
  have:=h.prod j hj
  rw [e] at this
  omega
set_option maxRecDepth 20000 in
theorem Fits12.names {g:Gm} (h:Fits12 g):∀ t ∈ g.allN,t.length ≤ 1000000:=fun t ht => by
 unfold Gm.allN at ht
 rw [List.mem_append,List.mem_map] at ht
 rcases ht with ⟨r,hr,rfl⟩ | ht
 · obtain ⟨j,hj,rfl⟩:=List.getElem_of_mem hr
   have:=(h.rule j hj).2
   omega
 · obtain ⟨j,hj,rfl⟩:=List.getElem_of_mem ht
   have:=h.nont j hj
   omega
def ProdI (g:Gm) (p:Int):Prop:=-1 ≤ p ∧ p < (g.prods.length:Int)
structure ItmOK:Prop where
 right:∀ (g:Gm) (rv nv lv pv v:Value) (l:List It) (u:World),Fits12 g → GmV u rv nv lv pv g → Its u v l → l.length ≤ 1000 → Calls Tryz.prog 12 #[gmA rv nv lv pv g.start,v] u fun e w' => e = .returned (.bool (rgtB g l)) ∧ Below u.heap.size u w'
 sideYes:∀ (g:Gm) (rv nv lv pv:Value) (p:Int) (u:World),Fits12 g → UsG g → ProdI g p → GmV u rv nv lv pv g → Calls Tryz.prog 10 #[gmA rv nv lv pv g.start,.int .i64 p] u fun e w' => ∃ v,e = .returned v ∧ Nums w' v (sidG g p) ∧ Below u.heap.size u w'
 sideNo:∀ (g:Gm) (rv nv lv pv:Value) (p:Int) (u:World),Fits12 g → ¬ (UsG g ∧ ProdI g p) → GmV u rv nv lv pv g → Calls Tryz.prog 10 #[gmA rv nv lv pv g.start,.int .i64 p] u fun e w' => ∃ v,e = .returned v ∧ Nums w' v [] ∧ Below u.heap.size u w'
 nextYes:∀ (g:Gm) (rv nv lv pv:Value) (x:It) (u:World),Fits12 g → UsG g → itB g x = true → GmV u rv nv lv pv g → Calls Tryz.prog 11 #[gmA rv nv lv pv g.start,itV x] u fun e w' => e = .returned (.int .i64 (nxtG g x)) ∧ Below u.heap.size u w'
 nextNo:∀ (g:Gm) (rv nv lv pv:Value) (x:It) (u:World),Fits12 g → ¬ (UsG g ∧ itB g x = true) → GmV u rv nv lv pv g → Calls Tryz.prog 11 #[gmA rv nv lv pv g.start,itV x] u fun e w' => e = .returned (.int .i64 0) ∧ Below u.heap.size u w'
 cloYes:∀ (g:Gm) (rv nv lv pv v:Value) (l:List It) (u:World),Fits12 g → RgtI g l → GmV u rv nv lv pv g → Its u v l → l.length ≤ 1000 → Calls Tryz.prog 17 #[gmA rv nv lv pv g.start,v] u fun e w' => ∃ v',e = .returned v' ∧ Its w' v' (cloL g l) ∧ NewB u.heap.size w' v' ∧ Below u.heap.size u w'
 cloNo:∀ (g:Gm) (rv nv lv pv v:Value) (l:List It) (u:World),Fits12 g → ¬ RgtI g l → GmV u rv nv lv pv g → Its u v l → l.length ≤ 1000 → Calls Tryz.prog 17 #[gmA rv nv lv pv g.start,v] u fun e w' => ∃ v',e = .returned v' ∧ Its w' v' [] ∧ Below u.heap.size u w'
 gotYes:∀ (g:Gm) (rv nv lv pv v:Value) (l:List It) (s:Int) (u:World),Fits12 g → RgtI g l → GmV u rv nv lv pv g → Its u v l → l.length ≤ 1000 → Calls Tryz.prog 20 #[gmA rv nv lv pv g.start,v,.int .i64 s] u fun e w' => ∃ v',e = .returned v' ∧ Its w' v' (gotL g l s) ∧ NewB u.heap.size w' v' ∧ Below u.heap.size u w'
 gotNo:∀ (g:Gm) (rv nv lv pv v:Value) (l:List It) (s:Int) (u:World),Fits12 g → ¬ RgtI g l → GmV u rv nv lv pv g → Its u v l → l.length ≤ 1000 → Calls Tryz.prog 20 #[gmA rv nv lv pv g.start,v,.int .i64 s] u fun e w' => ∃ v',e = .returned v' ∧ Its w' v' [] ∧ Below u.heap.size u w'
structure WkOK16:Prop where
 wakes:∀ u:World,Calls Tryz.prog 8 #[] u fun e w' => e = .returned (.bool true) ∧ Below u.heap.size u w'
theorem rgtB_yes {g:Gm} {l:List It} (h:RgtI g l):rgtB g l = true:=rgtB_iff.2 h
theorem rgtB_no {g:Gm} {l:List It} (h:¬ RgtI g l):rgtB g l = false:=Bool.eq_false_iff.2 fun e => h (rgtB_iff.1 e)
set_option maxRecDepth 100000 in
set_option maxHeartbeats 16000000 in
theorem itemsUnionWalk (HF:ItmOK) (HW:WkOK16) (rv nv lv pv av bv:Value) (g:Gm) (a b:List It) (w:World) (h:GmV w rv nv lv pv g) (ha:Its w av a) (hb:Its w bv b) (hal:a.length ≤ 140737488355328) (hbl:b.length ≤ 140737488355328):Calls Tryz.prog 6 #[gmA rv nv lv pv g.start,av,bv] w fun e w' => e = .returned (.bool true) ∧ Below w.heap.size w w':=by
 have hKp:=hid (fun u (hu:Below w.heap.size w u) => h.keep hu)
 have hAp:=hid (fun u (hu:Below w.heap.size w u) => ha.keep hu)
 have hBp:=hid (fun u (hu:Below w.heap.size w u) => hb.keep hu)
 have hB1:=al' w (.cells #[rv,nv,lv,pv,.int .i64 g.start] 27)
 have k1:=heap_new w (.cells #[rv,nv,lv,pv,.int .i64 g.start] 27)
 obtain ⟨W,hW⟩:∃ x,w.alloc (.cells #[rv,nv,lv,pv,.int .i64 g.start] 27) = x:=⟨_,rfl⟩
 rw [hW] at hB1 k1
 have hk1:=hid (fun u (hu:Below W.heap.size W u) => cells5m (hs_keep k1 hu))
 have hB:=hid hB1
 have GW:=hid (HW.wakes W)
 obtain ⟨aa,ac,rfl⟩:=ha.shape
 obtain ⟨ba,bc,rfl⟩:=hb.shape
 by_cases hf:Fits12 g
 · have GL:=hid (fun u (hu:Below w.heap.size w u) => longNo _ _ _ _ g u (hKp.out u hu) hf)
   by_cases hl:a.length + b.length ≤ 60
   · have GRa:=hid (fun u (hu:Below w.heap.size w u) => refRightI g rv nv lv pv (.slice aa a.length ac) a u (hKp.out u hu) hf.bnd hf.names (by omega) (hAp.out u hu))
     have GRb:=hid (fun u (hu:Below w.heap.size w u) => refRightI g rv nv lv pv (.slice ba b.length bc) b u (hKp.out u hu) hf.bnd hf.names (by omega) (hBp.out u hu))
     have hlz:(a.length:Int) + (b.length:Int) ≤ 60:=by omega
     have hlz2:¬ (60:Int) < (a.length:Int) + (b.length:Int):=by omega
     by_cases hra:RgtI g a
     · rw [rgtB_yes hra] at GRa
       by_cases hrb:RgtI g b
       · rw [rgtB_yes hrb] at GRb
         have hrc:RgtI g (a ++ b):=⟨hra.us,fun x hx => (List.mem_append.1 hx).elim (hra.all x) (hrb.all x)⟩
         have GA:=hid (fun u (hu:Below w.heap.size w u) => HF.cloYes g rv nv lv pv (.slice aa a.length ac) a u hf hra (hKp.out u hu) (hAp.out u hu) (by omega))
         have GB:=hid (fun u (hu:Below w.heap.size w u) => HF.cloYes g rv nv lv pv (.slice ba b.length bc) b u hf hrb (hKp.out u hu) (hBp.out u hu) (by omega))
         have GC:=hid (fun u v (hu:Below w.heap.size w u) (hv:Its u v (a ++ b)) => HF.cloYes g rv nv lv pv v (a ++ b) u hf hrc (hKp.out u hu) hv (by rw [List.length_append];omega))
         have l1:=cloL_len hra.us.snd a
         have l2:=cloL_len hra.us.snd b
         have l3:=cloL_len hra.us.snd (a ++ b)
         have GO:=hid (fun u v (hu:Below w.heap.size w u) (hv:Its u v (cloL g a ++ cloL g b)) => refOfI g rv nv lv pv v (cloL g a ++ cloL g b) u (hKp.out u hu) hf.bnd hra.us.snd (by rw [List.length_append];omega) hv)
         rw [ofI_union hra hrb] at GO
         have GX:=hid (fun u v v' (h1:Its u v (cloL g (a ++ b))) (h2:Its u v' (cloL g (a ++ b))) => refSameI v v' _ _ u (by omega) (by omega) h1 h2)
         rw [decide_eq_true rfl] at GX
         clear h hB1 k1 hf HF HW ha hb hKp hra hrb hrc
         generalize cloL g (a ++ b) = LC at *
         generalize cloL g a = LA at *
         generalize cloL g b = LB at *
         have hAp:=hid (fun u (hu:Below w.heap.size w u) => hAp.out u hu)
         generalize hale:a.length = al at *
         generalize hble:b.length = bl at *
         have hale:=hid hale
         have hble:=hid hble
         generalize g.start = st at *
         go_enter Tryz.func6,Tryz.ntmps6
         go_wp2_with (first
          | (go_at_call 8;refine GW.out.mono ?_;rintro e w1 ⟨rfl,hc1⟩;have h1:=hid hc1;obtain ⟨x0,x1,x2,x3,x4⟩:=hk1.out w1 h1.out;clear hc1)
          | (go_at_call 9;refine (GL.out _ (bl_step hB.out h1.out)).mono ?_;rintro e w2 ⟨rfl,hc2⟩;have h2:=hid (bl_step h1.out hc2);clear hc2;clear x0 x1 x2 x3 x4;obtain ⟨x0,x1,x2,x3,x4⟩:=hk1.out w2 h2.out)
          | (go_at_call 13;refine (GRb.out _ (bl_step hB.out h3.out)).mono ?_;rintro e w4 ⟨rfl,hc4⟩;have h4:=hid (bl_step h3.out hc4);clear hc4;clear x0 x1 x2 x3 x4;obtain ⟨x0,x1,x2,x3,x4⟩:=hk1.out w4 h4.out)
          | (go_at_call 13;refine (GRa.out _ (bl_step hB.out h2.out)).mono ?_;rintro e w3 ⟨rfl,hc3⟩;have h3:=hid (bl_step h2.out hc3);clear hc3;clear x0 x1 x2 x3 x4;obtain ⟨x0,x1,x2,x3,x4⟩:=hk1.out w3 h3.out))
         refine wp_region_cl [clV (gmA rv nv lv pv st),clV (.slice aa al ac),clI LA,clV (gmA rv nv lv pv st),clV (.slice ba bl bc),clI LB,clI LA,clI LB] (fun _ => none) (by kernel_rfl) (by kernel_rfl) (by rfl) (by intro xs;simp only [putL,Nat.reduceAdd,Act.put,List.setIfInBounds_toArray,List.set_cons_zero,List.set_cons_succ];rfl) ?_ ?_
         · refine rgAll_cons ?_ (rgAll_cons ?_ (rgAll_cons ?_ (rgAll_cons ?_ (rgAll_cons ?_ (rgAll_cons ?_ (rgAll_cons ?_ (rgAll_cons ?_ (rgAll_nil))))))))
           · intro xs τ u fr hA hI hd K hK
             try dsimp only at hA
             subst hA
             obtain ⟨y0,y1,y2,y3,y4⟩:=hk1.out u (bl_step h4.out hI.low)
             have hK:=hK _ τ u hI (.inl (StepT.refl _ _ _)) (holdsV _ _ _ _)
             go_simp
             exact hK
           · intro xs τ u fr hA hI hd K hK
             try dsimp only at hA
             subst hA
             have hK:=hK _ τ u hI (.inl (StepT.refl _ _ _)) (holdsV _ _ _ _)
             go_simp
             exact hK
           · intro xs τ u fr hA hI hd K hK
             try dsimp only at hA
             generalize hx0:xs 0 = z0 at hA
             have e0:=valOf (hd 0 rfl)
             rw [hx0] at e0
             subst e0
             generalize hx1:xs 1 = z1 at hA
             have e1:=valOf (hd 1 rfl)
             rw [hx1] at e1
             subst e1
             subst hA
             refine step_callW (by rfl) 17 #[gmA rv nv lv pv st,.slice aa al ac] (by go_simp) (GA.out u (bl_step hB.out (bl_step h4.out hI.low))) ?_
             rintro e u' ⟨v',rfl,hN,hn,hc⟩
             exact ⟨_,rfl,hK _ τ u' (hI.call hc).1 (.inl (hI.call hc).2) (holdsI (.fresh hI hN hn))⟩
           · intro xs τ u fr hA hI hd K hK
             try dsimp only at hA
             subst hA
             obtain ⟨y0,y1,y2,y3,y4⟩:=hk1.out u (bl_step h4.out hI.low)
             have hK:=hK _ τ u hI (.inl (StepT.refl _ _ _)) (holdsV _ _ _ _)
             go_simp
             exact hK
           · intro xs τ u fr hA hI hd K hK
             try dsimp only at hA
             subst hA
             have hK:=hK _ τ u hI (.inl (StepT.refl _ _ _)) (holdsV _ _ _ _)
             go_simp
             exact hK
           · intro xs τ u fr hA hI hd K hK
             try dsimp only at hA
             generalize hx3:xs 3 = z3 at hA
             have e3:=valOf (hd 3 rfl)
             rw [hx3] at e3
             subst e3
             generalize hx4:xs 4 = z4 at hA
             have e4:=valOf (hd 4 rfl)
             rw [hx4] at e4
             subst e4
             subst hA
             refine step_callW (by rfl) 17 #[gmA rv nv lv pv st,.slice ba bl bc] (by go_simp) (GB.out u (bl_step hB.out (bl_step h4.out hI.low))) ?_
             rintro e u' ⟨v',rfl,hN,hn,hc⟩
             exact ⟨_,rfl,hK _ τ u' (hI.call hc).1 (.inl (hI.call hc).2) (holdsI (.fresh hI hN hn))⟩
           · intro xs τ u fr hA hI hd K hK
             try dsimp only at hA
             subst hA
             have hK:=hK _ τ u hI (.inl (StepT.refl _ _ _)) (hd 2 rfl)
             go_simp
             exact hK
           · intro xs τ u fr hA hI hd K hK
             try dsimp only at hA
             subst hA
             have hK:=hK _ τ u hI (.inl (StepT.refl _ _ _)) (hd 5 rfl)
             go_simp
             exact hK
         · intro xs τ u fr hA hI hx
           have hX:=itsOf (hx 6 rfl)
           have hY:=itsOf (hx 7 rfl)
           obtain ⟨ya,yc,e6⟩:=hX.shape
           obtain ⟨za,zc,e7⟩:=hY.shape
           rw [e6] at hX
           rw [e7] at hY
           have h5:=hid (bl_step h4.out hI.low)
           have hX:=hid hX
           have hY:=hid hY
           try dsimp only at hA
           generalize xs 6 = z6 at *
           generalize xs 7 = z7 at *
           subst e6 e7 hA
           obtain ⟨lal,hlal⟩:∃ n,Hid (LA.length = n):=⟨_,hid rfl⟩
           obtain ⟨lbl,hlbl⟩:∃ n,Hid (LB.length = n):=⟨_,hid rfl⟩
           rw [hlal.out] at l1 hX ⊢
           rw [hlbl.out] at l2 hY ⊢
           clear hx hI
           try dsimp only
           obtain ⟨x0,x1,x2,x3,x4⟩:=hk1.out u h5.out
           go_wp2_with fail
           refine wp_region_cl [clV (gmA rv nv lv pv st),clO 1 [],clV (.slice aa al ac),clO 3 ([] ++ a),clV (.slice ba bl bc),clO 5 ([] ++ a ++ b),clI LC,clV (gmA rv nv lv pv st),clO 2 [],clV (.slice ya lal yc),clO 4 ([] ++ LA),clV (.slice za lbl zc),clO 6 ([] ++ LA ++ LB),clI LC,clV (.bool true),clV (.bool true)] (fun j => if j = 1 then some 3 else if j = 3 then some 5 else if j = 8 then some 10 else if j = 10 then some 12 else none) (by kernel_rfl) (by kernel_rfl) (by rfl) (by intro xs;simp only [putL,Nat.reduceAdd,Act.put,List.setIfInBounds_toArray,List.set_cons_zero,List.set_cons_succ];rfl) ?_ ?_
           · refine rgAll_cons ?_ (rgAll_cons ?_ (rgAll_cons ?_ (rgAll_cons ?_ (rgAll_cons ?_ (rgAll_cons ?_ (rgAll_cons ?_ (rgAll_cons ?_ (rgAll_cons ?_ (rgAll_cons ?_ (rgAll_cons ?_ (rgAll_cons ?_ (rgAll_cons ?_ (rgAll_cons ?_ (rgAll_cons ?_ (rgAll_cons ?_ (rgAll_nil))))))))))))))))
             · intro xs τ u fr hA hI hd K hK
               try dsimp only at hA
               subst hA
               obtain ⟨y0,y1,y2,y3,y4⟩:=hk1.out u (bl_step h5.out hI.low)
               have hK:=hK _ τ u hI (.inl (StepT.refl _ _ _)) (holdsV _ _ _ _)
               go_simp
               exact hK
             · intro xs τ u fr hA hI hd K hK
               try dsimp only at hA
               subst hA
               obtain ⟨g1,g2,g3⟩:=hI.lit0 1
               have hK:=hK _ _ _ g1 (.inl g2) (holdsO g3)
               go_simp
               exact hK
             · intro xs τ u fr hA hI hd K hK
               try dsimp only at hA
               subst hA
               have hK:=hK _ τ u hI (.inl (StepT.refl _ _ _)) (holdsV _ _ _ _)
               go_simp
               exact hK
             · intro xs τ u fr hA hI hd K hK
               try dsimp only at hA
               generalize hx1:xs 1 = z1 at hA
               have d1:=hd 1 rfl
               rw [hx1] at d1
               generalize hx2:xs 2 = z2 at hA
               have e2:=valOf (hd 2 rfl)
               rw [hx2] at e2
               subst e2
               subst hA
               obtain ⟨v',u',τ',hrun,g1,g2,g3⟩:=hI.app 3 (rowOf d1) (hAp.out u (bl_step hB.out (bl_step h5.out hI.low))) (by rw [hale.out];simp;omega)
               refine step_runI (by rfl) (.tmp 40) (.tmp 41) 36 (by rfl) _ _ (by rfl) (by rfl) hrun ?_
               exact hK _ _ _ g1 (.inr ⟨1,by decide,g2,by rfl⟩) (holdsO g3)
             · intro xs τ u fr hA hI hd K hK
               try dsimp only at hA
               subst hA
               have hK:=hK _ τ u hI (.inl (StepT.refl _ _ _)) (holdsV _ _ _ _)
               go_simp
               exact hK
             · intro xs τ u fr hA hI hd K hK
               try dsimp only at hA
               generalize hx3:xs 3 = z3 at hA
               have d3:=hd 3 rfl
               rw [hx3] at d3
               generalize hx4:xs 4 = z4 at hA
               have e4:=valOf (hd 4 rfl)
               rw [hx4] at e4
               subst e4
               subst hA
               obtain ⟨v',u',τ',hrun,g1,g2,g3⟩:=hI.app 5 (rowOf d3) (hBp.out u (bl_step hB.out (bl_step h5.out hI.low))) (by rw [List.length_append,hale.out,hble.out];simp;omega)
               refine step_runI (by rfl) (.tmp 42) (.tmp 43) 36 (by rfl) _ _ (by rfl) (by rfl) hrun ?_
               exact hK _ _ _ g1 (.inr ⟨3,by decide,g2,by rfl⟩) (holdsO g3)
             · intro xs τ u fr hA hI hd K hK
               try dsimp only at hA
               generalize hx0:xs 0 = z0 at hA
               have e0:=valOf (hd 0 rfl)
               rw [hx0] at e0
               subst e0
               generalize hx5:xs 5 = z5 at hA
               have d5:=hd 5 rfl
               rw [hx5] at d5
               subst hA
               refine step_callW (by rfl) 17 #[gmA rv nv lv pv st,z5] (by go_simp) (GC.out u _ (bl_step hB.out (bl_step h5.out hI.low)) (Its.of_row (rowOf d5).own)) ?_
               rintro e u' ⟨v',rfl,hN,hn,hc⟩
               exact ⟨_,rfl,hK _ τ u' (hI.call hc).1 (.inl (hI.call hc).2) (holdsI (.fresh hI hN hn))⟩
             · intro xs τ u fr hA hI hd K hK
               try dsimp only at hA
               subst hA
               obtain ⟨y0,y1,y2,y3,y4⟩:=hk1.out u (bl_step h5.out hI.low)
               have hK:=hK _ τ u hI (.inl (StepT.refl _ _ _)) (holdsV _ _ _ _)
               go_simp
               exact hK
             · intro xs τ u fr hA hI hd K hK
               try dsimp only at hA
               subst hA
               obtain ⟨g1,g2,g3⟩:=hI.lit0 2
               have hK:=hK _ _ _ g1 (.inl g2) (holdsO g3)
               go_simp
               exact hK
             · intro xs τ u fr hA hI hd K hK
               try dsimp only at hA
               subst hA
               have hK:=hK _ τ u hI (.inl (StepT.refl _ _ _)) (holdsV _ _ _ _)
               go_simp
               exact hK
             · intro xs τ u fr hA hI hd K hK
               try dsimp only at hA
               generalize hx8:xs 8 = z8 at hA
               have d8:=hd 8 rfl
               rw [hx8] at d8
               generalize hx9:xs 9 = z9 at hA
               have e9:=valOf (hd 9 rfl)
               rw [hx9] at e9
               subst e9
               subst hA
               obtain ⟨v',u',τ',hrun,g1,g2,g3⟩:=hI.app 4 (rowOf d8) (hX.out.keep hI.low) (by rw [hlal.out];simp;omega)
               refine step_runI (by rfl) (.tmp 47) (.tmp 48) 36 (by rfl) _ _ (by rfl) (by rfl) hrun ?_
               exact hK _ _ _ g1 (.inr ⟨2,by decide,g2,by rfl⟩) (holdsO g3)
             · intro xs τ u fr hA hI hd K hK
               try dsimp only at hA
               subst hA
               have hK:=hK _ τ u hI (.inl (StepT.refl _ _ _)) (holdsV _ _ _ _)
               go_simp
               exact hK
             · intro xs τ u fr hA hI hd K hK
               try dsimp only at hA
               generalize hx10:xs 10 = z10 at hA
               have d10:=hd 10 rfl
               rw [hx10] at d10
               generalize hx11:xs 11 = z11 at hA
               have e11:=valOf (hd 11 rfl)
               rw [hx11] at e11
               subst e11
               subst hA
               obtain ⟨v',u',τ',hrun,g1,g2,g3⟩:=hI.app 6 (rowOf d10) (hY.out.keep hI.low) (by rw [List.length_append,hlal.out,hlbl.out];simp;omega)
               refine step_runI (by rfl) (.tmp 49) (.tmp 50) 36 (by rfl) _ _ (by rfl) (by rfl) hrun ?_
               exact hK _ _ _ g1 (.inr ⟨4,by decide,g2,by rfl⟩) (holdsO g3)
             · intro xs τ u fr hA hI hd K hK
               try dsimp only at hA
               generalize hx7:xs 7 = z7 at hA
               have e7:=valOf (hd 7 rfl)
               rw [hx7] at e7
               subst e7
               generalize hx12:xs 12 = z12 at hA
               have d12:=hd 12 rfl
               rw [hx12] at d12
               subst hA
               refine step_callW (by rfl) 22 #[gmA rv nv lv pv st,z12] (by go_simp) (GO.out u _ (bl_step hB.out (bl_step h5.out hI.low)) (Its.of_row (rowOf d12).own)) ?_
               rintro e u' ⟨v',rfl,hO,hc⟩
               exact ⟨_,rfl,hK _ τ u' (hI.call hc).1 (.inl (hI.call hc).2) (holdsI (.fresh hI (Its.of_row hO) (fun k hk => hO.lt k hk)))⟩
             · intro xs τ u fr hA hI hd K hK
               try dsimp only at hA
               generalize hx6:xs 6 = z6 at hA
               have d6:=hd 6 rfl
               rw [hx6] at d6
               generalize hx13:xs 13 = z13 at hA
               have d13:=hd 13 rfl
               rw [hx13] at d13
               subst hA
               refine step_callW (by rfl) 18 #[z6,z13] (by go_simp) (GX.out u _ _ (itsOf d6) (itsOf d13)) ?_
               rintro e u' ⟨rfl,hc⟩
               exact ⟨_,rfl,hK _ τ u' (hI.call hc).1 (.inl (hI.call hc).2) (holdsV _ _ _ _)⟩
             · intro xs τ u fr hA hI hd K hK
               try dsimp only at hA
               generalize hx14:xs 14 = z14 at hA
               have e14:=valOf (hd 14 rfl)
               rw [hx14] at e14
               subst e14
               subst hA
               have hK:=hK _ τ u hI (.inl (StepT.refl _ _ _)) (holdsV _ _ _ _)
               go_simp
               exact hK
           · intro xs τ u fr hA hI hx
             have e15:=valOf (hx 15 rfl)
             have h6:=hid (bl_step h5.out hI.low)
             try dsimp only at hA
             generalize xs 15 = z15 at *
             subst e15 hA
             clear hx hI
             try dsimp only
             go_wp2
             go_ret
             exact ⟨rfl,bl_step hB.out h6.out⟩
       · skip
         rw [rgtB_no hrb] at GRb
         clear h hB1 k1 HF HW ha hb hKp hAp hBp
         generalize a.length = al at *
         generalize b.length = bl at *
         generalize g.start = st at *
         go_enter Tryz.func6,Tryz.ntmps6
         go_wp2_with (first
          | (go_at_call 8;refine GW.out.mono ?_;rintro e w1 ⟨rfl,hc1⟩;have h1:=hid hc1;obtain ⟨x0,x1,x2,x3,x4⟩:=hk1.out w1 h1.out;clear hc1)
          | (go_at_call 9;refine (GL.out _ (bl_step hB.out h1.out)).mono ?_;rintro e w2 ⟨rfl,hc2⟩;have h2:=hid (bl_step h1.out hc2);clear hc2;clear x0 x1 x2 x3 x4;obtain ⟨x0,x1,x2,x3,x4⟩:=hk1.out w2 h2.out)
          | (go_at_call 13;refine (GRb.out _ (bl_step hB.out h3.out)).mono ?_;rintro e w4 ⟨rfl,hc4⟩;have h4:=hid (bl_step h3.out hc4);clear hc4;clear x0 x1 x2 x3 x4;obtain ⟨x0,x1,x2,x3,x4⟩:=hk1.out w4 h4.out)
          | (go_at_call 13;refine (GRa.out _ (bl_step hB.out h2.out)).mono ?_;rintro e w3 ⟨rfl,hc3⟩;have h3:=hid (bl_step h2.out hc3);clear hc3;clear x0 x1 x2 x3 x4;obtain ⟨x0,x1,x2,x3,x4⟩:=hk1.out w3 h3.out))
         go_ret
         exact ⟨rfl,bl_step hB.out h4.out⟩
     · skip
       rw [rgtB_no hra] at GRa
       clear h hB1 k1 HF HW ha hb hKp hAp hBp
       generalize a.length = al at *
       generalize b.length = bl at *
       generalize g.start = st at *
       go_enter Tryz.func6,Tryz.ntmps6
       go_wp2_with (first
        | (go_at_call 8;refine GW.out.mono ?_;rintro e w1 ⟨rfl,hc1⟩;have h1:=hid hc1;obtain ⟨x0,x1,x2,x3,x4⟩:=hk1.out w1 h1.out;clear hc1)
        | (go_at_call 9;refine (GL.out _ (bl_step hB.out h1.out)).mono ?_;rintro e w2 ⟨rfl,hc2⟩;have h2:=hid (bl_step h1.out hc2);clear hc2;clear x0 x1 x2 x3 x4;obtain ⟨x0,x1,x2,x3,x4⟩:=hk1.out w2 h2.out)
        | (go_at_call 13;refine (GRa.out _ (bl_step hB.out h2.out)).mono ?_;rintro e w3 ⟨rfl,hc3⟩;have h3:=hid (bl_step h2.out hc3);clear hc3;clear x0 x1 x2 x3 x4;obtain ⟨x0,x1,x2,x3,x4⟩:=hk1.out w3 h3.out))
       go_ret
       exact ⟨rfl,bl_step hB.out h3.out⟩
   · skip
     have hlz:¬ (a.length:Int) + (b.length:Int) ≤ 60:=by omega
     have hlz2:(60:Int) < (a.length:Int) + (b.length:Int):=by omega
     clear h hB1 k1 HF HW ha hb hKp hAp hBp
     generalize a.length = al at *
     generalize b.length = bl at *
     generalize g.start = st at *
     go_enter Tryz.func6,Tryz.ntmps6
     go_wp2_with (first
      | (go_at_call 8;refine GW.out.mono ?_;rintro e w1 ⟨rfl,hc1⟩;have h1:=hid hc1;obtain ⟨x0,x1,x2,x3,x4⟩:=hk1.out w1 h1.out;clear hc1)
      | (go_at_call 9;refine (GL.out _ (bl_step hB.out h1.out)).mono ?_;rintro e w2 ⟨rfl,hc2⟩;have h2:=hid (bl_step h1.out hc2);clear hc2;clear x0 x1 x2 x3 x4;obtain ⟨x0,x1,x2,x3,x4⟩:=hk1.out w2 h2.out))
     go_ret
     exact ⟨rfl,bl_step hB.out h2.out⟩
 · skip
   have GL:=hid (fun u (hu:Below w.heap.size w u) => longYes _ _ _ _ g u (hKp.out u hu) hf)
   clear h hB1 k1 HF HW ha hb hKp hAp hBp
   generalize a.length = al at *
   generalize b.length = bl at *
   generalize g.start = st at *
   go_enter Tryz.func6,Tryz.ntmps6
   go_wp2_with (first
    | (go_at_call 8;refine GW.out.mono ?_;rintro e w1 ⟨rfl,hc1⟩;have h1:=hid hc1;obtain ⟨x0,x1,x2,x3,x4⟩:=hk1.out w1 h1.out;clear hc1)
    | (go_at_call 9;refine (GL.out _ (bl_step hB.out h1.out)).mono ?_;rintro e w2 ⟨rfl,hc2⟩;have h2:=hid (bl_step h1.out hc2);clear hc2;clear x0 x1 x2 x3 x4;obtain ⟨x0,x1,x2,x3,x4⟩:=hk1.out w2 h2.out))
   go_ret
   exact ⟨rfl,bl_step hB.out h2.out⟩
end Go.Proofs.YtbpnioehmohbcaaGreat
namespace Go.Proofs.YtbpnioehmohbcaaGreat
open Go.RowKit Go.Maps Go.Sort
def exI:Txt:=[116,111,107,101,110,32,97,32,47,97,47,59,32,115,58,32,97,32,115,32,124,32,59]
theorem exI_words:(wrdA exI).2.2 = 0:=by decide +kernel
theorem exI_err:(rdS exI).settle.err = 0:=by decide +kernel
theorem exI_len:(prsG exI).prods.length = 2:=by decide +kernel
theorem exI_nonts:(prsG exI).nonts.length = 1:=by decide +kernel
theorem exI_left:(prsG exI).prods.map Pd.left = [2,2]:=by decide +kernel
def exL0:List It:=[(-1,0)]
def exL1:List It:=[(-1,0),(0,0),(1,0)]
def exL2:List It:=[(0,1)]
theorem exI_all:allI (prsG exI) = [(-1,0),(-1,1),(0,0),(0,1),(0,2),(1,0)]:=by decide +kernel
theorem exI_rgt (hu:UsG (prsG exI)):RgtI (prsG exI) exL0:=⟨hu,by decide +kernel⟩
theorem exI_lefts:∀ k (hk:k < (prsG exI).prods.length),(prsG exI).prods[k].left = 2:=fun k hk => by
 have h:((prsG exI).prods.map Pd.left)[k]? = some (prsG exI).prods[k].left:=by rw [List.getElem?_map,List.getElem?_eq_getElem hk];rfl
 rw [exI_left] at h
 have hk2:=exI_len ▸ hk
 rcases k with _ | _ | k
 · exact (Option.some.inj h).symm
 · exact (Option.some.inj h).symm
 · omega
theorem exI_clo:cloL (prsG exI) exL0 = exL1:=by
 have hk:∀ k,k < 2 → k < (prsG exI).prods.length:=fun k hk => by rw [exI_len];exact hk
 have h1:=(CI.start (prsG exI) exL0).add (hk 0 (by decide)) (by decide) (x:=(-1,0)) (by decide) (by rw [exI_lefts];decide +kernel)
 have h2:=h1.add (hk 1 (by decide)) (by decide) (x:=(-1,0)) (by decide) (by rw [exI_lefts];decide +kernel)
 have h3:=h2.done (fun k hk => .inl (by
  have hk2:=exI_len ▸ hk
  rcases k with _ | _ | k
  · decide
  · decide
  · omega))
 rw [← ofI_clo h3]
 unfold ofI
 rw [exI_all]
 decide
theorem exI_got (hr:RgtI (prsG exI) exL1) (hc:cloL (prsG exI) exL1 = exL1):gotL (prsG exI) exL1 1 = exL2:=by
 rw [← ofI_goto hr.all,hc]
 unfold ofI
 rw [exI_all]
 decide +kernel
theorem OwnIt.lit3 (w:World) (a b c d e f:Int):OwnIt (w.alloc (.cells #[.int .i64 a,.int .i64 b,.int .i64 c,.int .i64 d,.int .i64 e,.int .i64 f] 29)) w.heap.size (.slice (some ⟨w.heap.size,0,none⟩) 3 3) [(a,b),(c,d),(e,f)]:=
 World.ownsRow_lit w #[.int .i64 a,.int .i64 b,.int .i64 c,.int .i64 d,.int .i64 e,.int .i64 f] 3 (Nat.le_refl _) (by unfold maxLen;omega) rfl
set_option maxRecDepth 20000 in
set_option maxHeartbeats 16000000 in
theorem wkOK16_of (HF:ItmOK) (hf:Fits12 (prsG exI)) (hs:SndG (prsG exI)) (P0:∀ u,Calls Tryz.prog 24 #[.string (strT exI)] u fun e w' => ∃ rv nv lv pv,e = .returned (.tuple #[gmA rv nv lv pv (prsG exI).start,.int .i64 0,.int .i64 0]) ∧ GmV w' rv nv lv pv (prsG exI) ∧ Below u.heap.size u w'):WkOK16:=⟨fun w => by
 have P1:=hid (P0 w)
 rw [show strT exI = ⟨#[116,111,107,101,110,32,97,32,47,97,47,59,32,115,58,32,97,32,115,32,124,32,59]⟩ from rfl] at P1
 have hu:UsG (prsG exI):=⟨by rw [exI_nonts];decide,hs⟩
 have hr0:=exI_rgt hu
 have hr1:RgtI (prsG exI) exL1:=by rw [← exI_clo];exact cloL_right hr0
 have hc1:cloL (prsG exI) exL1 = exL1:=by
  have:=cloL_again hr0
  rw [exI_clo] at this
  exact this
 have hg1:=exI_got hr1 hc1
 have GC:=hid (fun rv nv lv pv v u (h:GmV u rv nv lv pv (prsG exI)) (hv:Its u v exL0) => HF.cloYes (prsG exI) rv nv lv pv v exL0 u hf hr0 h hv (by decide))
 have GT:=hid (fun rv nv lv pv v u (h:GmV u rv nv lv pv (prsG exI)) (hv:Its u v exL1) => HF.gotYes (prsG exI) rv nv lv pv v exL1 1 u hf hr1 h hv (by decide))
 rw [exI_clo] at GC
 rw [hg1] at GT
 have GS:Hid (∀ v v' (l:List It) u,l.length ≤ 10 → Its u v l → Its u v' l → Calls Tryz.prog 18 #[v,v'] u fun e w' => e = .returned (.bool true) ∧ Below u.heap.size u w'):=hid (fun v v' l u hl h1 h2 => by
  have:=refSameI v v' l l u (by omega) (by omega) h1 h2
  rw [decide_eq_true rfl] at this
  exact this)
 clear hf hs P0 hu hr0 hr1 hc1 hg1 HF
 generalize prsG exI = g at *
 generalize hst:g.start = st at *
 clear hst
 go_enter Tryz.func8,Tryz.ntmps8
 go_wp2_with (first
  | (go_at_call 24;refine P1.out.mono ?_;clear P1;rintro e w1 ⟨rv,nv,lv,pv,rfl,hV,hc1⟩;obtain ⟨ra,rc,hre⟩:=hV.rules.shape;obtain ⟨na,nc,hne⟩:=hV.nonts.shape;obtain ⟨la,lc,hle⟩:=hV.levels.shape;obtain ⟨pa,pc,hpe⟩:=hV.prods.shape;subst hre hne hle hpe
     have hal:=al' w1 (.cells #[.slice ra g.rules.length rc,.slice na g.nonts.length nc,.slice la g.levels.length lc,.slice pa g.prods.length pc,.int .i64 st] 27);have hk1:=heap_new w1 (.cells #[.slice ra g.rules.length rc,.slice na g.nonts.length nc,.slice la g.levels.length lc,.slice pa g.prods.length pc,.int .i64 st] 27)
     have hq1:=hV.keep hal
     obtain ⟨W1,hW1⟩:∃ x,w1.alloc (.cells #[.slice ra g.rules.length rc,.slice na g.nonts.length nc,.slice la g.levels.length lc,.slice pa g.prods.length pc,.int .i64 st] 27) = x:=⟨_,rfl⟩
     rw [hW1] at hal hk1 hq1
     have hal3:=al' W1 (.cells #[.int .i64 (-1),.int .i64 0] 29)
     have hN3:Hid (Its (W1.alloc (.cells #[.int .i64 (-1),.int .i64 0] 29)) (.slice (some ⟨W1.heap.size,0,none⟩) 1 1) exL0):=hid (Its.lit1 W1 (-1) 0)
     have hq2:=hid (hq1.keep hal3)
     have hk2:=hid (hs_keep hk1 hal3)
     have hw1:=hid (bl_step (bl_step hc1 hal) hal3)
     obtain ⟨a0,a1,a2,a3,a4⟩:=cells5m hk1
     clear hc1 hal hV hk1 hq1 hal3)
  | (go_at_call 17;refine (GC.out _ _ _ _ _ _ hq2.out hN3.out).mono ?_;clear GC;rintro e w2 ⟨v2,rfl,hX2,-,hc2⟩;obtain ⟨v2a,v2c,e2⟩:=hX2.shape;subst e2
     have hal:=al' w2 (.cells #[.int .i64 (-1),.int .i64 0,.int .i64 0,.int .i64 0,.int .i64 1,.int .i64 0] 29)
     have hY2:Hid (Its (w2.alloc (.cells #[.int .i64 (-1),.int .i64 0,.int .i64 0,.int .i64 0,.int .i64 1,.int .i64 0] 29)) (.slice (some ⟨w2.heap.size,0,none⟩) 3 3) exL1):=hid (Its.of_row (OwnIt.lit3 w2 (-1) 0 0 0 1 0))
     have hX3:=hid (hX2.keep hal)
     have hq3:=hid ((hq2.out.keep hc2).keep hal);have hk3:=hid (hs_keep (hs_keep hk2.out hc2) hal);have hw2:=hid (bl_step (bl_step hw1.out hc2) hal)
     clear hc2 hX2 hal a0 a1 a2 a3 a4)
  | (go_at_call 18;refine (GS.out _ _ exL2 _ (by decide) hX5.out hY5.out).mono ?_;rintro e w6 ⟨rfl,hc6⟩;have hw6:=hid (bl_step hw5.out hc6);clear hc6)
  | (go_at_call 18;refine (GS.out _ _ exL1 _ (by decide) hX3.out hY2.out).mono ?_;rintro e w4 ⟨rfl,hc4⟩;have hX4:=hid (hX3.out.keep hc4);have hq4:=hid (hq3.out.keep hc4);have hk4:=hid (hs_keep hk3.out hc4);have hw4:=hid (bl_step hw2.out hc4);clear hc4;obtain ⟨a0,a1,a2,a3,a4⟩:=cells5m hk4.out)
  | (go_at_call 20;refine (GT.out _ _ _ _ _ _ hq4.out hX4.out).mono ?_;clear GT;rintro e w5 ⟨v5,rfl,hX5,-,hc5⟩;obtain ⟨v5a,v5c,e5⟩:=hX5.shape;subst e5
     have hal:=al' w5 (.cells #[.int .i64 0,.int .i64 1] 29)
     have hY5:Hid (Its (w5.alloc (.cells #[.int .i64 0,.int .i64 1] 29)) (.slice (some ⟨w5.heap.size,0,none⟩) 1 1) exL2):=hid (Its.lit1 w5 0 1)
     have hX5:=hid (hX5.keep hal);have hw5:=hid (bl_step (bl_step hw4.out hc5) hal)
     clear hc5 hal a0 a1 a2 a3 a4))
 go_ret
 exact ⟨by simp,hw6.out⟩⟩
end Go.Proofs.YtbpnioehmohbcaaGreat
