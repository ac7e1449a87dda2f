/- Package items: closure, Closure, Goto. Package items: Closure, Goto. Layer 16's laws: the arguments (an item, items), the example. -/
import Derived.Test.YtbpnioehmohbcaaGreatJ42
import Derived.Test.YtbpnioehmohbcaaGreatJ14
import Derived.Test.YtbpnioehmohbcaaGreatJ22
import Derived.Test.YtbpnioehmohbcaaGreatJ32
import Derived.Test.YtbpnioehmohbcaaGreatJ36
import Derived.SizedLaws
namespace Go.Proofs.YtbpnioehmohbcaaGreat
open Go.RowKit Go.Maps Go.Sort
theorem OwnIt.new {w:World} {B:Nat} {v:Value} {l:List It} (h:OwnIt w B v l):NewB B w v:=fun k hk => h.lt k hk
theorem CloM.start {W w1:World} {v1:Value} {m:List It} (hO1:OwnIt w1 W.heap.size v1 m) (hc1:Below W.heap.size W w1):CloM W (w1.alloc (.map #[] 0)) W.heap.size w1.heap.size v1 m [] where
 row:=own_below hO1 (al' w1 _)
 map:=World.ownsMap_made w1 _ _ _
 low:=bl_step hc1 (al' w1 _)
 dis k hk:=by
  have:=(hO1.lt k hk).2
  omega
 hmb:=hc1.size
 hB:=Nat.le_refl _
set_option maxRecDepth 100000 in
set_option maxHeartbeats 16000000 in
theorem closureC (g:Gm) (rv nv lv pv v:Value) (l:List It) (w:World) (hV:GmV w rv nv lv pv g) (hr:RgtI g l) (hl:l.length ≤ 100000) (hI:Its w v l) :
 Calls Tryz.prog 34 #[gmA rv nv lv pv g.start,v] w fun e w' => ∃ v',e = .returned v' ∧ OwnIt w' w.heap.size v' (cloL g l) ∧ Below w.heap.size w w':=by
 have hg:=hr.us.snd
 have GN:=hid (fun u (hu:Below w.heap.size w u) x hx => behindC g _ _ _ _ x u (hV.keep hu) hx)
 have GR:=hid (fun u v' l' (hl':l'.length ≤ 1000000) (h:Its u v' l') => risingC v' l' u hl' h)
 have hbn:=hid (fun x => nxtG_bnd hr.us x)
 obtain ⟨pa,pc,rfl⟩:=hV.prods.shape
 have hB1:=al' w (.cells #[rv,nv,lv,.slice pa g.prods.length pc,.int .i64 g.start] 27)
 have k1:=heap_new w (.cells #[rv,nv,lv,.slice pa g.prods.length pc,.int .i64 g.start] 27)
 obtain ⟨W,hW⟩:∃ x,w.alloc (.cells #[rv,nv,lv,.slice pa g.prods.length pc,.int .i64 g.start] 27) = x:=⟨_,rfl⟩
 rw [hW] at hB1 k1
 have hk1:=hid (fun u (hu:Below W.heap.size W u) => cells5m (hs_keep k1 hu))
 have hB:=hid hB1
 have hKp:Hid (∀ u,Below w.heap.size w u → ∀ k (hk:k < g.prods.length),∃ b o,pa = some ⟨b,o,none⟩ ∧ ∃ ra rn rc pr,u.cell? ⟨b,o + k * 3,none⟩ = some (.int .i64 g.prods[k].left) ∧ u.cell? ⟨b,o + k * 3 + 1,none⟩ = some (.slice ra rn rc) ∧ u.cell? ⟨b,o + k * 3 + 2,none⟩ = some (.int .i64 pr)):=hid (fun u hu k hk => by
  obtain ⟨b,o,e,-,hx⟩:=(hV.keep hu).prods.at hk
  obtain ⟨v,x0,x1,x2,hN⟩:=hx
  obtain ⟨ra,rc,rfl,-⟩:=hN
  exact ⟨b,o,e,_,_,_,_,x0,x1,x2⟩)
 have hpp:g.prods.length ≤ 40:=hg.prods
 have G1:=hid (risingC v l W (by omega) (hI.keep hB1))
 have hcI:=hid (fun b (hb:∀ x,x ∈ b ↔ x ∈ l) x (hx:CloG g b x) => itB_of_clo (g:=g) (l:=b) (fun y hy => hr.all y ((hb y).1 hy)) hx)
 have hfin:=hid (fun b m (hb:∀ x,x ∈ b ↔ x ∈ l) (hm:m.Pairwise ltI) (hx:∀ x,x ∈ m ↔ CloG g b x) => up_clo hr.all hb hm hx)
 have hbr:=hid (fun s k (hk:k < g.prods.length) => brK_succ (g:=g) hk s)
 clear hV hg hB1 k1 hI hr
 obtain ⟨pp,hp9⟩:∃ n,Hid (g.prods.length = n):=⟨_,hid rfl⟩
 rw [hp9.out] at GN hk1 hpp hW ⊢
 generalize g.start = st at *
 have hsW:Hid (w.heap.size < W.heap.size):=hid (by rw [← hW,World.size_alloc];omega)
 have hmm:∀ u:World,(Instr.makeMap 84 none).run Tryz.prog u = .ok (.map (some u.heap.size)) (u.alloc (.map #[] 0)):=fun _ => rfl
 go_enter Tryz.func34,Tryz.ntmps34
 go_wp2_with (go_at_call 41;refine G1.out.mono ?_;clear G1;rintro e w1 ⟨v1,m,rfl,hup,hmem,hml,hO1,hc1⟩;have hM0:=hid (CloM.start hO1 hc1);have hmem:=hid hmem;clear hup hO1 hc1)
 clear hW hmm
 obtain ⟨mb,hmb⟩:∃ x,x = w1.heap.size:=⟨_,rfl⟩
 rw [← hmb] at hM0
 try rw [← hmb]
 obtain ⟨ln,hln⟩:∃ n,Hid (m.length = n):=⟨_,hid rfl⟩
 have hcl:=hid (fun A n M (h:ClI g m A n M) => h.len)
 rw [hln.out,hp9.out] at hcl
 rw [hln.out] at hml
 have hC0:=hid (ClI.start g m)
 clear hmb
 go_loopw [5,7] (fun a5 a7 u => ∃ (A:List It) (n:Nat) (M:List Int),a7 = .int .i64 (n:Int) ∧ n ≤ A.length ∧ A.length ≤ ln + pp ∧ Hid (CloM W u W.heap.size mb a5 A M) ∧ Hid (ClI g m A n M)) (fun _ a7 _ => ln + pp + 1 - (intOf a7).toNat)
 case atStart => exact ⟨m,0,[],rfl,Nat.zero_le _,by rw [hln.out];omega,hM0,hC0⟩
 case round =>
  clear hM0 hC0
  obtain ⟨A,n,M,rfl,hn,hAl,hM,hC⟩:=hrel
  obtain ⟨oa,oc,rfl⟩:=(Its.of_row hM.out.row).shape
  obtain ⟨y0,y1,y2,y3,y4⟩:=hk1.out _ hM.out.low
  by_cases hlt:n < A.length
  · have hltz:(n:Int) < (A.length:Int):=by omega
    obtain ⟨b,o,e,-,z0,z1⟩:=Lst.at (Its.of_row hM.out.row) hlt
    subst e
    have hx:=hcI.out m hmem.out _ (hC.out.clo _ (List.getElem_mem hlt))
    have cA:Hid (∀ d os,Calls Tryz.prog 29 #[gmA rv nv lv (.slice pa pp pc) st,itV A[n]] (grow (redrawn wr d) os) fun e w'' => e = .returned (.int .i64 (nxtG g A[n])) ∧ ∃ p:Regrown,w'' = grow (redrawn wr p.d) p.os):=hid (fun d os => Calls.regrown_of (GN.out _ (bl_step hB.out (bl_step hM.out.low (below_regrown wr d os))) _ hx))
    have z0:=cell_regrown z0
    have z1:=cell_regrown z1
    have y0:=cell_regrown y0
    have y1:=cell_regrown y1
    have y2:=cell_regrown y2
    have y3:=cell_regrown y3
    have y4:=cell_regrown y4
    have hbs:=hbn.out A[n]
    have hsk:=hid (hC.out.skip hlt)
    have hmo:=hid (hC.out.more hlt)
    clear hx
    generalize nxtG g A[n] = sy at *
    obtain ⟨Al,hAn⟩:∃ x,Hid (A.length = x):=⟨_,hid rfl⟩
    rw [hAn.out] at hAl hlt hltz hn ⊢
    go_wp2_with fail
    refine wp_region_quiet_below (by kernel_rfl) (by kernel_rfl) ?_
    repeat (first | go_big_quiet_step (exact cA.out _ _) | quiet_step (exact cA.out _ _))
    refine wpQuiet_nil ?_
    intro _ hw'
    obtain ⟨⟨dq,osq⟩,hw''⟩:=hw'
    subst hw''
    have hM6:=hid (hM.out.keep (below_regrown wr dq osq))
    generalize grow (redrawn wr dq) osq = w6 at *
    clear z0 z1 y0 y1 y2 y3 y4 cA hM
    have hlk:=hM6.out.look hbs
    have hal:=al' w6 (.cells #[] 64)
    have hM7:=hid (hM6.out.keep hal)
    clear hal
    cases hc:M.contains sy with
    | true =>
     rw [hc] at hlk
     have hT:=hid (hsk.out (List.contains_iff_mem.1 hc))
     clear hsk hmo hc hC
     go_wp2
     go_roundw
     case rel => exact ⟨A,n + 1,M,by go_num,by rw [hAn.out];omega,by rw [hAn.out];exact hAl,by rw [← hAn.out] at *;exact hM7,hT⟩
     case measure => simp [intOf];omega
    | false =>
     rw [hc] at hlk
     have hT:=hid (hmo.out (fun h => by rw [List.contains_iff_mem.2 h] at hc;cases hc))
     clear hsk hmo hc
     obtain ⟨w8,hup,hM8⟩:=hM7.out.put hbs (by have:=hC.out.few;omega)
     have hM8a:=hid hM8
     clear hM8 hC
     obtain ⟨y0,y1,y2,y3,y4⟩:=hk1.out _ hM8a.out.low
     have hA0:Hid (CloM W w8 W.heap.size mb (.slice (some ⟨b,o,none⟩) Al oc) (A ++ brK g sy 0) (M ++ [sy])):=hid (by rw [brK_zero,List.append_nil,← hAn.out];exact hM8a.out)
     have hcl9:=hid (hcl.out _ _ _ hT.out)
     have hlen9:=hid (fun k => brK_len g sy k)
     clear hM8a hM7 hM6
     go_wp2
     clear hup hlk y0 y1 y2 y3 y4
     go_loopw [5,41] (fun a5 i u => ∃ k:Nat,k ≤ pp ∧ i = .int .i64 (k:Int) ∧ Hid (CloM W u W.heap.size mb a5 (A ++ brK g sy k) (M ++ [sy]))) (fun _ i _ => pp - (intOf i).toNat)
     case atStart => exact ⟨0,Nat.zero_le _,rfl,hA0⟩
     case round =>
      clear hA0
      obtain ⟨k,hk,rfl,hM9⟩:=hrel
      obtain ⟨ca,cc,rfl⟩:=(Its.of_row hM9.out.row).shape
      by_cases hkp:k < pp
      · have hkz:(k:Int) < (pp:Int):=by omega
        have hkl:k < g.prods.length:=by rw [hp9.out];exact hkp
        obtain ⟨pb,po,e,ra,rn,rc,pr,x0,x1,x2⟩:=hKp.out wr (bl_step hB.out hM9.out.low) k hkl
        subst e
        have hbk:=hbr.out sy k hkl
        generalize g.prods[k].left = lf at *
        have hMa:=hid (hM9.out.keep (al' wr (.cells #[.int .i64 lf,.slice ra rn rc,.int .i64 pr] 52)))
        by_cases hd:lf = sy
        · subst hd
          rw [if_pos rfl] at hbk
          have hbk:=hid hbk
          have hl9:(A ++ brK g lf k).length ≤ 1000000:=by rw [List.length_append,hAn.out];have:=hlen9.out k;omega
          obtain ⟨v8,u8,hap,hM8⟩:=hMa.out.add1 (k:Int) 0 hl9
          have hM8:=hid hM8
          rw [World.size_alloc] at hap
          clear hl9 hMa hM9
          generalize (A ++ brK g lf k).length = cl at *
          go_wp2_with (at_builtin;refine wp_run _ rfl _ _ _ rfl _ _ rfl rfl hap ?_;clear hap)
          go_roundw
          case rel => exact ⟨k + 1,by omega,by go_num,by rw [hbk.out,← List.append_assoc];exact hM8⟩
          case measure => simp [intOf];omega
        · rw [if_neg hd] at hbk
          have hbk:=hid hbk
          have hdz:(lf == sy) = false:=beq_eq_false_iff_ne.2 hd
          clear hM9
          generalize (A ++ brK g sy k).length = cl at *
          go_wp2
          go_roundw
          case rel => exact ⟨k + 1,by omega,by go_num,by rw [hbk.out];exact hMa⟩
          case measure => simp [intOf];omega
      · have hkz:¬ (k:Int) < (pp:Int):=by omega
        obtain rfl:k = pp:=by omega
        have hT2:Hid (CloM W wr W.heap.size mb (.slice ca (A ++ brK g sy k).length cc) (A ++ brG g sy) (M ++ [sy])):=hid (by unfold brG;rw [hp9.out];exact hM9.out)
        have hle2:=hid hT.out.le
        clear hM9
        generalize (A ++ brK g sy k).length = cl at *
        go_wp2
        go_roundw
        case rel => exact ⟨_,n + 1,_,by go_num,hle2.out,hcl9.out,hT2,hT⟩
        case measure => simp [intOf];omega
  · have hnz:¬ (n:Int) < (A.length:Int):=by omega
    obtain rfl:n = A.length:=by omega
    go_wp2_with (go_at_call 41;refine (GR.out _ _ A (by omega) (Its.of_row hM.out.row)).mono ?_;rintro e w5 ⟨v5,m5,rfl,hup,hmem5,hml5,hO5,hc5⟩;have hO5:=hid hO5;have hc5:=hid hc5;have hmem5:=hid hmem5;have hup:=hid hup)
    go_ret
    have e5:=hfin.out m m5 hmem.out hup.out (fun x => by rw [hmem5.out x];exact hC.out.done x)
    exact ⟨_,rfl,by rw [← e5];exact own_base hO5.out (bl_step hB.out hM.out.low).size,bl_step hB.out (bl_step hM.out.low hc5.out)⟩
end Go.Proofs.YtbpnioehmohbcaaGreat
namespace Go.Proofs.YtbpnioehmohbcaaGreat
open Go.RowKit Go.Maps Go.Sort
theorem OwnIt.keep {w u:World} {B:Nat} {v:Value} {l:List It} (h:OwnIt w B v l) (hu:Below w.heap.size w u):OwnIt u B v l:=own_below h hu
theorem newB_nil (B:Nat) (w:World):NewB B w (.slice none 0 0):=fun k hk => by cases hk
set_option maxRecDepth 20000 in
set_option maxHeartbeats 4000000 in
theorem closureYes (g:Gm) (rv nv lv pv v:Value) (l:List It) (w:World) (hf:Fits12 g) (hr:RgtI g l) (hV:GmV w rv nv lv pv g) (hI:Its w v l) (hl:l.length ≤ 1000) :
 Calls Tryz.prog 17 #[gmA rv nv lv pv g.start,v] w fun e w' => ∃ v',e = .returned v' ∧ OwnIt w' w.heap.size v' (cloL g l) ∧ Below w.heap.size w w':=by
 have GR:=hid (fun u (hu:Below w.heap.size w u) => rightIC g rv nv lv pv v l u hf (hV.keep hu) (hI.keep hu) hl)
 have GC:=hid (fun u (hu:Below w.heap.size w u) => closureC g rv nv lv pv v l u (hV.keep hu) hr (by omega) (hI.keep hu))
 rw [rgtB_yes hr] at GR
 have hB1:=al' w (.cells #[rv,nv,lv,pv,.int .i64 g.start] 27)
 have k1:=heap_new w (.cells #[rv,nv,lv,pv,.int .i64 g.start] 27)
 obtain ⟨W,hW⟩:∃ x,w.alloc (.cells #[rv,nv,lv,pv,.int .i64 g.start] 27) = x:=⟨_,rfl⟩
 rw [hW] at hB1 k1
 obtain ⟨y0,y1,y2,y3,y4⟩:=cells5m k1
 have hB:=hid hB1
 have hk1:=hid (fun u (hu:Below W.heap.size W u) => cells5m (hs_keep k1 hu))
 clear hV hI hf hB1 k1 hr
 generalize g.start = st at *
 go_enter Tryz.func17,Tryz.ntmps17
 go_wp2_with (first
  | (go_at_call 12;refine (GR.out _ hB.out).mono ?_;clear GR;rintro e w3 ⟨rfl,hc3⟩;have hc3:=hid hc3;clear y0 y1 y2 y3 y4;obtain ⟨y0,y1,y2,y3,y4⟩:=hk1.out _ hc3.out)
  | (go_at_call 34;refine (GC.out _ (bl_step hB.out hc3.out)).mono ?_;clear GC;rintro e w4 ⟨v4,rfl,hO4,hc4⟩;have hO4:=hid hO4;have hc4:=hid (bl_step hc3.out hc4)))
 go_ret
 exact ⟨_,rfl,own_base hO4.out (Nat.le_trans hB.out.size (by have:=hc3.out.size;omega)),bl_step hB.out hc4.out⟩
set_option maxRecDepth 20000 in
set_option maxHeartbeats 4000000 in
theorem closureNo (g:Gm) (rv nv lv pv v:Value) (l:List It) (w:World) (hf:Fits12 g) (hr:¬ RgtI g l) (hV:GmV w rv nv lv pv g) (hI:Its w v l) (hl:l.length ≤ 1000) :
 Calls Tryz.prog 17 #[gmA rv nv lv pv g.start,v] w fun e w' => e = .returned (.slice none 0 0) ∧ Below w.heap.size w w':=by
 have GR:=hid (fun u (hu:Below w.heap.size w u) => rightIC g rv nv lv pv v l u hf (hV.keep hu) (hI.keep hu) hl)
 rw [rgtB_no hr] at GR
 have hB1:=al' w (.cells #[rv,nv,lv,pv,.int .i64 g.start] 27)
 have k1:=heap_new w (.cells #[rv,nv,lv,pv,.int .i64 g.start] 27)
 obtain ⟨W,hW⟩:∃ x,w.alloc (.cells #[rv,nv,lv,pv,.int .i64 g.start] 27) = x:=⟨_,rfl⟩
 rw [hW] at hB1 k1
 obtain ⟨y0,y1,y2,y3,y4⟩:=cells5m k1
 have hB:=hid hB1
 clear hV hI hf hB1 k1 hr
 generalize g.start = st at *
 go_enter Tryz.func17,Tryz.ntmps17
 go_wp2_with (go_at_call 12;refine (GR.out _ hB.out).mono ?_;clear GR;rintro e w3 ⟨rfl,hc3⟩;have hc3:=hid hc3)
 go_ret
 exact ⟨rfl,bl_step hB.out hc3.out⟩
set_option maxRecDepth 100000 in
set_option maxHeartbeats 8000000 in
theorem gotoYes (g:Gm) (rv nv lv pv v:Value) (l:List It) (sy:Int) (w:World) (hf:Fits12 g) (hr:RgtI g l) (hs:sy ≠ 0) (hV:GmV w rv nv lv pv g) (hI:Its w v l) (hl:l.length ≤ 1000) :
 Calls Tryz.prog 20 #[gmA rv nv lv pv g.start,v,.int .i64 sy] w fun e w' => ∃ v',e = .returned v' ∧ OwnIt w' w.heap.size v' (gotL g l sy) ∧ Below w.heap.size w w':=by
 have GR:=hid (fun u (hu:Below w.heap.size w u) => rightIC g rv nv lv pv v l u hf (hV.keep hu) (hI.keep hu) hl)
 have GC:=hid (fun u (hu:Below w.heap.size w u) => closureC g rv nv lv pv v l u (hV.keep hu) hr (by omega) (hI.keep hu))
 have GN:=hid (fun u (hu:Below w.heap.size w u) x hx => behindC g _ _ _ _ x u (hV.keep hu) hx)
 have hgt:=hid (mv0_got hr hs)
 have hln:(cloL g l).length ≤ 369:=cloL_len hr.us.snd l
 have hit:=hid (fun x (hx:x ∈ cloL g l) => itB_of_clo hr.all ((cloL_mem hr.all).1 hx))
 have hsd:=hid (fun p (hp:p < (g.prods.length:Int)) => sidG_len hr.us.snd hp)
 rw [rgtB_yes hr] at GR
 have hB1:=al' w (.cells #[rv,nv,lv,pv,.int .i64 g.start] 27)
 have k1:=heap_new w (.cells #[rv,nv,lv,pv,.int .i64 g.start] 27)
 obtain ⟨W,hW⟩:∃ x,w.alloc (.cells #[rv,nv,lv,pv,.int .i64 g.start] 27) = x:=⟨_,rfl⟩
 rw [hW] at hB1 k1
 obtain ⟨y0,y1,y2,y3,y4⟩:=cells5m k1
 have hB:=hid hB1
 have hk1:=hid (fun u (hu:Below W.heap.size W u) => cells5m (hs_keep k1 hu))
 clear hV hI hf hB1 k1 hr
 generalize g.start = st at *
 generalize cloL g l = LC at *
 obtain ⟨ln,hl9⟩:∃ n,Hid (LC.length = n):=⟨_,hid rfl⟩
 rw [hl9.out] at hln
 go_enter Tryz.func20,Tryz.ntmps20
 go_wp2_with (first
  | (go_at_call 12;refine (GR.out _ hB.out).mono ?_;clear GR;rintro e w3 ⟨rfl,hc3⟩;have hc3:=hid hc3;clear y0 y1 y2 y3 y4;obtain ⟨y0,y1,y2,y3,y4⟩:=hk1.out _ hc3.out)
  | (go_at_call 34;refine (GC.out _ (bl_step hB.out hc3.out)).mono ?_;clear GC;rintro e w4 ⟨v4,rfl,hO4,hc4⟩;obtain ⟨ca,cc,rfl⟩:=(Its.of_row hO4).shape;have hI4:=hid (Its.of_row hO4);clear hO4;have hc4:=hid (bl_step hc3.out hc4)))
 clear hW y0 y1 y2 y3 y4
 rw [hl9.out] at hI4
 try rw [hl9.out]
 have hO0:=hid (OwnIt.nil0 w4 w4.heap.size)
 have hb0:=hid (Below.refl w4.heap.size w4)
 go_loopw [7,22] (fun a7 i u => ∃ k:Nat,k ≤ ln ∧ i = .int .i64 (k:Int) ∧ Hid (OwnIt u w4.heap.size a7 (mv0 g (LC.take k) sy)) ∧ Hid (Below w4.heap.size w4 u)) (fun _ i _ => ln - (intOf i).toNat)
 case atStart => exact ⟨0,Nat.zero_le _,rfl,hO0,hb0⟩
 case round =>
  clear hO0 hb0
  obtain ⟨k,hk,rfl,hO,hbl⟩:=hrel
  have hbW:=hid (bl_step hc4.out hbl.out)
  obtain ⟨na,nc,rfl⟩:=(Its.of_row hO.out).shape
  have hml:(mv0 g (LC.take k) sy).length ≤ 1000:=Nat.le_trans (mv0_len _ _ _) (by rw [List.length_take];omega)
  by_cases hlt:k < ln
  · have hltz:(k:Int) < (ln:Int):=by omega
    have hkl:k < LC.length:=by rw [hl9.out];exact hlt
    have hat:=hI4.out.keep hbl.out
    rw [← hl9.out] at hat
    obtain ⟨b,o,e,-,z0,z1⟩:=Lst.at hat hkl
    subst e
    have hx:=hit.out _ (List.getElem_mem hkl)
    obtain ⟨i1,i2,i3,i4⟩:=itB_iff.1 hx
    have i5:=hsd.out _ i2
    have hms:=hid (mv0_succ (g:=g) hkl sy)
    have hal:=al' wr (.cells #[.int .i64 LC[k].1,.int .i64 LC[k].2] 29)
    have hbx:=hid (bl_step hbW.out hal)
    obtain ⟨q0,q1⟩:=cells2h (heap_new wr (.cells #[.int .i64 LC[k].1,.int .i64 LC[k].2] 29))
    have hk2:=hid (fun u (hu:Below (wr.alloc (.cells #[.int .i64 LC[k].1,.int .i64 LC[k].2] 29)).heap.size (wr.alloc (.cells #[.int .i64 LC[k].1,.int .i64 LC[k].2] 29)) u) => cells2h (hs_keep (heap_new wr (.cells #[.int .i64 LC[k].1,.int .i64 LC[k].2] 29)) hu))
    obtain ⟨y0,y1,y2,y3,y4⟩:=hk1.out _ hbx.out
    have GN:Hid (Calls Tryz.prog 29 #[gmA rv nv lv pv st,.agg #[.int .i64 LC[k].1,.int .i64 LC[k].2]] (wr.alloc (.cells #[.int .i64 LC[k].1,.int .i64 LC[k].2] 29)) fun e w' => e = .returned (.int .i64 (nxtG g LC[k])) ∧ Below (wr.alloc (.cells #[.int .i64 LC[k].1,.int .i64 LC[k].2] 29)).heap.size (wr.alloc (.cells #[.int .i64 LC[k].1,.int .i64 LC[k].2] 29)) w'):=hid (GN.out _ (bl_step hB.out hbx.out) LC[k] hx)
    have hO1:=hid (OwnIt.keep hO.out hal)
    have hb1:=hid (bl_step hbl.out hal)
    have j1:0 ≤ LC[k].2:=i3
    have j2:LC[k].2 ≤ 8:=by omega
    clear hat hal hx i1 i2 i3 i4 i5 hO
    generalize nxtG g LC[k] = nx at *
    generalize LC[k].1 = a1 at *
    generalize LC[k].2 = a2 at *
    generalize hmm:mv0 g (LC.take k) sy = MV at *
    obtain ⟨ml,hm9⟩:∃ n,Hid (MV.length = n):=⟨_,hid rfl⟩
    rw [hm9.out] at hml hO1 ⊢
    by_cases hd:nx = sy
    · subst hd
      rw [if_pos rfl] at hms
      clear hmm
      go_wp2_with (first
       | (go_at_call 29;refine GN.out.mono ?_;clear GN;rintro e w5 ⟨rfl,hc5⟩;have hO5:=hid (OwnIt.keep hO1.out hc5);have hb5:=hid (bl_step hb1.out hc5);clear y0 y1 y2 y3 y4 q0 q1;obtain ⟨q0,q1⟩:=hk2.out _ hc5;have hal5:=al' w5 (.cells #[.int .i64 a1,.int .i64 (a2 + 1)] 29);have hOa:=hid (OwnIt.keep hO5.out hal5);have hDa:=hid (Its.lit1 w5 a1 (a2 + 1));have hBa:=hid (bl_step hb5.out hal5);clear hal5 hc5)
       | (at_builtin;refine wp_appI _ rfl _ _ rfl w4.heap.size MV [(a1,a2 + 1)] _ _ rfl rfl hOa.out hDa.out (by rw [hm9.out];simp;omega) hBa.out.size ?_;intro v9 w9 hO9 hb9;have hO9:=hid hO9;have hb9:=hid (hBa.out.trans hb9)))
      go_roundw
      case rel => exact ⟨k + 1,by omega,by go_num,by rw [hms.out];exact hO9,hb9⟩
      case measure => simp [intOf];omega
    · rw [if_neg hd] at hms
      have hdz:(nx == sy) = false:=beq_eq_false_iff_ne.2 hd
      clear hmm
      go_wp2_with (go_at_call 29;refine GN.out.mono ?_;clear GN;rintro e w5 ⟨rfl,hc5⟩;have hO5:=hid (OwnIt.keep hO1.out hc5);have hb5:=hid (bl_step hb1.out hc5);clear hc5)
      go_roundw
      case rel => exact ⟨k + 1,by omega,by go_num,by rw [hms.out];exact hO5,hb5⟩
      case measure => simp [intOf];omega
  · have hltz:¬ (k:Int) < (ln:Int):=by omega
    obtain rfl:k = ln:=by omega
    have hO9:Hid (OwnIt wr w4.heap.size (.slice na (mv0 g (LC.take k) sy).length nc) (gotL g l sy)):=hid (by
     have h:=hO.out
     rw [← hl9.out,List.take_length] at h
     rw [← hl9.out,List.take_length]
     rw [← hgt.out]
     exact h)
    clear hO
    generalize (mv0 g (LC.take k) sy).length = ml at *
    go_wp2
    go_ret
    exact ⟨_,rfl,own_base hO9.out (bl_step hB.out hc4.out).size,bl_step hB.out hbW.out⟩
set_option maxRecDepth 20000 in
set_option maxHeartbeats 4000000 in
theorem gotoNil (g:Gm) (rv nv lv pv v:Value) (l:List It) (sy:Int) (w:World) (hf:Fits12 g) (hr:sy = 0 ∨ ¬ RgtI g l) (hV:GmV w rv nv lv pv g) (hI:Its w v l) (hl:l.length ≤ 1000) :
 Calls Tryz.prog 20 #[gmA rv nv lv pv g.start,v,.int .i64 sy] w fun e w' => e = .returned (.slice none 0 0) ∧ Below w.heap.size w w':=by
 have GR:=hid (fun u (hu:Below w.heap.size w u) => rightIC g rv nv lv pv v l u hf (hV.keep hu) (hI.keep hu) hl)
 have hB1:=al' w (.cells #[rv,nv,lv,pv,.int .i64 g.start] 27)
 have k1:=heap_new w (.cells #[rv,nv,lv,pv,.int .i64 g.start] 27)
 obtain ⟨W,hW⟩:∃ x,w.alloc (.cells #[rv,nv,lv,pv,.int .i64 g.start] 27) = x:=⟨_,rfl⟩
 rw [hW] at hB1 k1
 obtain ⟨y0,y1,y2,y3,y4⟩:=cells5m k1
 have hB:=hid hB1
 by_cases hs:sy = 0
 · subst hs
   clear hV hI hf hB1 k1 hr
   generalize g.start = st at *
   go_enter Tryz.func20,Tryz.ntmps20
   go_wp2
   go_ret
   exact ⟨rfl,hB.out⟩
 · have hr:=hr.resolve_left hs
   rw [rgtB_no hr] at GR
   clear hV hI hf hB1 k1 hr
   generalize g.start = st at *
   go_enter Tryz.func20,Tryz.ntmps20
   go_wp2_with (go_at_call 12;refine (GR.out _ hB.out).mono ?_;clear GR;rintro e w3 ⟨rfl,hc3⟩;have hc3:=hid hc3)
   go_ret
   exact ⟨rfl,bl_step hB.out hc3.out⟩
theorem itmOK:ItmOK where
 right g rv nv lv pv v l u hf hV hI hl:=rightIC g rv nv lv pv v l u hf hV hI hl
 sideYes g rv nv lv pv p u hf hU hp hV:=(sideIC g rv nv lv pv p u hf hV).mono fun e w' ⟨v,h1,h2,h3⟩ => ⟨v,h1,by rw [if_pos ⟨usB_yes hU,hp⟩] at h2;exact h2,h3⟩
 sideNo g rv nv lv pv p u hf hn hV:=(sideIC g rv nv lv pv p u hf hV).mono fun e w' ⟨v,h1,h2,h3⟩ => ⟨v,h1,by rw [if_neg (fun h => hn ⟨usB_iff.1 h.1,h.2⟩)] at h2;exact h2,h3⟩
 nextYes g rv nv lv pv x u hf hU hx hV:=(nextIC g rv nv lv pv x u hf hV).mono fun e w' ⟨h1,h3⟩ => ⟨by rw [if_pos ⟨usB_yes hU,hx⟩] at h1;exact h1,h3⟩
 nextNo g rv nv lv pv x u hf hn hV:=(nextIC g rv nv lv pv x u hf hV).mono fun e w' ⟨h1,h3⟩ => ⟨by rw [if_neg (fun h => hn ⟨usB_iff.1 h.1,h.2⟩)] at h1;exact h1,h3⟩
 cloYes g rv nv lv pv v l u hf hr hV hI hl:=(closureYes g rv nv lv pv v l u hf hr hV hI hl).mono fun e w' ⟨v',h1,h2,h3⟩ => ⟨v',h1,Its.of_row h2,h2.new,h3⟩
 cloNo g rv nv lv pv v l u hf hr hV hI hl:=(closureNo g rv nv lv pv v l u hf hr hV hI hl).mono fun e w' ⟨h1,h3⟩ => ⟨_,h1,Its.nil _,h3⟩
 gotYes g rv nv lv pv v l s u hf hr hV hI hl:=by
  by_cases hs:s = 0
  · subst hs
    refine (gotoNil g rv nv lv pv v l 0 u hf (.inl rfl) hV hI hl).mono fun e w' ⟨h1,h3⟩ => ⟨_,h1,?_,newB_nil _ _,h3⟩
    rw [gotL_zero]
    exact Its.nil _
  · exact (gotoYes g rv nv lv pv v l s u hf hr hs hV hI hl).mono fun e w' ⟨v',h1,h2,h3⟩ => ⟨v',h1,Its.of_row h2,h2.new,h3⟩
 gotNo g rv nv lv pv v l s u hf hr hV hI hl:=(gotoNil g rv nv lv pv v l s u hf (.inr hr) hV hI hl).mono fun e w' ⟨h1,h3⟩ => ⟨_,h1,Its.nil _,h3⟩
end Go.Proofs.YtbpnioehmohbcaaGreat
namespace Go.Proofs.YtbpnioehmohbcaaGreat
open Go.RowKit Go.ChangeShapes Go.WideShapes
theorem exI_prs:prs exI = some (prsG exI):=prs_of exI_words exI_err
theorem exI_fit1:(decide ((prsG exI).rules.length ≤ 40) && decide ((prsG exI).nonts.length ≤ 40) && decide ((prsG exI).levels.length ≤ 100) && decide ((prsG exI).prods.length ≤ 60)) = true:=by decide +kernel
theorem exI_fit2:((prsG exI).rules.all (fun r => decide (r.re.length ≤ 100) && decide (r.name.length ≤ 100)) && (prsG exI).nonts.all (fun t => decide (t.length ≤ 100)) && (prsG exI).prods.all (fun p => decide (p.right.length ≤ 30))) = true:=by decide +kernel
theorem exI_fits:Fits12 (prsG exI):=by
 have h1:=exI_fit1
 have h2:=exI_fit2
 simp only [Bool.and_eq_true,decide_eq_true_eq,List.all_eq_true] at h1 h2
 exact ⟨h1.1.1.1,h1.1.1.2,h1.1.2,h1.2,fun j h => h2.1.1 _ (List.getElem_mem h),fun j h => h2.1.2 _ (List.getElem_mem h),fun j h => h2.2 _ (List.getElem_mem h)⟩
theorem wkOK16:WkOK16:=wkOK16_of itmOK exI_fits (prs_sndG exI_prs) fun u => prsOK.yes exI _ u (by decide) exI_prs
set_option maxRecDepth 20000 in
theorem Tryz.cellsOfIt:Tryz.prog.cellsOf 29 = 2:=by kernel_rfl
section
variable {H:Type} {enc:TypeId × Value → H} {W:World}
set_option maxRecDepth 20000 in
theorem it_el (fuel:Nat) (cs:List Value) (x:DataW H × List MemPlace) (b o:Nat) (hf:DataW.trod enc Tryz.prog W 0 (fun _ => true) true fuel 29 cs = some x) (hl:cs.length = 2) (hc:∀ j,j < 2 → W.cell? ⟨b,o + j,none⟩ = cs[j]?):∃ y:Int × Int,LevAt W b o y:=by
 obtain ⟨y0,y1,m,_,_,t0,t1⟩:=trod_struct2 Tryz.underlying29 hf
 match cs,hl with
 | [c0,c1],_ =>
  obtain ⟨p,e0,_,_⟩:=DataW.trod_int Tryz.underlying3 t0
  obtain ⟨q,e1,_,_⟩:=DataW.trod_int Tryz.underlying3 t1
  simp [Tryz.cellsOf3] at e0 e1
  subst e0 e1
  exact ⟨(p,q),hc 0 (by omega),hc 1 (by omega)⟩
set_option maxRecDepth 20000 in
theorem open_item {v:Value} {d:DataW H} {q:List MemPlace} {base:Nat} (hv:Value.okWide Tryz.prog W .any base 29 v) (h:DataW.Trod enc Tryz.prog W 0 (fun _ => true) true 29 v d q):∃ x:It,v = itV x:=by
 obtain ⟨cs,rfl,hcs⟩:=okWide_struct Tryz.underlying29 hv
 obtain ⟨fuel,hf⟩:=h
 rw [Tryz.cellsOfIt] at hcs
 obtain ⟨y0,y1,m,_,_,t0,t1⟩:=trod_struct2 Tryz.underlying29 hf
 obtain ⟨cl⟩:=cs
 match cl,hcs with
 | [c0,c1],_ =>
  obtain ⟨p,e0,_,_⟩:=DataW.trod_int Tryz.underlying3 t0
  obtain ⟨q,e1,_,_⟩:=DataW.trod_int Tryz.underlying3 t1
  simp [Tryz.cellsOf3,Value.cells] at e0 e1
  subst e0 e1
  exact ⟨(p,q),rfl⟩
set_option maxRecDepth 20000 in
theorem open_its {v:Value} {d:DataW H} {q:List MemPlace} (h:DataW.Trod enc Tryz.prog W 0 (fun _ => true) true 36 v d q) {base:Nat} (hv:Value.okWide Tryz.prog W .any base 36 v) :
 ∃ l:List It,Its W v l ∧ l.length ≤ 9223372036854775807:=by
 obtain ⟨ao,len,cap,rfl⟩:=okWide_slice Tryz.underlying36 hv
 obtain ⟨fuel,hf⟩:=h
 obtain ⟨l,v,e,hI,hl⟩:=lst_of_trod Tryz.underlying36 Tryz.cellsOfIt (by omega) it_el hf
 simp [Value.cells] at e
 subst e
 exact ⟨l,hI,hl⟩
set_option maxRecDepth 20000 in
theorem its_datum {v:Value} {d:DataW H} {p:List MemPlace} {l:List It} (h:DataW.Trod enc Tryz.prog W 0 (fun _ => true) true 36 v d p) (hI:Its W v l):l.length = 0 ∨ ∃ elems spare,d = .slice elems spare ∧ elems.length = l.length:=by
 obtain ⟨a,c,rfl⟩:=hI.shape
 obtain ⟨fuel,hf⟩:=h
 rcases Deep.open_slice Tryz.underlying36 hf with ⟨hcs,_⟩ | ⟨a',len,cap,m,n,D,Pl,hcs,_,hl,hm,hmm,hd,hx⟩
 · simp [Value.cells] at hcs
   exact .inl (by rw [hcs.2.1];rfl)
 · simp [Value.cells] at hcs
   obtain ⟨-,e,-⟩:=hcs
   exact .inr ⟨_,_,congrArg Prod.fst hd,by simp [e]⟩
end
set_option maxRecDepth 20000 in
theorem its_reach {H:Type} {ts:List TypeId} {ds:List (DataW H)} {d:DataW H} {len:Nat} (hsz:(DataW.weightsEach Tryz.prog ts ds).all (· ≤ reachBytes) = true) {j:Nat} (ht:ts[j]? = some 36) (hd:ds[j]? = some d) (h:len = 0 ∨ ∃ elems spare,d = .slice elems spare ∧ elems.length = len):len ≤ 140737488355328:=by
 rcases h with rfl | ⟨elems,spare,rfl,he⟩
 · omega
 · have:=sized_slice hsz (j:=j) ht hd Tryz.underlying36
   rw [show Tryz.prog.bytesOf 29 = 16 by kernel_rfl] at this
   have:=reachBytes_lt
   omega
end Go.Proofs.YtbpnioehmohbcaaGreat
