/- FirstOf's walk. -/
import Derived.Test.YtfhokapfkclckaaGreatJ32
import Derived.Test.YtfhokapfkclckaaGreatJ23
import Derived.Test.YtfhokapfkclckaaGreatJ28
namespace Go.Proofs.YtfhokapfkclckaaGreat
open Go.RowKit Go.Maps Go.Sort
theorem collapseWV {R F:World → Value → Prop} {G:Prop} (h:(∀ V v,F V v → R V v) → G) (pf:∀ V v,F V v → R V v):G:=h pf
set_option maxRecDepth 20000 in
theorem copyInts (u:World) (v:Value) (l:List Int) (h:Nums u v l) (hl:l.length ≤ 1000) :
 ∃ a c w',(Builtin.append_ #[30,30] 30 #[.slice (some ⟨u.heap.size,0,none⟩) 0 0,v]).run Tryz.prog (u.alloc (.cells #[] 3)) = .ok (.slice a l.length c) w' ∧ Nums w' (.slice a l.length c) l ∧ Below u.heap.size u w':=by
 obtain ⟨i0,hi,hz0,hz1,hz2⟩:=info_parts Tryz.info3
 obtain ⟨v',w',hr,hO,hb⟩:=run_appG (tS:=30) (ty:=30) (u:=u) Tryz.underlying30 hi hz0 hz1 hz2 rfl (by decide) (nums_rw h) (by omega) (by omega)
 have hN:=nums_own hO
 obtain ⟨a,c,e⟩:=shapeN15 hN
 subst e
 exact ⟨a,c,w',hr,hN,hb⟩
set_option maxRecDepth 20000 in
set_option maxHeartbeats 16000000 in
theorem firstOfWalk (HF:FstOK) (HW:WkOK15) (rv nv lv pv tv:Value) (g:Gm) (t:List Int) (w:World) (h:GmV w rv nv lv pv g) (ht:Nums w tv t) (htl:t.length ≤ 9223372036854775807):Calls Tryz.prog 4 #[gmA rv nv lv pv g.start,tv] w fun e w' => e = .returned (.bool true) ∧ Below w.heap.size w w':=by
 have hKp:=hid (fun u (hu:Below w.heap.size w u) => h.keep hu)
 have hTp:=hid (fun u (hu:Below w.heap.size w u) => ht.keep hu)
 have hB1:=al' w (.cells #[rv,nv,lv,pv,.int .i64 g.start] 27)
 have k1:=heap_new w (.cells #[rv,nv,lv,pv,.int .i64 g.start] 27)
 obtain ⟨W,hW⟩:∃ x,w.alloc (.cells #[rv,nv,lv,pv,.int .i64 g.start] 27) = x:=⟨_,rfl⟩
 rw [hW] at hB1 k1
 have hk1:=hid (fun u (hu:Below W.heap.size W u) => cells5m (hs_keep k1 hu))
 have hB:=hid hB1
 have GW:=hid (HW.wakes W)
 obtain ⟨ta,tc,rfl,-⟩:=id ht
 by_cases hf:Fits12 g
 · have GL:=hid (fun u (hu:Below w.heap.size w u) => longNo _ _ _ _ g u (hKp.out u hu) hf)
   by_cases hl:t.length ≤ 40
   · have GS:=hid (fun u (hu:Below w.heap.size w u) => refSound g _ _ _ _ u (hKp.out u hu) hf.bnd hf.names)
     have hcp:=hid (fun u (hu:Below W.heap.size W u) => copyInts u (.slice ta t.length tc) t (hTp.out u (bl_step hB1 hu)) (by omega))
     by_cases hg:SndG g
     · by_cases hs:SymP g t
       · skip
         have GY:=hid (fun u (hu:Below w.heap.size w u) => refSymbols g rv nv lv pv (.slice ta t.length tc) t u (hKp.out u hu) (by have:=hf.bnd.rules;omega) (by have:=hf.bnd.nonts;omega) (by omega) (hTp.out u hu))
         rw [symB15_iff.2 hs] at GY
         have GA:Hid (∀ u v,Below W.heap.size W u → Nums u v t → Calls Tryz.prog 14 #[gmA rv nv lv pv g.start,v] u fun e w' => ∃ v',e = .returned (.tuple #[v',.bool (goneB (nulL g) t)]) ∧ Nums w' v' (firL g t) ∧ Below u.heap.size u w'):=hid (fun u v hu hv => HF.ofYes g _ _ _ _ v t u hf hg hs (by omega) (hKp.out u (bl_step hB1 hu)) hv)
         have GR:=hid (fun u (hu:Below w.heap.size w u) => refOf15 g rv nv lv pv (.slice ta t.length tc) t u (hKp.out u hu) hf.bnd hg (by omega) (hTp.out u hu) hs)
         have l1:=firL_len hg hs
         have GX:=hid (fun u v v' (h1:Nums u v (firL g t)) (h2:Nums u v' (firL g t)) => refSame v v' _ _ u (by omega) (by omega) h1 h2)
         rw [decide_eq_true rfl] at GX
         rw [soundB_yes hg] at GS
         clear h hB1 k1 hf HF HW ht hKp hTp hg hs
         obtain ⟨L,hL9⟩:∃ n,Hid (firL g t = n):=⟨_,hid rfl⟩
         rw [hL9.out] at GA GR GX l1
         generalize goneB (nulL g) t = GB at *
         have hlz:(t.length:Int) ≤ 40:=by omega
         have hlz2:¬ (40:Int) < (t.length:Int):=by omega
         obtain ⟨tl,htl9⟩:∃ n,Hid (t.length = n):=⟨_,hid rfl⟩
         rw [htl9.out] at hcp GY GR hlz hlz2 ⊢
         generalize g.start = st at *
         go_enter Tryz.func4,Tryz.ntmps4
         go_wp2_with (first
          | (go_at_call 8;refine GW.out.mono ?_;rintro e w1 ⟨rfl,hc1⟩;have h1:=hid hc1;obtain ⟨x0,x1,x2,x3,x4⟩:=hk1.out w1 h1.out;clear hc1)
          | (go_at_call 9;refine (GL.out _ (bl_step hB.out h1.out)).mono ?_;rintro e w2 ⟨rfl,hc2⟩;have h2:=hid (bl_step h1.out hc2);clear hc2 x0 x1 x2 x3 x4;obtain ⟨x0,x1,x2,x3,x4⟩:=hk1.out w2 h2.out))
         obtain ⟨ca,cc,u3,hrun,hN3,hb3⟩:=hcp.out w2.drew h2.out.drew
         have h3:=hid (bl_step h2.out.drew hb3)
         apply collapseWV (F:=fun V v => Nums V v L ∧ Below W.heap.size W V)
         case h =>
          intro rest
          have h2a:=hid (bl_step h2.out (al' w2 (.cells #[] 3)))
          obtain ⟨y0,y1,y2,y3,y4⟩:=hk1.out u3 h3.out
          obtain ⟨z0,z1,z2,z3,z4⟩:=hk1.out _ h2a.out
          have GA3:=hid (GA.out u3 _ h3.out hN3)
          go_region_law ((first
           | (refine step_run (by rfl) (.tmp 20) (.tmp 21) 30 (by rfl) _ _ (by rfl) (by rfl) hrun ?_)
           | (refine step_call15 (by rfl) 14 #[gmA rv nv lv pv st,.slice ca tl cc] (by go_simp) GA3.out ?_;rintro e w5 ⟨v5,rfl,hN5,hc5⟩;refine ⟨_,rfl,?_⟩;have hN5:=hid hN5;have h5:=hid (bl_step h3.out hc5);clear hc5)))
          all_goals exact rest w5 v5 ⟨hN5.out,h5.out⟩
         case pf =>
          rintro V v ⟨hNV,hBV⟩
          obtain ⟨va,vc,rfl⟩:=shapeN15 hNV
          have hNV:=hid hNV
          have h5:=hid hBV
          clear hBV
          obtain ⟨q0,q1,q2,q3,q4⟩:=hk1.out V h5.out
          go_wp2_with (first
           | (go_at_call 11;refine (GS.out _ (bl_step hB.out h5.out)).mono ?_;rintro e w6 ⟨rfl,hc6⟩;have h6:=hid (bl_step h5.out hc6);have hN6:=hid (hNV.out.keep hc6);obtain ⟨r0,r1,r2,r3,r4⟩:=hk1.out w6 h6.out;clear hc6)
           | (go_at_call 15;refine (GY.out _ (bl_step hB.out h6.out)).mono ?_;rintro e w7 ⟨rfl,hc7⟩;have h7:=hid (bl_step h6.out hc7);have hN7:=hid (hN6.out.keep hc7);obtain ⟨s0,s1,s2,s3,s4⟩:=hk1.out w7 h7.out;clear hc7)
           | (go_at_call 16;refine (GR.out _ (bl_step hB.out h7.out)).mono ?_;rintro e w8 ⟨v8,rfl,⟨B8,hO8⟩,hc8⟩;have h8:=hid (bl_step h7.out hc8);have hN8:=hid (hN7.out.keep hc8);have hM8:=hid (Nums.of_row hO8);clear hO8 hc8)
           | (go_at_call 12;refine (GX.out _ _ _ hN8.out hM8.out).mono ?_;rintro e w9 ⟨rfl,hc9⟩;have h9:=hid (bl_step h8.out hc9);clear hc9))
          go_ret
          exact ⟨by simp,bl_step hB.out h9.out⟩
       · skip
         have GY:=hid (fun u (hu:Below w.heap.size w u) => refSymbols g rv nv lv pv (.slice ta t.length tc) t u (hKp.out u hu) (by have:=hf.bnd.rules;omega) (by have:=hf.bnd.nonts;omega) (by omega) (hTp.out u hu))
         rw [show symB15 g t = false from Bool.eq_false_iff.2 (fun e => hs (symB15_iff.1 e))] at GY
         rw [soundB_yes hg] at GS
         have hno:¬ (SndG g ∧ SymP g t):=fun h => hs h.2
         have GA:Hid (∀ u v,Below W.heap.size W u → Nums u v t → Calls Tryz.prog 14 #[gmA rv nv lv pv g.start,v] u fun e w' => ∃ v',e = .returned (.tuple #[v',.bool false]) ∧ Nums w' v' [] ∧ Below u.heap.size u w'):=hid (fun u v hu hv => HF.ofNo g _ _ _ _ v t u hf hno (by omega) (hKp.out u (bl_step hB1 hu)) hv)
         clear h hB1 k1 hf HF HW ht hKp hTp hg hs hno
         obtain ⟨L,hL9⟩:∃ n:List Int,Hid (([]:List Int) = n):=⟨_,hid rfl⟩
         rw [hL9.out] at GA
         have hlz:(t.length:Int) ≤ 40:=by omega
         have hlz2:¬ (40:Int) < (t.length:Int):=by omega
         obtain ⟨tl,htl9⟩:∃ n,Hid (t.length = n):=⟨_,hid rfl⟩
         rw [htl9.out] at hcp GY hlz hlz2 ⊢
         generalize g.start = st at *
         go_enter Tryz.func4,Tryz.ntmps4
         go_wp2_with (first
          | (go_at_call 8;refine GW.out.mono ?_;rintro e w1 ⟨rfl,hc1⟩;have h1:=hid hc1;obtain ⟨x0,x1,x2,x3,x4⟩:=hk1.out w1 h1.out;clear hc1)
          | (go_at_call 9;refine (GL.out _ (bl_step hB.out h1.out)).mono ?_;rintro e w2 ⟨rfl,hc2⟩;have h2:=hid (bl_step h1.out hc2);clear hc2 x0 x1 x2 x3 x4;obtain ⟨x0,x1,x2,x3,x4⟩:=hk1.out w2 h2.out))
         obtain ⟨ca,cc,u3,hrun,hN3,hb3⟩:=hcp.out w2.drew h2.out.drew
         have h3:=hid (bl_step h2.out.drew hb3)
         apply collapseWV (F:=fun V v => Nums V v L ∧ Below W.heap.size W V)
         case h =>
          intro rest
          have h2a:=hid (bl_step h2.out (al' w2 (.cells #[] 3)))
          obtain ⟨y0,y1,y2,y3,y4⟩:=hk1.out u3 h3.out
          obtain ⟨z0,z1,z2,z3,z4⟩:=hk1.out _ h2a.out
          have GA3:=hid (GA.out u3 _ h3.out hN3)
          go_region_law ((first
           | (refine step_run (by rfl) (.tmp 20) (.tmp 21) 30 (by rfl) _ _ (by rfl) (by rfl) hrun ?_)
           | (refine step_call15 (by rfl) 14 #[gmA rv nv lv pv st,.slice ca tl cc] (by go_simp) GA3.out ?_;rintro e w5 ⟨v5,rfl,hN5,hc5⟩;refine ⟨_,rfl,?_⟩;have hN5:=hid hN5;have h5:=hid (bl_step h3.out hc5);clear hc5)))
          all_goals exact rest w5 v5 ⟨hN5.out,h5.out⟩
         case pf =>
          rintro V v ⟨hNV,hBV⟩
          obtain ⟨va,vc,rfl⟩:=shapeN15 hNV
          have hNV:=hid hNV
          have h5:=hid hBV
          clear hBV
          obtain ⟨q0,q1,q2,q3,q4⟩:=hk1.out V h5.out
          have hvl:L.length = 0:=by rw [← hL9.out];rfl
          rw [hvl]
          go_wp2_with (first
           | (go_at_call 11;refine (GS.out _ (bl_step hB.out h5.out)).mono ?_;rintro e w6 ⟨rfl,hc6⟩;have h6:=hid (bl_step h5.out hc6);obtain ⟨r0,r1,r2,r3,r4⟩:=hk1.out w6 h6.out;clear hc6)
           | (go_at_call 15;refine (GY.out _ (bl_step hB.out h6.out)).mono ?_;rintro e w7 ⟨rfl,hc7⟩;have h7:=hid (bl_step h6.out hc7);clear hc7))
          go_ret
          exact ⟨by simp,bl_step hB.out h7.out⟩
     · skip
       rw [soundB_no hg] at GS
       have hno:¬ (SndG g ∧ SymP g t):=fun h => hg h.1
       have GA:Hid (∀ u v,Below W.heap.size W u → Nums u v t → Calls Tryz.prog 14 #[gmA rv nv lv pv g.start,v] u fun e w' => ∃ v',e = .returned (.tuple #[v',.bool false]) ∧ Nums w' v' [] ∧ Below u.heap.size u w'):=hid (fun u v hu hv => HF.ofNo g _ _ _ _ v t u hf hno (by omega) (hKp.out u (bl_step hB1 hu)) hv)
       clear h hB1 k1 hf HF HW ht hKp hTp hg hno
       obtain ⟨L,hL9⟩:∃ n:List Int,Hid (([]:List Int) = n):=⟨_,hid rfl⟩
       rw [hL9.out] at GA
       have hlz:(t.length:Int) ≤ 40:=by omega
       have hlz2:¬ (40:Int) < (t.length:Int):=by omega
       obtain ⟨tl,htl9⟩:∃ n,Hid (t.length = n):=⟨_,hid rfl⟩
       rw [htl9.out] at hcp hlz hlz2 ⊢
       generalize g.start = st at *
       go_enter Tryz.func4,Tryz.ntmps4
       go_wp2_with (first
        | (go_at_call 8;refine GW.out.mono ?_;rintro e w1 ⟨rfl,hc1⟩;have h1:=hid hc1;obtain ⟨x0,x1,x2,x3,x4⟩:=hk1.out w1 h1.out;clear hc1)
        | (go_at_call 9;refine (GL.out _ (bl_step hB.out h1.out)).mono ?_;rintro e w2 ⟨rfl,hc2⟩;have h2:=hid (bl_step h1.out hc2);clear hc2 x0 x1 x2 x3 x4;obtain ⟨x0,x1,x2,x3,x4⟩:=hk1.out w2 h2.out))
       obtain ⟨ca,cc,u3,hrun,hN3,hb3⟩:=hcp.out w2.drew h2.out.drew
       have h3:=hid (bl_step h2.out.drew hb3)
       apply collapseWV (F:=fun V v => Nums V v L ∧ Below W.heap.size W V)
       case h =>
        intro rest
        have h2a:=hid (bl_step h2.out (al' w2 (.cells #[] 3)))
        obtain ⟨y0,y1,y2,y3,y4⟩:=hk1.out u3 h3.out
        obtain ⟨z0,z1,z2,z3,z4⟩:=hk1.out _ h2a.out
        have GA3:=hid (GA.out u3 _ h3.out hN3)
        go_region_law ((first
         | (refine step_run (by rfl) (.tmp 20) (.tmp 21) 30 (by rfl) _ _ (by rfl) (by rfl) hrun ?_)
         | (refine step_call15 (by rfl) 14 #[gmA rv nv lv pv st,.slice ca tl cc] (by go_simp) GA3.out ?_;rintro e w5 ⟨v5,rfl,hN5,hc5⟩;refine ⟨_,rfl,?_⟩;have hN5:=hid hN5;have h5:=hid (bl_step h3.out hc5);clear hc5)))
        all_goals exact rest w5 v5 ⟨hN5.out,h5.out⟩
       case pf =>
        rintro V v ⟨hNV,hBV⟩
        obtain ⟨va,vc,rfl⟩:=shapeN15 hNV
        have hNV:=hid hNV
        have h5:=hid hBV
        clear hBV
        obtain ⟨q0,q1,q2,q3,q4⟩:=hk1.out V h5.out
        have hvl:L.length = 0:=by rw [← hL9.out];rfl
        rw [hvl]
        go_wp2_with (go_at_call 11;refine (GS.out _ (bl_step hB.out h5.out)).mono ?_;rintro e w6 ⟨rfl,hc6⟩;have h6:=hid (bl_step h5.out hc6);clear hc6)
        go_ret
        exact ⟨by simp,bl_step hB.out h6.out⟩
   · have hlz:¬ (t.length:Int) ≤ 40:=by omega
     have hlz2:(40:Int) < (t.length:Int):=by omega
     generalize t.length = tl at *
     clear h hB1 k1 hf HF HW ht
     generalize g.start = st at *
     go_enter Tryz.func4,Tryz.ntmps4
     go_wp2_with (first
      | (go_at_call 8;refine GW.out.mono ?_;clear GW;rintro e w1 ⟨rfl,hc1⟩;have h1:=hid hc1;obtain ⟨x0,x1,x2,x3,x4⟩:=hk1.out w1 h1.out;clear hc1)
      | (go_at_call 9;refine (GL.out _ (bl_step hB.out h1.out)).mono ?_;clear GL;rintro e w2 ⟨rfl,hc2⟩;have h2:=hid (bl_step h1.out hc2);clear hc2))
     go_ret
     exact ⟨rfl,bl_step hB.out h2.out⟩
 · have GL:=hid (fun u (hu:Below w.heap.size w u) => longYes _ _ _ _ g u (hKp.out u hu) hf)
   generalize t.length = tl at *
   clear h hB1 k1 hf HF HW ht hTp
   generalize g.start = st at *
   go_enter Tryz.func4,Tryz.ntmps4
   go_wp2_with (first
    | (go_at_call 8;refine GW.out.mono ?_;clear GW;rintro e w1 ⟨rfl,hc1⟩;have h1:=hid hc1;obtain ⟨x0,x1,x2,x3,x4⟩:=hk1.out w1 h1.out;clear hc1)
    | (go_at_call 9;refine (GL.out _ (bl_step hB.out h1.out)).mono ?_;clear GL;rintro e w2 ⟨rfl,hc2⟩;have h2:=hid (bl_step h1.out hc2);clear hc2))
   go_ret
   exact ⟨rfl,bl_step hB.out h2.out⟩
end Go.Proofs.YtfhokapfkclckaaGreat
