/- ItemsMore's walk. ItemsMore: of any grammar and any two lists of items the law answers true: the closure of both together has all that the closure of one has, and that has its items; no condition. -/
import Derived.Test.YtbpnioehmohbcaaGreatJ36
import Derived.Test.YtbpnioehmohbcaaGreatRows
import Derived.Test.YtbpnioehmohbcaaGreatJ1
import Derived.Test.YtbpnioehmohbcaaGreatJ43
namespace Go.Proofs.YtbpnioehmohbcaaGreat
open Go.RowKit Go.Maps Go.Sort
set_option maxRecDepth 100000 in
set_option maxHeartbeats 16000000 in
theorem itemsMoreWalk (HF:ItmOK) (HW:WkOK16) (rv nv lv pv av bv:Value) (g:Gm) (a b:List It) (w:World) (h:GmV w rv nv lv pv g) (ha:Its w av a) (hb:Its w bv b) (hal:a.length ≤ 140737488355328) (hbl:b.length ≤ 140737488355328):Calls Tryz.prog 7 #[gmA rv nv lv pv g.start,av,bv] w fun e w' => e = .returned (.bool true) ∧ Below w.heap.size w w':=by
 have hKp:=hid (fun u (hu:Below w.heap.size w u) => h.keep hu)
 have hAp:=hid (fun u (hu:Below w.heap.size w u) => ha.keep hu)
 have hBp:=hid (fun u (hu:Below w.heap.size w u) => hb.keep hu)
 have hB1:=al' w (.cells #[rv,nv,lv,pv,.int .i64 g.start] 27)
 have k1:=heap_new w (.cells #[rv,nv,lv,pv,.int .i64 g.start] 27)
 obtain ⟨W,hW⟩:∃ x,w.alloc (.cells #[rv,nv,lv,pv,.int .i64 g.start] 27) = x:=⟨_,rfl⟩
 rw [hW] at hB1 k1
 have hk1:=hid (fun u (hu:Below W.heap.size W u) => cells5m (hs_keep k1 hu))
 have hB:=hid hB1
 have GW:=hid (HW.wakes W)
 obtain ⟨aa,ac,rfl⟩:=ha.shape
 obtain ⟨ba,bc,rfl⟩:=hb.shape
 by_cases hf:Fits12 g
 · have GL:=hid (fun u (hu:Below w.heap.size w u) => longNo _ _ _ _ g u (hKp.out u hu) hf)
   by_cases hl:a.length + b.length ≤ 60
   · have GRa:=hid (fun u (hu:Below w.heap.size w u) => refRightI g rv nv lv pv (.slice aa a.length ac) a u (hKp.out u hu) hf.bnd hf.names (by omega) (hAp.out u hu))
     have GRb:=hid (fun u (hu:Below w.heap.size w u) => refRightI g rv nv lv pv (.slice ba b.length bc) b u (hKp.out u hu) hf.bnd hf.names (by omega) (hBp.out u hu))
     have hlz:(a.length:Int) + (b.length:Int) ≤ 60:=by omega
     have hlz2:¬ (60:Int) < (a.length:Int) + (b.length:Int):=by omega
     by_cases hra:RgtI g a
     · rw [rgtB_yes hra] at GRa
       by_cases hrb:RgtI g b
       · rw [rgtB_yes hrb] at GRb
         have hrc:RgtI g (b ++ a):=⟨hra.us,fun x hx => (List.mem_append.1 hx).elim (hrb.all x) (hra.all x)⟩
         have GA:=hid (fun u (hu:Below w.heap.size w u) => HF.cloYes g rv nv lv pv (.slice aa a.length ac) a u hf hra (hKp.out u hu) (hAp.out u hu) (by omega))
         have GC:=hid (fun u v (hu:Below w.heap.size w u) (hv:Its u v (b ++ a)) => HF.cloYes g rv nv lv pv v (b ++ a) u hf hrc (hKp.out u hu) hv (by rw [List.length_append];omega))
         have l1:=cloL_len hra.us.snd a
         have l3:=cloL_len hra.us.snd (b ++ a)
         have m1:=hid (fun x (hx:x ∈ cloL g a) => List.contains_iff_mem.2 ((cloL_mem hrc.all).2 (clo_append.2 (.inr ((cloL_mem hra.all).1 hx)))))
         have m2:=hid (fun x (hx:x ∈ a) => List.contains_iff_mem.2 ((cloL_mem hra.all).2 (CloG.own (g:=g) hx)))
         have GH:=hid (fun u v l x (hl:l.length ≤ 1000) (hv:Its u v l) => refHasI v l x u (by omega) hv)
         clear h hB1 k1 hf HF HW ha hb hKp hra hrb hrc
         generalize cloL g (b ++ a) = LC at *
         generalize cloL g a = LA at *
         obtain ⟨al,hale⟩:∃ n,Hid (a.length = n):=⟨_,hid rfl⟩
         obtain ⟨bl,hble⟩:∃ n,Hid (b.length = n):=⟨_,hid rfl⟩
         rw [hale.out] at hal hl hlz hlz2 hAp GRa GA ⊢
         rw [hble.out] at hbl hl hlz hlz2 hBp GRb ⊢
         generalize g.start = st at *
         go_enter Tryz.func7,Tryz.ntmps7
         go_wp2_with (first
          | (go_at_call 8;refine GW.out.mono ?_;rintro e w1 ⟨rfl,hc1⟩;have h1:=hid hc1;obtain ⟨x0,x1,x2,x3,x4⟩:=hk1.out w1 h1.out;clear hc1)
          | (go_at_call 9;refine (GL.out _ (bl_step hB.out h1.out)).mono ?_;rintro e w2 ⟨rfl,hc2⟩;have h2:=hid (bl_step h1.out hc2);clear hc2;clear x0 x1 x2 x3 x4;obtain ⟨x0,x1,x2,x3,x4⟩:=hk1.out w2 h2.out)
          | (go_at_call 13;refine (GRb.out _ (bl_step hB.out h3.out)).mono ?_;rintro e w4 ⟨rfl,hc4⟩;have h4:=hid (bl_step h3.out hc4);clear hc4;clear x0 x1 x2 x3 x4;obtain ⟨x0,x1,x2,x3,x4⟩:=hk1.out w4 h4.out)
          | (go_at_call 13;refine (GRa.out _ (bl_step hB.out h2.out)).mono ?_;rintro e w3 ⟨rfl,hc3⟩;have h3:=hid (bl_step h2.out hc3);clear hc3;clear x0 x1 x2 x3 x4;obtain ⟨x0,x1,x2,x3,x4⟩:=hk1.out w3 h3.out))
         refine wp_region_cl [clV (gmA rv nv lv pv st),clV (.slice aa al ac),clI LA,clV (gmA rv nv lv pv st),clO 1 [],clV (.slice ba bl bc),clO 3 ([] ++ b),clV (.slice aa al ac),clO 5 ([] ++ b ++ a),clI LC,clI LA,clI LC] (fun j => if j = 4 then some 6 else if j = 6 then some 8 else none) (by kernel_rfl) (by kernel_rfl) (by rfl) (by intro xs;simp only [putL,Nat.reduceAdd,Act.put,List.setIfInBounds_toArray,List.set_cons_zero,List.set_cons_succ];rfl) ?_ ?_
         · refine rgAll_cons ?_ (rgAll_cons ?_ (rgAll_cons ?_ (rgAll_cons ?_ (rgAll_cons ?_ (rgAll_cons ?_ (rgAll_cons ?_ (rgAll_cons ?_ (rgAll_cons ?_ (rgAll_cons ?_ (rgAll_cons ?_ (rgAll_cons ?_ (rgAll_nil))))))))))))
           · intro xs τ u fr hA hI hd K hK
             try dsimp only at hA
             subst hA
             obtain ⟨y0,y1,y2,y3,y4⟩:=hk1.out u (bl_step h4.out hI.low)
             have hK:=hK _ τ u hI (.inl (StepT.refl _ _ _)) (holdsV _ _ _ _)
             go_simp
             exact hK
           · intro xs τ u fr hA hI hd K hK
             try dsimp only at hA
             subst hA
             have hK:=hK _ τ u hI (.inl (StepT.refl _ _ _)) (holdsV _ _ _ _)
             go_simp
             exact hK
           · intro xs τ u fr hA hI hd K hK
             try dsimp only at hA
             generalize hx0:xs 0 = z0 at hA
             have e0:=valOf (hd 0 rfl)
             rw [hx0] at e0
             subst e0
             generalize hx1:xs 1 = z1 at hA
             have e1:=valOf (hd 1 rfl)
             rw [hx1] at e1
             subst e1
             subst hA
             refine step_callW (by rfl) 17 #[gmA rv nv lv pv st,.slice aa al ac] (by go_simp) (GA.out u (bl_step hB.out (bl_step h4.out hI.low))) ?_
             rintro e u' ⟨v',rfl,hN,hn,hc⟩
             exact ⟨_,rfl,hK _ τ u' (hI.call hc).1 (.inl (hI.call hc).2) (holdsI (.fresh hI hN hn))⟩
           · intro xs τ u fr hA hI hd K hK
             try dsimp only at hA
             subst hA
             obtain ⟨y0,y1,y2,y3,y4⟩:=hk1.out u (bl_step h4.out hI.low)
             have hK:=hK _ τ u hI (.inl (StepT.refl _ _ _)) (holdsV _ _ _ _)
             go_simp
             exact hK
           · intro xs τ u fr hA hI hd K hK
             try dsimp only at hA
             subst hA
             obtain ⟨g1,g2,g3⟩:=hI.lit0 1
             have hK:=hK _ _ _ g1 (.inl g2) (holdsO g3)
             go_simp
             exact hK
           · intro xs τ u fr hA hI hd K hK
             try dsimp only at hA
             subst hA
             have hK:=hK _ τ u hI (.inl (StepT.refl _ _ _)) (holdsV _ _ _ _)
             go_simp
             exact hK
           · intro xs τ u fr hA hI hd K hK
             try dsimp only at hA
             generalize hx4:xs 4 = z4 at hA
             have d4:=hd 4 rfl
             rw [hx4] at d4
             generalize hx5:xs 5 = z5 at hA
             have e5:=valOf (hd 5 rfl)
             rw [hx5] at e5
             subst e5
             subst hA
             obtain ⟨v',u',τ',hrun,g1,g2,g3⟩:=hI.app 3 (rowOf d4) (hBp.out u (bl_step hB.out (bl_step h4.out hI.low))) (by rw [hble.out];simp;omega)
             refine step_runI (by rfl) (.tmp 39) (.tmp 40) 36 (by rfl) _ _ (by rfl) (by rfl) hrun ?_
             exact hK _ _ _ g1 (.inr ⟨1,by decide,g2,by rfl⟩) (holdsO g3)
           · intro xs τ u fr hA hI hd K hK
             try dsimp only at hA
             subst hA
             have hK:=hK _ τ u hI (.inl (StepT.refl _ _ _)) (holdsV _ _ _ _)
             go_simp
             exact hK
           · intro xs τ u fr hA hI hd K hK
             try dsimp only at hA
             generalize hx6:xs 6 = z6 at hA
             have d6:=hd 6 rfl
             rw [hx6] at d6
             generalize hx7:xs 7 = z7 at hA
             have e7:=valOf (hd 7 rfl)
             rw [hx7] at e7
             subst e7
             subst hA
             obtain ⟨v',u',τ',hrun,g1,g2,g3⟩:=hI.app 5 (rowOf d6) (hAp.out u (bl_step hB.out (bl_step h4.out hI.low))) (by rw [List.length_append,hale.out,hble.out];simp;omega)
             refine step_runI (by rfl) (.tmp 41) (.tmp 42) 36 (by rfl) _ _ (by rfl) (by rfl) hrun ?_
             exact hK _ _ _ g1 (.inr ⟨3,by decide,g2,by rfl⟩) (holdsO g3)
           · intro xs τ u fr hA hI hd K hK
             try dsimp only at hA
             generalize hx3:xs 3 = z3 at hA
             have e3:=valOf (hd 3 rfl)
             rw [hx3] at e3
             subst e3
             generalize hx8:xs 8 = z8 at hA
             have d8:=hd 8 rfl
             rw [hx8] at d8
             subst hA
             refine step_callW (by rfl) 17 #[gmA rv nv lv pv st,z8] (by go_simp) (GC.out u _ (bl_step hB.out (bl_step h4.out hI.low)) (Its.of_row (rowOf d8).own)) ?_
             rintro e u' ⟨v',rfl,hN,hn,hc⟩
             exact ⟨_,rfl,hK _ τ u' (hI.call hc).1 (.inl (hI.call hc).2) (holdsI (.fresh hI hN hn))⟩
           · intro xs τ u fr hA hI hd K hK
             try dsimp only at hA
             subst hA
             have hK:=hK _ τ u hI (.inl (StepT.refl _ _ _)) (hd 2 rfl)
             go_simp
             exact hK
           · intro xs τ u fr hA hI hd K hK
             try dsimp only at hA
             subst hA
             have hK:=hK _ τ u hI (.inl (StepT.refl _ _ _)) (hd 9 rfl)
             go_simp
             exact hK
         · intro xs τ u fr hA hI hx
           have hX:=itsOf (hx 10 rfl)
           have hY:=itsOf (hx 11 rfl)
           obtain ⟨ya,yc,e6⟩:=hX.shape
           obtain ⟨za,zc,e7⟩:=hY.shape
           rw [e6] at hX
           rw [e7] at hY
           have h5:=hid (bl_step h4.out hI.low)
           have hX:=hid hX
           have hY:=hid hY
           try dsimp only at hA
           generalize xs 10 = z10 at *
           generalize xs 11 = z11 at *
           subst e6 e7 hA
           obtain ⟨lal,hlal⟩:∃ n,Hid (LA.length = n):=⟨_,hid rfl⟩
           obtain ⟨lcl,hlcl⟩:∃ n,Hid (LC.length = n):=⟨_,hid rfl⟩
           rw [hlal.out] at l1 hX ⊢
           rw [hlcl.out] at l3 hY ⊢
           clear hx hI x0 x1 x2 x3 x4
           try dsimp only
           have b5:=hid (Below.refl u.heap.size u)
           go_wp2_with fail
           go_loopw [47] (fun c wr => ∃ k:Nat,k ≤ lal ∧ c = .int .i64 (k:Int) ∧ Hid (Below u.heap.size u wr)) (fun c _ => lal - (intOf c).toNat)
           case atStart => exact ⟨0,Nat.zero_le _,rfl,b5⟩
           case round =>
            clear b5
            obtain ⟨k,hk,rfl,hbl9⟩:=hrel
            by_cases hlt:k < lal
            · have hltz:(k:Int) < (lal:Int):=by omega
              have hkl:k < LA.length:=by rw [hlal.out];exact hlt
              have hX1:=hX.out.keep hbl9.out
              obtain ⟨b9,o9,e9,-,z0,z1⟩:=Lst.at hX1 hkl
              subst e9
              have G9:=GH.out wr _ LC LA[k] (by rw [hlcl.out];omega) (hY.out.keep hbl9.out)
              rw [m1.out _ (List.getElem_mem hkl)] at G9
              have G9:=hid G9
              generalize LA[k] = xk at *
              obtain ⟨xk1,xk2⟩:=xk
              try dsimp only at *
              clear hX1
              go_wp2_with (go_at_call 23;refine G9.out.mono ?_;clear G9;rintro e w9 ⟨rfl,hc9⟩;have h9:=hid (bl_step hbl9.out hc9);clear hc9 z0 z1)
              go_roundw
              case rel => exact ⟨k + 1,by omega,by go_num,h9⟩
              case measure => simp [intOf];omega
            · have hltz:¬ (k:Int) < (lal:Int):=by omega
              obtain rfl:k = lal:=by omega
              clear hlt hltz hk
              go_wp2_with fail
              go_loopw [60] (fun c wr => ∃ k:Nat,k ≤ al ∧ c = .int .i64 (k:Int) ∧ Hid (Below u.heap.size u wr)) (fun c _ => al - (intOf c).toNat)
              case atStart => exact ⟨0,Nat.zero_le _,rfl,hbl9⟩
              case round =>
               clear hbl9
               obtain ⟨j,hj,rfl,hbl8⟩:=hrel
               have h8:=hid (bl_step h5.out hbl8.out)
               by_cases hlt:j < al
               · have hltz:(j:Int) < (al:Int):=by omega
                 have hkl:j < a.length:=by rw [hale.out];exact hlt
                 have hA1:=hAp.out wr (bl_step hB.out h8.out)
                 obtain ⟨b9,o9,e9,-,z0,z1⟩:=Lst.at hA1 hkl
                 subst e9
                 have G9:=GH.out wr _ LA a[j] (by rw [hlal.out];omega) (hX.out.keep hbl8.out)
                 rw [m2.out _ (List.getElem_mem hkl)] at G9
                 have G9:=hid G9
                 generalize a[j] = xk at *
                 obtain ⟨xk1,xk2⟩:=xk
                 try dsimp only at *
                 clear hA1
                 go_wp2_with (go_at_call 23;refine G9.out.mono ?_;clear G9;rintro e w9 ⟨rfl,hc9⟩;have h9:=hid (bl_step hbl8.out hc9);clear hc9 z0 z1)
                 go_roundw
                 case rel => exact ⟨j + 1,by omega,by go_num,h9⟩
                 case measure => simp [intOf];omega
               · have hltz:¬ (j:Int) < (al:Int):=by omega
                 go_wp2
                 go_ret
                 exact ⟨rfl,bl_step hB.out h8.out⟩
       · skip
         rw [rgtB_no hrb] at GRb
         clear h hB1 k1 HF HW ha hb hKp hAp hBp
         generalize a.length = al at *
         generalize b.length = bl at *
         generalize g.start = st at *
         go_enter Tryz.func7,Tryz.ntmps7
         go_wp2_with (first
          | (go_at_call 8;refine GW.out.mono ?_;rintro e w1 ⟨rfl,hc1⟩;have h1:=hid hc1;obtain ⟨x0,x1,x2,x3,x4⟩:=hk1.out w1 h1.out;clear hc1)
          | (go_at_call 9;refine (GL.out _ (bl_step hB.out h1.out)).mono ?_;rintro e w2 ⟨rfl,hc2⟩;have h2:=hid (bl_step h1.out hc2);clear hc2;clear x0 x1 x2 x3 x4;obtain ⟨x0,x1,x2,x3,x4⟩:=hk1.out w2 h2.out)
          | (go_at_call 13;refine (GRb.out _ (bl_step hB.out h3.out)).mono ?_;rintro e w4 ⟨rfl,hc4⟩;have h4:=hid (bl_step h3.out hc4);clear hc4;clear x0 x1 x2 x3 x4;obtain ⟨x0,x1,x2,x3,x4⟩:=hk1.out w4 h4.out)
          | (go_at_call 13;refine (GRa.out _ (bl_step hB.out h2.out)).mono ?_;rintro e w3 ⟨rfl,hc3⟩;have h3:=hid (bl_step h2.out hc3);clear hc3;clear x0 x1 x2 x3 x4;obtain ⟨x0,x1,x2,x3,x4⟩:=hk1.out w3 h3.out))
         go_ret
         exact ⟨rfl,bl_step hB.out h4.out⟩
     · skip
       rw [rgtB_no hra] at GRa
       clear h hB1 k1 HF HW ha hb hKp hAp hBp
       generalize a.length = al at *
       generalize b.length = bl at *
       generalize g.start = st at *
       go_enter Tryz.func7,Tryz.ntmps7
       go_wp2_with (first
        | (go_at_call 8;refine GW.out.mono ?_;rintro e w1 ⟨rfl,hc1⟩;have h1:=hid hc1;obtain ⟨x0,x1,x2,x3,x4⟩:=hk1.out w1 h1.out;clear hc1)
        | (go_at_call 9;refine (GL.out _ (bl_step hB.out h1.out)).mono ?_;rintro e w2 ⟨rfl,hc2⟩;have h2:=hid (bl_step h1.out hc2);clear hc2;clear x0 x1 x2 x3 x4;obtain ⟨x0,x1,x2,x3,x4⟩:=hk1.out w2 h2.out)
        | (go_at_call 13;refine (GRa.out _ (bl_step hB.out h2.out)).mono ?_;rintro e w3 ⟨rfl,hc3⟩;have h3:=hid (bl_step h2.out hc3);clear hc3;clear x0 x1 x2 x3 x4;obtain ⟨x0,x1,x2,x3,x4⟩:=hk1.out w3 h3.out))
       go_ret
       exact ⟨rfl,bl_step hB.out h3.out⟩
   · skip
     have hlz:¬ (a.length:Int) + (b.length:Int) ≤ 60:=by omega
     have hlz2:(60:Int) < (a.length:Int) + (b.length:Int):=by omega
     clear h hB1 k1 HF HW ha hb hKp hAp hBp
     generalize a.length = al at *
     generalize b.length = bl at *
     generalize g.start = st at *
     go_enter Tryz.func7,Tryz.ntmps7
     go_wp2_with (first
      | (go_at_call 8;refine GW.out.mono ?_;rintro e w1 ⟨rfl,hc1⟩;have h1:=hid hc1;obtain ⟨x0,x1,x2,x3,x4⟩:=hk1.out w1 h1.out;clear hc1)
      | (go_at_call 9;refine (GL.out _ (bl_step hB.out h1.out)).mono ?_;rintro e w2 ⟨rfl,hc2⟩;have h2:=hid (bl_step h1.out hc2);clear hc2;clear x0 x1 x2 x3 x4;obtain ⟨x0,x1,x2,x3,x4⟩:=hk1.out w2 h2.out))
     go_ret
     exact ⟨rfl,bl_step hB.out h2.out⟩
 · skip
   have GL:=hid (fun u (hu:Below w.heap.size w u) => longYes _ _ _ _ g u (hKp.out u hu) hf)
   clear h hB1 k1 HF HW ha hb hKp hAp hBp
   generalize a.length = al at *
   generalize b.length = bl at *
   generalize g.start = st at *
   go_enter Tryz.func7,Tryz.ntmps7
   go_wp2_with (first
    | (go_at_call 8;refine GW.out.mono ?_;rintro e w1 ⟨rfl,hc1⟩;have h1:=hid hc1;obtain ⟨x0,x1,x2,x3,x4⟩:=hk1.out w1 h1.out;clear hc1)
    | (go_at_call 9;refine (GL.out _ (bl_step hB.out h1.out)).mono ?_;rintro e w2 ⟨rfl,hc2⟩;have h2:=hid (bl_step h1.out hc2);clear hc2;clear x0 x1 x2 x3 x4;obtain ⟨x0,x1,x2,x3,x4⟩:=hk1.out w2 h2.out))
   go_ret
   exact ⟨rfl,bl_step hB.out h2.out⟩
end Go.Proofs.YtbpnioehmohbcaaGreat
namespace Go.Proofs.YtbpnioehmohbcaaGreat
open Go.ChangeShapes Go.WideShapes Go.ChangeAt Go.RowKit
open Go.ChangeMaps (open_string shut_string)
set_option maxRecDepth 100000 in
theorem itemsMore_lifted (os:Os) (started:os.Started) (H:Type) (enc:TypeId × Value → H) :
 ReturnsInHanded {} Tryz.checked os 7 .any (Rows.itemsMoreSpec.pre6 enc Tryz.prog Tryz.f7 Rows.itemsMoreRow.domain false) (Rows.itemsMoreSpec.post enc Tryz.prog Tryz.f7 false true false false):=by
 refine returnsInHanded_of_change_sized (C:=Tryz.checked) Tryz.own started (by kernel_rfl) Tryz.func7
  (ChangeSpec.witness6 (enc:=enc) (C:=Tryz.checked) false ⟨#[],#[.agg #[.slice none 0 0,.slice none 0 0,.slice none 0 0,.slice none 0 0,.int .i64 0],.slice none 0 0,.slice none 0 0],[]⟩ 8 (by kernel_rfl) (by kernel_rfl) (by kernel_rfl) (by kernel_rfl)) ?_
 intro W base args ds gs before hval0 hW hcnd hsz0 _
 have hsz:(DataW.weightsEach Tryz.prog (Tryz.f7.params.toList ++ Rows.itemsMoreSpec.plain.varTypes Tryz.prog) (ds ++ gs)).all (· ≤ reachBytes) = true:=hsz0
 have hval:∀ (j:Nat) t v,Tryz.f7.params[j]? = some t → args[j]? = some v → Value.okWide Tryz.prog W .any base t v:=hval0
 have hW':=hW
 obtain ⟨p,q,hA0,hV,rfl,hfz,hnd⟩:=hW
 have hA:DataW.TrodAll enc Tryz.prog W 0 (fun _ => true) true Tryz.f7.params.toList args.toList ds p:=hA0
 rw [Tryz.params7] at hA hval hsz
 obtain ⟨v0,v1,v2,d0,d1,d2,p0,p1,p2,rfl,rfl,rfl,h0,h1,h2⟩:=trodAll_three hA
 obtain ⟨g,rv,nv,lv,pv,rfl,hg⟩:=open_gram (hval 0 27 v0 rfl rfl) h0
 obtain ⟨a,ha,hal⟩:=open_its h1 (hval 1 36 v1 rfl rfl)
 obtain ⟨b,hb,hbl⟩:=open_its h2 (hval 2 36 v2 rfl rfl)
 obtain ⟨rfl,rfl⟩:=trodVars_none hV
 clear hA0 hval0
 refine (itemsMoreWalk itmOK wkOK16 rv nv lv pv _ _ g a b W hg ha hb (its_reach hsz (j:=1) rfl rfl (its_datum h1 ha)) (its_reach hsz (j:=2) rfl rfl (its_datum h2 hb))).mono fun e W' ⟨he,hb⟩ => ?_
 subst he
 exact ⟨_,rfl,law_post (by kernel_rfl) rfl (by kernel_rfl) rfl hW' hb⟩
set_option maxRecDepth 20000 in
theorem itemsMore_holds:Rows.ItemsMoreSaid:=
 OpenClaim.holds_of_wide 7 Tryz.f7 rfl rfl rfl rfl rfl rfl rfl ⟨rfl,rfl,rfl,rfl,rfl⟩ rfl rfl rfl rfl rfl (by kernel_rfl) Tryz.func7 (by kernel_rfl)
  (of_decide_eq_true (by kernel_rfl)) (by unfold Func.isWrapper;first | (rw [if_pos (by decide +kernel)];kernel_rfl) | (rw [if_neg (by decide +kernel)];exact ⟨rfl,rfl⟩))
  (fun os started H enc _ => itemsMore_lifted os started H enc)
end Go.Proofs.YtbpnioehmohbcaaGreat
