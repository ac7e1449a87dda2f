/- ItemsGoto's walk. ItemsGoto: of any grammar, any items and any symbol the law answers true: the items lead where the document says, and their closure leads there, too; no condition. -/
import Derived.Test.YtbpnioehmohbcaaGreatJ36
import Derived.Test.YtbpnioehmohbcaaGreatRows
import Derived.Test.YtbpnioehmohbcaaGreatJ1
import Derived.Test.YtbpnioehmohbcaaGreatJ43
namespace Go.Proofs.YtbpnioehmohbcaaGreat
open Go.RowKit Go.Maps Go.Sort
set_option maxRecDepth 100000 in
set_option maxHeartbeats 16000000 in
theorem itemsGotoWalk (HF:ItmOK) (HW:WkOK16) (rv nv lv pv av:Value) (g:Gm) (a:List It) (sym:Int) (w:World) (h:GmV w rv nv lv pv g) (ha:Its w av a) (hal:a.length ≤ 9223372036854775807):Calls Tryz.prog 5 #[gmA rv nv lv pv g.start,av,.int .i64 sym] w fun e w' => e = .returned (.bool true) ∧ Below w.heap.size w w':=by
 have hKp:=hid (fun u (hu:Below w.heap.size w u) => h.keep hu)
 have hAp:=hid (fun u (hu:Below w.heap.size w u) => ha.keep hu)
 have hB1:=al' w (.cells #[rv,nv,lv,pv,.int .i64 g.start] 27)
 have k1:=heap_new w (.cells #[rv,nv,lv,pv,.int .i64 g.start] 27)
 obtain ⟨W,hW⟩:∃ x,w.alloc (.cells #[rv,nv,lv,pv,.int .i64 g.start] 27) = x:=⟨_,rfl⟩
 rw [hW] at hB1 k1
 have hk1:=hid (fun u (hu:Below W.heap.size W u) => cells5m (hs_keep k1 hu))
 have hB:=hid hB1
 have GW:=hid (HW.wakes W)
 obtain ⟨aa,ac,rfl⟩:=ha.shape
 by_cases hf:Fits12 g
 · have GL:=hid (fun u (hu:Below w.heap.size w u) => longNo _ _ _ _ g u (hKp.out u hu) hf)
   by_cases hl:a.length ≤ 60
   · have GRa:=hid (fun u (hu:Below w.heap.size w u) => refRightI g rv nv lv pv (.slice aa a.length ac) a u (hKp.out u hu) hf.bnd hf.names (by omega) (hAp.out u hu))
     have hlz:(a.length:Int) ≤ 60:=by omega
     have hlz2:¬ (60:Int) < (a.length:Int):=by omega
     by_cases hra:RgtI g a
     · rw [rgtB_yes hra] at GRa
       · have GT:=hid (fun u v (hu:Below w.heap.size w u) (hv:Its u v a) => HF.gotYes g rv nv lv pv v a sym u hf hra (hKp.out u hu) hv (by omega))
         have GR:=hid (fun u (hu:Below w.heap.size w u) => refGoto g rv nv lv pv (.slice aa a.length ac) a sym u (hKp.out u hu) hf.bnd hra (by omega) (hAp.out u hu))
         have GA:=hid (fun u (hu:Below w.heap.size w u) => HF.cloYes g rv nv lv pv (.slice aa a.length ac) a u hf hra (hKp.out u hu) (hAp.out u hu) (by omega))
         have l1:=cloL_len hra.us.snd a
         have l2:=gotL_len hra.us.snd a sym
         have GU:=hid (fun u v (hu:Below w.heap.size w u) (hv:Its u v (cloL g a)) => HF.gotYes g rv nv lv pv v (cloL g a) sym u hf (cloL_right hra) (hKp.out u hu) hv (by omega))
         rw [gotL_clo hra.all] at GU
         have GX:=hid (fun u v v' (h1:Its u v (gotL g a sym)) (h2:Its u v' (gotL g a sym)) => refSameI v v' _ _ u (by omega) (by omega) h1 h2)
         rw [decide_eq_true rfl] at GX
         clear h hB1 k1 hf HF HW ha hKp hra
         generalize gotL g a sym = LG at *
         generalize cloL g a = LA at *
         obtain ⟨al,hale⟩:∃ n,Hid (a.length = n):=⟨_,hid rfl⟩
         rw [hale.out] at hal hl hlz hlz2 hAp GRa GR GA ⊢
         generalize g.start = st at *
         go_enter Tryz.func5,Tryz.ntmps5
         go_wp2_with (first
          | (go_at_call 8;refine GW.out.mono ?_;rintro e w1 ⟨rfl,hc1⟩;have h1:=hid hc1;obtain ⟨x0,x1,x2,x3,x4⟩:=hk1.out w1 h1.out;clear hc1)
          | (go_at_call 9;refine (GL.out _ (bl_step hB.out h1.out)).mono ?_;rintro e w2 ⟨rfl,hc2⟩;have h2:=hid (bl_step h1.out hc2);clear hc2;clear x0 x1 x2 x3 x4;obtain ⟨x0,x1,x2,x3,x4⟩:=hk1.out w2 h2.out))
         refine wp_region_cl [clV (gmA rv nv lv pv st),clO 1 [],clV (.slice aa al ac),clO 3 ([] ++ a),clV (.int .i64 sym),clI LG,clI LG] (fun j => if j = 1 then some 3 else none) (by kernel_rfl) (by kernel_rfl) (by rfl) (by intro xs;simp only [putL,Nat.reduceAdd,Act.put,List.setIfInBounds_toArray,List.set_cons_zero,List.set_cons_succ];rfl) ?_ ?_
         · refine rgAll_cons ?_ (rgAll_cons ?_ (rgAll_cons ?_ (rgAll_cons ?_ (rgAll_cons ?_ (rgAll_cons ?_ (rgAll_cons ?_ (rgAll_nil)))))))
           · intro xs τ u fr hA hI hd K hK
             try dsimp only at hA
             subst hA
             obtain ⟨y0,y1,y2,y3,y4⟩:=hk1.out u (bl_step h2.out hI.low)
             have hK:=hK _ τ u hI (.inl (StepT.refl _ _ _)) (holdsV _ _ _ _)
             go_simp
             exact hK
           · intro xs τ u fr hA hI hd K hK
             try dsimp only at hA
             subst hA
             obtain ⟨g1,g2,g3⟩:=hI.lit0 1
             have hK:=hK _ _ _ g1 (.inl g2) (holdsO g3)
             go_simp
             exact hK
           · intro xs τ u fr hA hI hd K hK
             try dsimp only at hA
             subst hA
             have hK:=hK _ τ u hI (.inl (StepT.refl _ _ _)) (holdsV _ _ _ _)
             go_simp
             exact hK
           · intro xs τ u fr hA hI hd K hK
             try dsimp only at hA
             generalize hx1:xs 1 = z1 at hA
             have d1:=hd 1 rfl
             rw [hx1] at d1
             generalize hx2:xs 2 = z2 at hA
             have e2:=valOf (hd 2 rfl)
             rw [hx2] at e2
             subst e2
             subst hA
             obtain ⟨v',u',τ',hrun,g1,g2,g3⟩:=hI.app 3 (rowOf d1) (hAp.out u (bl_step hB.out (bl_step h2.out hI.low))) (by rw [hale.out];simp;omega)
             refine step_runI (by rfl) (.tmp 18) (.tmp 19) 36 (by rfl) _ _ (by rfl) (by rfl) hrun ?_
             exact hK _ _ _ g1 (.inr ⟨1,by decide,g2,by rfl⟩) (holdsO g3)
           · intro xs τ u fr hA hI hd K hK
             try dsimp only at hA
             subst hA
             have hK:=hK _ τ u hI (.inl (StepT.refl _ _ _)) (holdsV _ _ _ _)
             go_simp
             exact hK
           · intro xs τ u fr hA hI hd K hK
             try dsimp only at hA
             generalize hx0:xs 0 = z0 at hA
             have e0:=valOf (hd 0 rfl)
             rw [hx0] at e0
             subst e0
             generalize hx3:xs 3 = z3 at hA
             have d3:=hd 3 rfl
             rw [hx3] at d3
             generalize hx4:xs 4 = z4 at hA
             have e4:=valOf (hd 4 rfl)
             rw [hx4] at e4
             subst e4
             subst hA
             refine step_callW (by rfl) 20 #[gmA rv nv lv pv st,z3,.int .i64 sym] (by go_simp) (GT.out u _ (bl_step hB.out (bl_step h2.out hI.low)) (Its.of_row (rowOf d3).own)) ?_
             rintro e u' ⟨v',rfl,hN,hn,hc⟩
             exact ⟨_,rfl,hK _ τ u' (hI.call hc).1 (.inl (hI.call hc).2) (holdsI (.fresh hI hN hn))⟩
           · intro xs τ u fr hA hI hd K hK
             try dsimp only at hA
             subst hA
             have hK:=hK _ τ u hI (.inl (StepT.refl _ _ _)) (hd 5 rfl)
             go_simp
             exact hK
         · intro xs τ u fr hA hI hx
           have hX:=itsOf (hx 6 rfl)
           obtain ⟨ya,yc,e6⟩:=hX.shape
           rw [e6] at hX
           have h5:=hid (bl_step h2.out hI.low)
           have hX:=hid hX
           try dsimp only at hA
           generalize xs 6 = z6 at *
           subst e6 hA
           obtain ⟨lgl,hlgl⟩:∃ n,Hid (LG.length = n):=⟨_,hid rfl⟩
           rw [hlgl.out] at l2 hX ⊢
           clear hx hI x0 x1 x2 x3 x4
           try dsimp only
           obtain ⟨x0,x1,x2,x3,x4⟩:=hk1.out u h5.out
           go_wp2_with (go_at_call 13;refine (GRa.out _ (bl_step hB.out h5.out)).mono ?_;rintro e w6 ⟨rfl,hc6⟩;have h6:=hid (bl_step h5.out hc6);have hX6:=hid (hX.out.keep hc6);clear hc6;clear x0 x1 x2 x3 x4;obtain ⟨x0,x1,x2,x3,x4⟩:=hk1.out w6 h6.out)
           refine wp_region_cl [clV (.slice ya lgl yc),clV (gmA rv nv lv pv st),clV (.slice aa al ac),clV (.int .i64 sym),clIL LG,clV (.bool true),clV (.bool true),clV (gmA rv nv lv pv st),clV (gmA rv nv lv pv st),clV (.slice aa al ac),clIL LA,clV (.int .i64 sym),clIL LG,clV (.slice ya lgl yc),clV (.bool true),clV (.bool true),clV (.bool true)] (fun _ => none) (by kernel_rfl) (by kernel_rfl) (by rfl) (by intro xs;simp only [putL,Nat.reduceAdd,Act.put,List.setIfInBounds_toArray,List.set_cons_zero,List.set_cons_succ];rfl) ?_ ?_
           · refine rgAll_cons ?_ (rgAll_cons ?_ (rgAll_cons ?_ (rgAll_cons ?_ (rgAll_cons ?_ (rgAll_cons ?_ (rgAll_cons ?_ (rgAll_cons ?_ (rgAll_cons ?_ (rgAll_cons ?_ (rgAll_cons ?_ (rgAll_cons ?_ (rgAll_cons ?_ (rgAll_cons ?_ (rgAll_cons ?_ (rgAll_cons ?_ (rgAll_cons ?_ (rgAll_nil)))))))))))))))))
             · intro xs τ u fr hA hI hd K hK
               try dsimp only at hA
               subst hA
               have hK:=hK _ τ u hI (.inl (StepT.refl _ _ _)) (holdsV _ _ _ _)
               go_simp
               exact hK
             · intro xs τ u fr hA hI hd K hK
               try dsimp only at hA
               subst hA
               obtain ⟨y0,y1,y2,y3,y4⟩:=hk1.out u (bl_step h6.out hI.low)
               have hK:=hK _ τ u hI (.inl (StepT.refl _ _ _)) (holdsV _ _ _ _)
               go_simp
               exact hK
             · intro xs τ u fr hA hI hd K hK
               try dsimp only at hA
               subst hA
               have hK:=hK _ τ u hI (.inl (StepT.refl _ _ _)) (holdsV _ _ _ _)
               go_simp
               exact hK
             · intro xs τ u fr hA hI hd K hK
               try dsimp only at hA
               subst hA
               have hK:=hK _ τ u hI (.inl (StepT.refl _ _ _)) (holdsV _ _ _ _)
               go_simp
               exact hK
             · intro xs τ u fr hA hI hd K hK
               try dsimp only at hA
               generalize hx1:xs 1 = z1 at hA
               have e1:=valOf (hd 1 rfl)
               rw [hx1] at e1
               subst e1
               generalize hx2:xs 2 = z2 at hA
               have e2:=valOf (hd 2 rfl)
               rw [hx2] at e2
               subst e2
               generalize hx3:xs 3 = z3 at hA
               have e3:=valOf (hd 3 rfl)
               rw [hx3] at e3
               subst e3
               subst hA
               refine step_callW (by rfl) 21 #[gmA rv nv lv pv st,.slice aa al ac,.int .i64 sym] (by go_simp) (GR.out u (bl_step hB.out (bl_step h6.out hI.low))) ?_
               rintro e u' ⟨v',rfl,hO,hc⟩
               exact ⟨_,rfl,hK _ τ u' (hI.call hc).1 (.inl (hI.call hc).2) (holdsIL (Its.of_row hO))⟩
             · intro xs τ u fr hA hI hd K hK
               try dsimp only at hA
               generalize hx0:xs 0 = z0 at hA
               have e0:=valOf (hd 0 rfl)
               rw [hx0] at e0
               subst e0
               generalize hx4:xs 4 = z4 at hA
               have d4:=hd 4 rfl
               rw [hx4] at d4
               subst hA
               refine step_callW (by rfl) 18 #[.slice ya lgl yc,z4] (by go_simp) (GX.out u _ _ (hX6.out.keep hI.low) (itsLOf d4)) ?_
               rintro e u' ⟨rfl,hc⟩
               exact ⟨_,rfl,hK _ τ u' (hI.call hc).1 (.inl (hI.call hc).2) (holdsV _ _ _ _)⟩
             · intro xs τ u fr hA hI hd K hK
               try dsimp only at hA
               generalize hx5:xs 5 = z5 at hA
               have e5:=valOf (hd 5 rfl)
               rw [hx5] at e5
               subst e5
               subst hA
               have hK:=hK _ τ u hI (.inl (StepT.refl _ _ _)) (holdsV _ _ _ _)
               go_simp
               exact hK
             · intro xs τ u fr hA hI hd K hK
               try dsimp only at hA
               generalize hx6:xs 6 = z6 at hA
               have e6:=valOf (hd 6 rfl)
               rw [hx6] at e6
               subst e6
               subst hA
               obtain ⟨y0,y1,y2,y3,y4⟩:=hk1.out u (bl_step h6.out hI.low)
               have hK:=hK _ τ u hI (.inl (StepT.refl _ _ _)) (holdsV _ _ _ _)
               go_simp
               exact hK
             · intro xs τ u fr hA hI hd K hK
               try dsimp only at hA
               generalize hx6:xs 6 = z6 at hA
               have e6:=valOf (hd 6 rfl)
               rw [hx6] at e6
               subst e6
               subst hA
               obtain ⟨y0,y1,y2,y3,y4⟩:=hk1.out u (bl_step h6.out hI.low)
               have hK:=hK _ τ u hI (.inl (StepT.refl _ _ _)) (holdsV _ _ _ _)
               go_simp
               exact hK
             · intro xs τ u fr hA hI hd K hK
               try dsimp only at hA
               generalize hx6:xs 6 = z6 at hA
               have e6:=valOf (hd 6 rfl)
               rw [hx6] at e6
               subst e6
               subst hA
               have hK:=hK _ τ u hI (.inl (StepT.refl _ _ _)) (holdsV _ _ _ _)
               go_simp
               exact hK
             · intro xs τ u fr hA hI hd K hK
               try dsimp only at hA
               generalize hx6:xs 6 = z6 at hA
               have e6:=valOf (hd 6 rfl)
               rw [hx6] at e6
               subst e6
               generalize hx8:xs 8 = z8 at hA
               have e8:=valOf (hd 8 rfl)
               rw [hx8] at e8
               subst e8
               generalize hx9:xs 9 = z9 at hA
               have e9:=valOf (hd 9 rfl)
               rw [hx9] at e9
               subst e9
               subst hA
               refine step_callW (by rfl) 17 #[gmA rv nv lv pv st,.slice aa al ac] (by go_simp) (GA.out u (bl_step hB.out (bl_step h6.out hI.low))) ?_
               rintro e u' ⟨v',rfl,hN,-,hc⟩
               exact ⟨_,rfl,hK _ τ u' (hI.call hc).1 (.inl (hI.call hc).2) (holdsIL hN)⟩
             · intro xs τ u fr hA hI hd K hK
               try dsimp only at hA
               generalize hx6:xs 6 = z6 at hA
               have e6:=valOf (hd 6 rfl)
               rw [hx6] at e6
               subst e6
               subst hA
               have hK:=hK _ τ u hI (.inl (StepT.refl _ _ _)) (holdsV _ _ _ _)
               go_simp
               exact hK
             · intro xs τ u fr hA hI hd K hK
               try dsimp only at hA
               generalize hx6:xs 6 = z6 at hA
               have e6:=valOf (hd 6 rfl)
               rw [hx6] at e6
               subst e6
               generalize hx7:xs 7 = z7 at hA
               have e7:=valOf (hd 7 rfl)
               rw [hx7] at e7
               subst e7
               generalize hx10:xs 10 = z10 at hA
               have d10:=hd 10 rfl
               rw [hx10] at d10
               generalize hx11:xs 11 = z11 at hA
               have e11:=valOf (hd 11 rfl)
               rw [hx11] at e11
               subst e11
               subst hA
               refine step_callW (by rfl) 20 #[gmA rv nv lv pv st,z10,.int .i64 sym] (by go_simp) (GU.out u _ (bl_step hB.out (bl_step h6.out hI.low)) (itsLOf d10)) ?_
               rintro e u' ⟨v',rfl,hN,-,hc⟩
               exact ⟨_,rfl,hK _ τ u' (hI.call hc).1 (.inl (hI.call hc).2) (holdsIL hN)⟩
             · intro xs τ u fr hA hI hd K hK
               try dsimp only at hA
               generalize hx6:xs 6 = z6 at hA
               have e6:=valOf (hd 6 rfl)
               rw [hx6] at e6
               subst e6
               subst hA
               have hK:=hK _ τ u hI (.inl (StepT.refl _ _ _)) (holdsV _ _ _ _)
               go_simp
               exact hK
             · intro xs τ u fr hA hI hd K hK
               try dsimp only at hA
               generalize hx6:xs 6 = z6 at hA
               have e6:=valOf (hd 6 rfl)
               rw [hx6] at e6
               subst e6
               generalize hx12:xs 12 = z12 at hA
               have d12:=hd 12 rfl
               rw [hx12] at d12
               generalize hx13:xs 13 = z13 at hA
               have e13:=valOf (hd 13 rfl)
               rw [hx13] at e13
               subst e13
               subst hA
               refine step_callW (by rfl) 18 #[z12,.slice ya lgl yc] (by go_simp) (GX.out u _ _ (itsLOf d12) (hX6.out.keep hI.low)) ?_
               rintro e u' ⟨rfl,hc⟩
               exact ⟨_,rfl,hK _ τ u' (hI.call hc).1 (.inl (hI.call hc).2) (holdsV _ _ _ _)⟩
             · intro xs τ u fr hA hI hd K hK
               try dsimp only at hA
               generalize hx6:xs 6 = z6 at hA
               have e6:=valOf (hd 6 rfl)
               rw [hx6] at e6
               subst e6
               generalize hx14:xs 14 = z14 at hA
               have e14:=valOf (hd 14 rfl)
               rw [hx14] at e14
               subst e14
               subst hA
               have hK:=hK _ τ u hI (.inl (StepT.refl _ _ _)) (holdsV _ _ _ _)
               go_simp
               exact hK
             · intro xs τ u fr hA hI hd K hK
               try dsimp only at hA
               generalize hx15:xs 15 = z15 at hA
               have e15:=valOf (hd 15 rfl)
               rw [hx15] at e15
               subst e15
               subst hA
               have hK:=hK _ τ u hI (.inl (StepT.refl _ _ _)) (holdsV _ _ _ _)
               go_simp
               exact hK
           · intro xs τ u9 fr hA hI hx
             have e16:=valOf (hx 16 rfl)
             have h9:=hid (bl_step h6.out hI.low)
             try dsimp only at hA
             generalize xs 16 = z16 at *
             subst e16 hA
             clear hx hI
             try dsimp only
             go_wp2
             go_ret
             exact ⟨rfl,bl_step hB.out h9.out⟩
     · rw [rgtB_no hra] at GRa
       · have GT:=hid (fun u v (hu:Below w.heap.size w u) (hv:Its u v a) => HF.gotNo g rv nv lv pv v a sym u hf hra (hKp.out u hu) hv (by omega))
         clear h hB1 k1 hf HF HW ha hKp hra
         obtain ⟨al,hale⟩:∃ n,Hid (a.length = n):=⟨_,hid rfl⟩
         rw [hale.out] at hal hl hlz hlz2 hAp GRa ⊢
         generalize g.start = st at *
         go_enter Tryz.func5,Tryz.ntmps5
         go_wp2_with (first
          | (go_at_call 8;refine GW.out.mono ?_;rintro e w1 ⟨rfl,hc1⟩;have h1:=hid hc1;obtain ⟨x0,x1,x2,x3,x4⟩:=hk1.out w1 h1.out;clear hc1)
          | (go_at_call 9;refine (GL.out _ (bl_step hB.out h1.out)).mono ?_;rintro e w2 ⟨rfl,hc2⟩;have h2:=hid (bl_step h1.out hc2);clear hc2;clear x0 x1 x2 x3 x4;obtain ⟨x0,x1,x2,x3,x4⟩:=hk1.out w2 h2.out))
         refine wp_region_cl [clV (gmA rv nv lv pv st),clO 1 [],clV (.slice aa al ac),clO 3 ([] ++ a),clV (.int .i64 sym),clI [],clI []] (fun j => if j = 1 then some 3 else none) (by kernel_rfl) (by kernel_rfl) (by rfl) (by intro xs;simp only [putL,Nat.reduceAdd,Act.put,List.setIfInBounds_toArray,List.set_cons_zero,List.set_cons_succ];rfl) ?_ ?_
         · refine rgAll_cons ?_ (rgAll_cons ?_ (rgAll_cons ?_ (rgAll_cons ?_ (rgAll_cons ?_ (rgAll_cons ?_ (rgAll_cons ?_ (rgAll_nil)))))))
           · intro xs τ u fr hA hI hd K hK
             try dsimp only at hA
             subst hA
             obtain ⟨y0,y1,y2,y3,y4⟩:=hk1.out u (bl_step h2.out hI.low)
             have hK:=hK _ τ u hI (.inl (StepT.refl _ _ _)) (holdsV _ _ _ _)
             go_simp
             exact hK
           · intro xs τ u fr hA hI hd K hK
             try dsimp only at hA
             subst hA
             obtain ⟨g1,g2,g3⟩:=hI.lit0 1
             have hK:=hK _ _ _ g1 (.inl g2) (holdsO g3)
             go_simp
             exact hK
           · intro xs τ u fr hA hI hd K hK
             try dsimp only at hA
             subst hA
             have hK:=hK _ τ u hI (.inl (StepT.refl _ _ _)) (holdsV _ _ _ _)
             go_simp
             exact hK
           · intro xs τ u fr hA hI hd K hK
             try dsimp only at hA
             generalize hx1:xs 1 = z1 at hA
             have d1:=hd 1 rfl
             rw [hx1] at d1
             generalize hx2:xs 2 = z2 at hA
             have e2:=valOf (hd 2 rfl)
             rw [hx2] at e2
             subst e2
             subst hA
             obtain ⟨v',u',τ',hrun,g1,g2,g3⟩:=hI.app 3 (rowOf d1) (hAp.out u (bl_step hB.out (bl_step h2.out hI.low))) (by rw [hale.out];simp;omega)
             refine step_runI (by rfl) (.tmp 18) (.tmp 19) 36 (by rfl) _ _ (by rfl) (by rfl) hrun ?_
             exact hK _ _ _ g1 (.inr ⟨1,by decide,g2,by rfl⟩) (holdsO g3)
           · intro xs τ u fr hA hI hd K hK
             try dsimp only at hA
             subst hA
             have hK:=hK _ τ u hI (.inl (StepT.refl _ _ _)) (holdsV _ _ _ _)
             go_simp
             exact hK
           · intro xs τ u fr hA hI hd K hK
             try dsimp only at hA
             generalize hx0:xs 0 = z0 at hA
             have e0:=valOf (hd 0 rfl)
             rw [hx0] at e0
             subst e0
             generalize hx3:xs 3 = z3 at hA
             have d3:=hd 3 rfl
             rw [hx3] at d3
             generalize hx4:xs 4 = z4 at hA
             have e4:=valOf (hd 4 rfl)
             rw [hx4] at e4
             subst e4
             subst hA
             refine step_callW (by rfl) 20 #[gmA rv nv lv pv st,z3,.int .i64 sym] (by go_simp) (GT.out u _ (bl_step hB.out (bl_step h2.out hI.low)) (Its.of_row (rowOf d3).own)) ?_
             rintro e u' ⟨v',rfl,hN,hc⟩
             exact ⟨_,rfl,hK _ τ u' (hI.call hc).1 (.inl (hI.call hc).2) (holdsI (.inl (its_empty hN)))⟩
           · intro xs τ u fr hA hI hd K hK
             try dsimp only at hA
             subst hA
             have hK:=hK _ τ u hI (.inl (StepT.refl _ _ _)) (hd 5 rfl)
             go_simp
             exact hK
         · intro xs τ u fr hA hI hx
           have hX:=itsOf (hx 6 rfl)
           obtain ⟨ya,yc,e6⟩:=hX.shape
           rw [e6] at hX
           have h5:=hid (bl_step h2.out hI.low)
           have hX:=hid hX
           try dsimp only at hA
           generalize xs 6 = z6 at *
           subst e6 hA
           skip
           clear hx hI x0 x1 x2 x3 x4
           try dsimp only
           obtain ⟨x0,x1,x2,x3,x4⟩:=hk1.out u h5.out
           go_wp2_with (go_at_call 13;refine (GRa.out _ (bl_step hB.out h5.out)).mono ?_;rintro e w6 ⟨rfl,hc6⟩;have h6:=hid (bl_step h5.out hc6);have hX6:=hid (hX.out.keep hc6);clear hc6;clear x0 x1 x2 x3 x4;obtain ⟨x0,x1,x2,x3,x4⟩:=hk1.out w6 h6.out)
           go_ret
           exact ⟨rfl,bl_step hB.out h6.out⟩
   · skip
     have hlz:¬ (a.length:Int) ≤ 60:=by omega
     have hlz2:(60:Int) < (a.length:Int):=by omega
     clear h hB1 k1 HF HW ha hKp hAp
     generalize a.length = al at *
     generalize g.start = st at *
     go_enter Tryz.func5,Tryz.ntmps5
     go_wp2_with (first
      | (go_at_call 8;refine GW.out.mono ?_;rintro e w1 ⟨rfl,hc1⟩;have h1:=hid hc1;obtain ⟨x0,x1,x2,x3,x4⟩:=hk1.out w1 h1.out;clear hc1)
      | (go_at_call 9;refine (GL.out _ (bl_step hB.out h1.out)).mono ?_;rintro e w2 ⟨rfl,hc2⟩;have h2:=hid (bl_step h1.out hc2);clear hc2;clear x0 x1 x2 x3 x4;obtain ⟨x0,x1,x2,x3,x4⟩:=hk1.out w2 h2.out))
     go_ret
     exact ⟨rfl,bl_step hB.out h2.out⟩
 · skip
   have GL:=hid (fun u (hu:Below w.heap.size w u) => longYes _ _ _ _ g u (hKp.out u hu) hf)
   clear h hB1 k1 HF HW ha hKp hAp
   generalize a.length = al at *
   generalize g.start = st at *
   go_enter Tryz.func5,Tryz.ntmps5
   go_wp2_with (first
    | (go_at_call 8;refine GW.out.mono ?_;rintro e w1 ⟨rfl,hc1⟩;have h1:=hid hc1;obtain ⟨x0,x1,x2,x3,x4⟩:=hk1.out w1 h1.out;clear hc1)
    | (go_at_call 9;refine (GL.out _ (bl_step hB.out h1.out)).mono ?_;rintro e w2 ⟨rfl,hc2⟩;have h2:=hid (bl_step h1.out hc2);clear hc2;clear x0 x1 x2 x3 x4;obtain ⟨x0,x1,x2,x3,x4⟩:=hk1.out w2 h2.out))
   go_ret
   exact ⟨rfl,bl_step hB.out h2.out⟩
end Go.Proofs.YtbpnioehmohbcaaGreat
namespace Go.Proofs.YtbpnioehmohbcaaGreat
open Go.ChangeShapes Go.WideShapes Go.ChangeAt Go.RowKit
open Go.ChangeMaps (open_string shut_string)
set_option maxRecDepth 100000 in
theorem itemsGoto_lifted (os:Os) (started:os.Started) (H:Type) (enc:TypeId × Value → H) :
 ReturnsInHanded {} Tryz.checked os 5 .any (Rows.itemsGotoSpec.pre6 enc Tryz.prog Tryz.f5 Rows.itemsGotoRow.domain false) (Rows.itemsGotoSpec.post enc Tryz.prog Tryz.f5 false true false false):=by
 refine returnsInHanded_of_change (C:=Tryz.checked) Tryz.own started (by kernel_rfl) Tryz.func5
  (ChangeSpec.witness6 (enc:=enc) (C:=Tryz.checked) false ⟨#[],#[.agg #[.slice none 0 0,.slice none 0 0,.slice none 0 0,.slice none 0 0,.int .i64 0],.slice none 0 0,.int .i64 0],[]⟩ 8 (by kernel_rfl) (by kernel_rfl) (by kernel_rfl) (by kernel_rfl)) ?_
 intro W base args ds gs before hval0 hW hcnd _
 have hval:∀ (j:Nat) t v,Tryz.f5.params[j]? = some t → args[j]? = some v → Value.okWide Tryz.prog W .any base t v:=hval0
 have hW':=hW
 obtain ⟨p,q,hA0,hV,rfl,hfz,hnd⟩:=hW
 have hA:DataW.TrodAll enc Tryz.prog W 0 (fun _ => true) true Tryz.f5.params.toList args.toList ds p:=hA0
 rw [Tryz.params5] at hA hval
 obtain ⟨v0,v1,v2,d0,d1,d2,p0,p1,p2,rfl,rfl,rfl,h0,h1,h2⟩:=trodAll_three hA
 obtain ⟨g,rv,nv,lv,pv,rfl,hg⟩:=open_gram (hval 0 27 v0 rfl rfl) h0
 obtain ⟨a,ha,hal⟩:=open_its h1 (hval 1 36 v1 rfl rfl)
 obtain ⟨sy,rfl⟩:=okWide_int Tryz.underlying3 (hval 2 3 v2 rfl rfl)
 obtain ⟨rfl,rfl⟩:=trodVars_none hV
 clear hA0 hval0
 refine (itemsGotoWalk itmOK wkOK16 rv nv lv pv _ g a sy W hg ha hal).mono fun e W' ⟨he,hb⟩ => ?_
 subst he
 exact ⟨_,rfl,law_post (by kernel_rfl) rfl (by kernel_rfl) rfl hW' hb⟩
set_option maxRecDepth 20000 in
theorem itemsGoto_holds:Rows.ItemsGotoSaid:=
 OpenClaim.holds_of_wide 5 Tryz.f5 rfl rfl rfl rfl rfl rfl rfl ⟨rfl,rfl,rfl,rfl,rfl⟩ rfl rfl rfl rfl rfl (by kernel_rfl) Tryz.func5 (by kernel_rfl)
  (of_decide_eq_true (by kernel_rfl)) (by unfold Func.isWrapper;first | (rw [if_pos (by decide +kernel)];kernel_rfl) | (rw [if_neg (by decide +kernel)];exact ⟨rfl,rfl⟩))
  (fun os started H enc _ => itemsGoto_lifted os started H enc)
end Go.Proofs.YtbpnioehmohbcaaGreat
