/- ItemsRight's walk. ItemsRight: of any grammar and any item the law answers true: whether the item is of it, the right side of its production and the symbol behind its dot are as the document says; no condition. -/
import Derived.Test.YtbpnioehmohbcaaGreatJ36
import Derived.Test.YtbpnioehmohbcaaGreatRows
import Derived.Test.YtbpnioehmohbcaaGreatJ1
import Derived.Test.YtbpnioehmohbcaaGreatJ43
namespace Go.Proofs.YtbpnioehmohbcaaGreat
open Go.RowKit Go.Maps Go.Sort
theorem rgtB_one {g:Gm} {x:It} (hu:UsG g):rgtB g [x] = itB g x:=by
 unfold rgtB
 rw [usB_yes hu,List.all_cons,List.all_nil,Bool.and_true,Bool.true_and]
theorem itB_zero {g:Gm} {p:Int}:itB g (p,0) = true ↔ ProdI g p:=by
 rw [itB_iff]
 unfold ProdI
 constructor
 · rintro ⟨h1,h2,-⟩;exact ⟨h1,h2⟩
 · rintro ⟨h1,h2⟩;exact ⟨h1,h2,Int.le_refl _,Int.natCast_nonneg _⟩
theorem rgtB_zero {g:Gm} {p:Int} (h:¬ (UsG g ∧ ProdI g p)):rgtB g [(p,0)] = false:=rgtB_no fun hr => h ⟨hr.us,itB_zero.1 (hr.all _ List.mem_cons_self)⟩
theorem rgtB_none {g:Gm} {x:It} (h:¬ (UsG g ∧ ProdI g x.1)):rgtB g [x] = false:=rgtB_no fun hr => h ⟨hr.us,by
 have:=itB_iff.1 (hr.all x List.mem_cons_self)
 exact ⟨this.1,this.2.1⟩⟩
theorem shapeI {w:World} {v:Value} {l:List Int} (h:Nums w v l):∃ a c,v = .slice a l.length c:=by obtain ⟨a,c,e,_⟩:=h;exact ⟨a,c,e⟩
set_option maxRecDepth 100000 in
set_option maxHeartbeats 16000000 in
theorem itemsRightWalk (HF:ItmOK) (HW:WkOK16) (rv nv lv pv:Value) (g:Gm) (x:It) (w:World) (h:GmV w rv nv lv pv g):Calls Tryz.prog 3 #[gmA rv nv lv pv g.start,itV x] w fun e w' => e = .returned (.bool true) ∧ Below w.heap.size w w':=by
 have hKp:=hid (fun u (hu:Below w.heap.size w u) => h.keep hu)
 obtain ⟨p1,p2⟩:=x
 try dsimp only
 have hB1:=al' w (.cells #[rv,nv,lv,pv,.int .i64 g.start] 27)
 have k1:=heap_new w (.cells #[rv,nv,lv,pv,.int .i64 g.start] 27)
 have hB2:=bl_step hB1 (al' (w.alloc (.cells #[rv,nv,lv,pv,.int .i64 g.start] 27)) (.cells #[.int .i64 p1,.int .i64 p2] 29))
 have k2:=hs_keep k1 (al' (w.alloc (.cells #[rv,nv,lv,pv,.int .i64 g.start] 27)) (.cells #[.int .i64 p1,.int .i64 p2] 29))
 have k3:=heap_new (w.alloc (.cells #[rv,nv,lv,pv,.int .i64 g.start] 27)) (.cells #[.int .i64 p1,.int .i64 p2] 29)
 have hsz:(w.alloc (.cells #[rv,nv,lv,pv,.int .i64 g.start] 27)).heap.size = w.heap.size + 1:=World.size_alloc _ _
 rw [hsz] at k3
 obtain ⟨W,hW⟩:∃ x,(w.alloc (.cells #[rv,nv,lv,pv,.int .i64 g.start] 27)).alloc (.cells #[.int .i64 p1,.int .i64 p2] 29) = x:=⟨_,rfl⟩
 rw [hW] at hB2 k2 k3
 have hk1:=hid (fun u (hu:Below W.heap.size W u) => cells5m (hs_keep k2 hu))
 have hk2:=hid (fun u (hu:Below W.heap.size W u) => cells2h (hs_keep k3 hu))
 have hB:=hid hB2
 have GW:=hid (HW.wakes W)
 by_cases hf:Fits12 g
 · have GL:=hid (fun u (hu:Below w.heap.size w u) => longNo _ _ _ _ g u (hKp.out u hu) hf)
   have GI:=hid (fun u v (hu:Below w.heap.size w u) (hv:Its u v [(p1,p2)]) => HF.right g rv nv lv pv v [(p1,p2)] u hf (hKp.out u hu) hv (by simp))
   have GR:=hid (fun u v y (hu:Below w.heap.size w u) (hv:Its u v [y]) => refRightI g rv nv lv pv v [y] u (hKp.out u hu) hf.bnd hf.names (by simp) hv)
   have GR1:=hid (fun u v (hu:Below w.heap.size w u) (hv:Its u v [(p1,p2)]) => GR.out u v (p1,p2) hu hv)
   have GR0:=hid (fun u v (hu:Below w.heap.size w u) (hv:Its u v [(p1,0)]) => GR.out u v (p1,0) hu hv)
   clear GR
   by_cases hp:UsG g ∧ ProdI g p1
   · rw [rgtB_one hp.1] at GI
     rw [show rgtB g [(p1,p2)] = itB g (p1,p2) from rgtB_one hp.1] at GR1
     rw [show rgtB g [(p1,0)] = true by rw [rgtB_one hp.1];exact itB_zero.2 hp.2] at GR0
     have GS:=hid (fun u (hu:Below w.heap.size w u) => HF.sideYes g rv nv lv pv p1 u hf hp.1 hp.2 (hKp.out u hu))
     have GD:=hid (fun u (hu:Below w.heap.size w u) => refSide g rv nv lv pv p1 u (hKp.out u hu) hf.bnd hp.2.1 hp.2.2)
     have l1:=sidG_bnd hf.bnd hp.2.2
     have GX:=hid (fun u v v' (h1:Nums u v (sidG g p1)) (h2:Nums u v' (sidG g p1)) => refSame v v' _ _ u (by omega) (by omega) h1 h2)
     rw [decide_eq_true rfl] at GX
     by_cases hx:itB g (p1,p2) = true
     · rw [hx] at GI GR1
       · have GN:=hid (fun u (hu:Below w.heap.size w u) => HF.nextYes g rv nv lv pv (p1,p2) u hf hp.1 hx (hKp.out u hu))
         have GZ:=hid (fun u (hu:Below w.heap.size w u) => refNextI g rv nv lv pv (p1,p2) u (hKp.out u hu) hf.bnd hx)
         clear h hB1 hB2 k1 k2 k3 hsz hf HF HW hKp hp hx
         generalize nxtG g (p1,p2) = NX at *
         generalize sidG g p1 = S at *
         generalize g.start = st at *
         go_enter Tryz.func3,Tryz.ntmps3
         go_wp2_with (first
          | (go_at_call 8;refine GW.out.mono ?_;rintro e w1 ⟨rfl,hc1⟩;have h1:=hid hc1;obtain ⟨x0,x1,x2,x3,x4⟩:=hk1.out w1 h1.out;obtain ⟨z0,z1⟩:=hk2.out w1 h1.out;clear hc1)
          | (go_at_call 9;refine (GL.out _ (bl_step hB.out h1.out)).mono ?_;rintro e w2 ⟨rfl,hc2⟩;have h2:=hid (bl_step h1.out hc2);clear hc2;clear x0 x1 x2 x3 x4 z0 z1;obtain ⟨x0,x1,x2,x3,x4⟩:=hk1.out w2 h2.out;obtain ⟨z0,z1⟩:=hk2.out w2 h2.out))
         refine wp_region_cl [clV (gmA rv nv lv pv st),clV (.pointer (some ⟨w.heap.size + 1,0,none⟩)),clV (.int .i64 p1),clNL S,clV (gmA rv nv lv pv st),clV (.agg #[.int .i64 p1,.int .i64 p2]),clV (.int .i64 NX),clNL S,clV (.int .i64 NX)] (fun _ => none) (by kernel_rfl) (by kernel_rfl) (by rfl) (by intro xs;simp only [putL,Nat.reduceAdd,Act.put,List.setIfInBounds_toArray,List.set_cons_zero,List.set_cons_succ];rfl) ?_ ?_
         · refine rgAll_cons ?_ (rgAll_cons ?_ (rgAll_cons ?_ (rgAll_cons ?_ (rgAll_cons ?_ (rgAll_cons ?_ (rgAll_cons ?_ (rgAll_cons ?_ (rgAll_cons ?_ (rgAll_nil)))))))))
           · intro xs τ u fr hA hI hd K hK
             try dsimp only at hA
             subst hA
             obtain ⟨y0,y1,y2,y3,y4⟩:=hk1.out u (bl_step h2.out hI.low);obtain ⟨z0,z1⟩:=hk2.out u (bl_step h2.out hI.low)
             have hK:=hK _ τ u hI (.inl (StepT.refl _ _ _)) (holdsV _ _ _ _)
             go_simp
             exact hK
           · intro xs τ u fr hA hI hd K hK
             try dsimp only at hA
             subst hA
             have hK:=hK _ τ u hI (.inl (StepT.refl _ _ _)) (holdsV _ _ _ _)
             go_simp
             exact hK
           · intro xs τ u fr hA hI hd K hK
             try dsimp only at hA
             generalize hx1:xs 1 = z1 at hA
             have e1:=valOf (hd 1 rfl)
             rw [hx1] at e1
             subst e1
             subst hA
             obtain ⟨y0,y1,y2,y3,y4⟩:=hk1.out u (bl_step h2.out hI.low);obtain ⟨z0,z1⟩:=hk2.out u (bl_step h2.out hI.low)
             have hK:=hK _ τ u hI (.inl (StepT.refl _ _ _)) (holdsV _ _ _ _)
             go_simp
             exact hK
           · intro xs τ u fr hA hI hd K hK
             try dsimp only at hA
             generalize hx0:xs 0 = z0 at hA
             have e0:=valOf (hd 0 rfl)
             rw [hx0] at e0
             subst e0
             generalize hx2:xs 2 = z2 at hA
             have e2:=valOf (hd 2 rfl)
             rw [hx2] at e2
             subst e2
             subst hA
             refine step_callW (by rfl) 10 #[gmA rv nv lv pv st,.int .i64 p1] (by go_simp) (GS.out u (bl_step hB.out (bl_step h2.out hI.low))) ?_
             rintro e u' ⟨v',rfl,hN,hc⟩
             exact ⟨_,rfl,hK _ τ u' (hI.call hc).1 (.inl (hI.call hc).2) (holdsNL hN)⟩
           · intro xs τ u fr hA hI hd K hK
             try dsimp only at hA
             subst hA
             obtain ⟨y0,y1,y2,y3,y4⟩:=hk1.out u (bl_step h2.out hI.low);obtain ⟨z0,z1⟩:=hk2.out u (bl_step h2.out hI.low)
             have hK:=hK _ τ u hI (.inl (StepT.refl _ _ _)) (holdsV _ _ _ _)
             go_simp
             exact hK
           · intro xs τ u fr hA hI hd K hK
             try dsimp only at hA
             subst hA
             obtain ⟨y0,y1,y2,y3,y4⟩:=hk1.out u (bl_step h2.out hI.low);obtain ⟨z0,z1⟩:=hk2.out u (bl_step h2.out hI.low)
             have hK:=hK _ τ u hI (.inl (StepT.refl _ _ _)) (holdsV _ _ _ _)
             go_simp
             exact hK
           · intro xs τ u fr hA hI hd K hK
             try dsimp only at hA
             generalize hx4:xs 4 = z4 at hA
             have e4:=valOf (hd 4 rfl)
             rw [hx4] at e4
             subst e4
             generalize hx5:xs 5 = z5 at hA
             have e5:=valOf (hd 5 rfl)
             rw [hx5] at e5
             subst e5
             subst hA
             refine step_callW (by rfl) 11 #[gmA rv nv lv pv st,.agg #[.int .i64 p1,.int .i64 p2]] (by go_simp) (GN.out u (bl_step hB.out (bl_step h2.out hI.low))) ?_
             rintro e u' ⟨rfl,hc⟩
             exact ⟨_,rfl,hK _ τ u' (hI.call hc).1 (.inl (hI.call hc).2) (holdsV _ _ _ _)⟩
           · intro xs τ u fr hA hI hd K hK
             try dsimp only at hA
             subst hA
             have hK:=hK _ τ u hI (.inl (StepT.refl _ _ _)) (hd 3 rfl)
             go_simp
             exact hK
           · intro xs τ u fr hA hI hd K hK
             try dsimp only at hA
             generalize hx6:xs 6 = z6 at hA
             have e6:=valOf (hd 6 rfl)
             rw [hx6] at e6
             subst e6
             subst hA
             have hK:=hK _ τ u hI (.inl (StepT.refl _ _ _)) (holdsV _ _ _ _)
             go_simp
             exact hK
         · intro xs τ u fr hA hI hx
           have hX:=numsLOf (hx 7 rfl)
           have e8:=valOf (hx 8 rfl)
           obtain ⟨ya,yc,e7⟩:=shapeI hX
           rw [e7] at hX
           have h5:=hid (bl_step h2.out hI.low)
           have hX:=hid hX
           try dsimp only at hA
           generalize xs 7 = v7 at *
           generalize xs 8 = v8 at *
           subst e7 e8 hA
           clear hx hI x0 x1 x2 x3 x4 z0 z1
           try dsimp only
           obtain ⟨x0,x1,x2,x3,x4⟩:=hk1.out u h5.out
           obtain ⟨z0,z1⟩:=hk2.out u h5.out
           go_wp2_with fail
           refine wp_region_cl [clV (gmA rv nv lv pv st),clV (.agg #[.int .i64 p1,.int .i64 p2]),clI [(p1,p2)],clV (.bool true),clV (gmA rv nv lv pv st),clV (.agg #[.int .i64 p1,.int .i64 p2]),clI [(p1,p2)],clV (.bool true),clV (.bool false)] (fun _ => none) (by kernel_rfl) (by kernel_rfl) (by rfl) (by intro xs;simp only [putL,Nat.reduceAdd,Act.put,List.setIfInBounds_toArray,List.set_cons_zero,List.set_cons_succ];rfl) ?_ ?_
           · refine rgAll_cons ?_ (rgAll_cons ?_ (rgAll_cons ?_ (rgAll_cons ?_ (rgAll_cons ?_ (rgAll_cons ?_ (rgAll_cons ?_ (rgAll_cons ?_ (rgAll_cons ?_ (rgAll_nil)))))))))
             · intro xs τ u fr hA hI hd K hK
               try dsimp only at hA
               subst hA
               obtain ⟨y0,y1,y2,y3,y4⟩:=hk1.out u (bl_step h5.out hI.low);obtain ⟨z0,z1⟩:=hk2.out u (bl_step h5.out hI.low)
               have hK:=hK _ τ u hI (.inl (StepT.refl _ _ _)) (holdsV _ _ _ _)
               go_simp
               exact hK
             · intro xs τ u fr hA hI hd K hK
               try dsimp only at hA
               subst hA
               obtain ⟨y0,y1,y2,y3,y4⟩:=hk1.out u (bl_step h5.out hI.low);obtain ⟨z0,z1⟩:=hk2.out u (bl_step h5.out hI.low)
               have hK:=hK _ τ u hI (.inl (StepT.refl _ _ _)) (holdsV _ _ _ _)
               go_simp
               exact hK
             · intro xs τ u fr hA hI hd K hK
               try dsimp only at hA
               generalize hx1:xs 1 = z1 at hA
               have e1:=valOf (hd 1 rfl)
               rw [hx1] at e1
               subst e1
               subst hA
               obtain ⟨g1,g2,g3⟩:=hI.lit1 p1 p2
               have hK:=hK _ _ _ g1 (.inl g2) (holdsI g3)
               go_simp
               exact hK
             · intro xs τ u fr hA hI hd K hK
               try dsimp only at hA
               generalize hx0:xs 0 = z0 at hA
               have e0:=valOf (hd 0 rfl)
               rw [hx0] at e0
               subst e0
               generalize hx2:xs 2 = z2 at hA
               have d2:=hd 2 rfl
               rw [hx2] at d2
               subst hA
               refine step_callW (by rfl) 12 #[gmA rv nv lv pv st,z2] (by go_simp) (GI.out u _ (bl_step hB.out (bl_step h5.out hI.low)) (itsOf d2)) ?_
               rintro e u' ⟨rfl,hc⟩
               exact ⟨_,rfl,hK _ τ u' (hI.call hc).1 (.inl (hI.call hc).2) (holdsV _ _ _ _)⟩
             · intro xs τ u fr hA hI hd K hK
               try dsimp only at hA
               subst hA
               obtain ⟨y0,y1,y2,y3,y4⟩:=hk1.out u (bl_step h5.out hI.low);obtain ⟨z0,z1⟩:=hk2.out u (bl_step h5.out hI.low)
               have hK:=hK _ τ u hI (.inl (StepT.refl _ _ _)) (holdsV _ _ _ _)
               go_simp
               exact hK
             · intro xs τ u fr hA hI hd K hK
               try dsimp only at hA
               subst hA
               obtain ⟨y0,y1,y2,y3,y4⟩:=hk1.out u (bl_step h5.out hI.low);obtain ⟨z0,z1⟩:=hk2.out u (bl_step h5.out hI.low)
               have hK:=hK _ τ u hI (.inl (StepT.refl _ _ _)) (holdsV _ _ _ _)
               go_simp
               exact hK
             · intro xs τ u fr hA hI hd K hK
               try dsimp only at hA
               generalize hx5:xs 5 = z5 at hA
               have e5:=valOf (hd 5 rfl)
               rw [hx5] at e5
               subst e5
               subst hA
               obtain ⟨g1,g2,g3⟩:=hI.lit1 p1 p2
               have hK:=hK _ _ _ g1 (.inl g2) (holdsI g3)
               go_simp
               exact hK
             · intro xs τ u fr hA hI hd K hK
               try dsimp only at hA
               generalize hx4:xs 4 = z4 at hA
               have e4:=valOf (hd 4 rfl)
               rw [hx4] at e4
               subst e4
               generalize hx6:xs 6 = z6 at hA
               have d6:=hd 6 rfl
               rw [hx6] at d6
               subst hA
               refine step_callW (by rfl) 13 #[gmA rv nv lv pv st,z6] (by go_simp) (GR1.out u _ (bl_step hB.out (bl_step h5.out hI.low)) (itsOf d6)) ?_
               rintro e u' ⟨rfl,hc⟩
               exact ⟨_,rfl,hK _ τ u' (hI.call hc).1 (.inl (hI.call hc).2) (holdsV _ _ _ _)⟩
             · intro xs τ u fr hA hI hd K hK
               try dsimp only at hA
               generalize hx3:xs 3 = z3 at hA
               have e3:=valOf (hd 3 rfl)
               rw [hx3] at e3
               subst e3
               generalize hx7:xs 7 = z7 at hA
               have e7:=valOf (hd 7 rfl)
               rw [hx7] at e7
               subst e7
               subst hA
               have hK:=hK _ τ u hI (.inl (StepT.refl _ _ _)) (holdsV _ _ _ _)
               go_simp
               exact hK
           · intro xs τ u6 fr hA hI hx
             have e8:=valOf (hx 8 rfl)
             have h6:=hid (bl_step h5.out hI.low)
             have hX6:=hid (hX.out.keep hI.low)
             try dsimp only at hA
             generalize xs 8 = v8 at *
             subst e8 hA
             clear hx hI x0 x1 x2 x3 x4 z0 z1
             try dsimp only
             obtain ⟨x0,x1,x2,x3,x4⟩:=hk1.out u6 h6.out
             obtain ⟨z0,z1⟩:=hk2.out u6 h6.out
             have hal6:=al' u6 (.cells #[.int .i64 p1,.int .i64 0] 29)
             have hI6:=hid (Its.lit1 u6 p1 0)
             have hb6:=hid (bl_step h6.out hal6)
             have hX7:=hid (hX6.out.keep hal6)
             clear hal6
             go_wp2_with (first
              | (go_at_call 13;refine (GR1.out _ _ (bl_step hB.out hb10.out) hI10.out).mono ?_;rintro e w11 ⟨rfl,hc11⟩;have h11:=hid (bl_step hb10.out hc11);clear hc11;clear x0 x1 x2 x3 x4 z0 z1;obtain ⟨x0,x1,x2,x3,x4⟩:=hk1.out w11 h11.out;obtain ⟨z0,z1⟩:=hk2.out w11 h11.out)
              | (go_at_call 13;refine (GR0.out _ _ (bl_step hB.out hb6.out) hI6.out).mono ?_;rintro e w8 ⟨rfl,hc8⟩;have h8:=hid (bl_step hb6.out hc8);have hX8:=hid (hX7.out.keep hc8);clear hc8;clear x0 x1 x2 x3 x4 z0 z1;obtain ⟨x0,x1,x2,x3,x4⟩:=hk1.out w8 h8.out;obtain ⟨z0,z1⟩:=hk2.out w8 h8.out)
              | (go_at_call 15;refine (GD.out _ (bl_step hB.out h8.out)).mono ?_;rintro e w9 ⟨v9,rfl,hO9,hc9⟩;obtain ⟨sa,sc,e9⟩:=shapeI (Nums.of_row hO9);subst e9;have hN9:=hid (Nums.of_row hO9);have hX9:=hid (hX8.out.keep hc9);have h9:=hid (bl_step h8.out hc9);clear hc9;clear x0 x1 x2 x3 x4 z0 z1;obtain ⟨x0,x1,x2,x3,x4⟩:=hk1.out w9 h9.out;obtain ⟨z0,z1⟩:=hk2.out w9 h9.out)
              | (go_at_call 14;refine (GX.out _ _ _ hX9.out hN9.out).mono ?_;rintro e w10 ⟨rfl,hc10⟩;have h10:=hid (bl_step h9.out hc10);clear hc10;clear x0 x1 x2 x3 x4 z0 z1;obtain ⟨x0,x1,x2,x3,x4⟩:=hk1.out w10 h10.out;obtain ⟨z0,z1⟩:=hk2.out w10 h10.out;have hal10:=al' w10 (.cells #[.int .i64 p1,.int .i64 p2] 29);have hI10:=hid (Its.lit1 w10 p1 p2);have hb10:=hid (bl_step h10.out hal10);clear hal10)
              | (go_at_call 16;refine (GZ.out _ (bl_step hB.out h11.out)).mono ?_;rintro e w12 ⟨rfl,hc12⟩;have h12:=hid (bl_step h11.out hc12);clear hc12))
             go_ret
             exact ⟨by simp,bl_step hB.out h12.out⟩
     · have hx:itB g (p1,p2) = false:=Bool.eq_false_iff.2 hx
       rw [hx] at GI GR1
       · have GN:=hid (fun u (hu:Below w.heap.size w u) => HF.nextNo g rv nv lv pv (p1,p2) u hf (fun e => by rw [hx] at e;cases e.2) (hKp.out u hu))
         clear h hB1 hB2 k1 k2 k3 hsz hf HF HW hKp hp hx
         generalize sidG g p1 = S at *
         generalize g.start = st at *
         go_enter Tryz.func3,Tryz.ntmps3
         go_wp2_with (first
          | (go_at_call 8;refine GW.out.mono ?_;rintro e w1 ⟨rfl,hc1⟩;have h1:=hid hc1;obtain ⟨x0,x1,x2,x3,x4⟩:=hk1.out w1 h1.out;obtain ⟨z0,z1⟩:=hk2.out w1 h1.out;clear hc1)
          | (go_at_call 9;refine (GL.out _ (bl_step hB.out h1.out)).mono ?_;rintro e w2 ⟨rfl,hc2⟩;have h2:=hid (bl_step h1.out hc2);clear hc2;clear x0 x1 x2 x3 x4 z0 z1;obtain ⟨x0,x1,x2,x3,x4⟩:=hk1.out w2 h2.out;obtain ⟨z0,z1⟩:=hk2.out w2 h2.out))
         refine wp_region_cl [clV (gmA rv nv lv pv st),clV (.pointer (some ⟨w.heap.size + 1,0,none⟩)),clV (.int .i64 p1),clNL S,clV (gmA rv nv lv pv st),clV (.agg #[.int .i64 p1,.int .i64 p2]),clV (.int .i64 0),clNL S,clV (.int .i64 0)] (fun _ => none) (by kernel_rfl) (by kernel_rfl) (by rfl) (by intro xs;simp only [putL,Nat.reduceAdd,Act.put,List.setIfInBounds_toArray,List.set_cons_zero,List.set_cons_succ];rfl) ?_ ?_
         · refine rgAll_cons ?_ (rgAll_cons ?_ (rgAll_cons ?_ (rgAll_cons ?_ (rgAll_cons ?_ (rgAll_cons ?_ (rgAll_cons ?_ (rgAll_cons ?_ (rgAll_cons ?_ (rgAll_nil)))))))))
           · intro xs τ u fr hA hI hd K hK
             try dsimp only at hA
             subst hA
             obtain ⟨y0,y1,y2,y3,y4⟩:=hk1.out u (bl_step h2.out hI.low);obtain ⟨z0,z1⟩:=hk2.out u (bl_step h2.out hI.low)
             have hK:=hK _ τ u hI (.inl (StepT.refl _ _ _)) (holdsV _ _ _ _)
             go_simp
             exact hK
           · intro xs τ u fr hA hI hd K hK
             try dsimp only at hA
             subst hA
             have hK:=hK _ τ u hI (.inl (StepT.refl _ _ _)) (holdsV _ _ _ _)
             go_simp
             exact hK
           · intro xs τ u fr hA hI hd K hK
             try dsimp only at hA
             generalize hx1:xs 1 = z1 at hA
             have e1:=valOf (hd 1 rfl)
             rw [hx1] at e1
             subst e1
             subst hA
             obtain ⟨y0,y1,y2,y3,y4⟩:=hk1.out u (bl_step h2.out hI.low);obtain ⟨z0,z1⟩:=hk2.out u (bl_step h2.out hI.low)
             have hK:=hK _ τ u hI (.inl (StepT.refl _ _ _)) (holdsV _ _ _ _)
             go_simp
             exact hK
           · intro xs τ u fr hA hI hd K hK
             try dsimp only at hA
             generalize hx0:xs 0 = z0 at hA
             have e0:=valOf (hd 0 rfl)
             rw [hx0] at e0
             subst e0
             generalize hx2:xs 2 = z2 at hA
             have e2:=valOf (hd 2 rfl)
             rw [hx2] at e2
             subst e2
             subst hA
             refine step_callW (by rfl) 10 #[gmA rv nv lv pv st,.int .i64 p1] (by go_simp) (GS.out u (bl_step hB.out (bl_step h2.out hI.low))) ?_
             rintro e u' ⟨v',rfl,hN,hc⟩
             exact ⟨_,rfl,hK _ τ u' (hI.call hc).1 (.inl (hI.call hc).2) (holdsNL hN)⟩
           · intro xs τ u fr hA hI hd K hK
             try dsimp only at hA
             subst hA
             obtain ⟨y0,y1,y2,y3,y4⟩:=hk1.out u (bl_step h2.out hI.low);obtain ⟨z0,z1⟩:=hk2.out u (bl_step h2.out hI.low)
             have hK:=hK _ τ u hI (.inl (StepT.refl _ _ _)) (holdsV _ _ _ _)
             go_simp
             exact hK
           · intro xs τ u fr hA hI hd K hK
             try dsimp only at hA
             subst hA
             obtain ⟨y0,y1,y2,y3,y4⟩:=hk1.out u (bl_step h2.out hI.low);obtain ⟨z0,z1⟩:=hk2.out u (bl_step h2.out hI.low)
             have hK:=hK _ τ u hI (.inl (StepT.refl _ _ _)) (holdsV _ _ _ _)
             go_simp
             exact hK
           · intro xs τ u fr hA hI hd K hK
             try dsimp only at hA
             generalize hx4:xs 4 = z4 at hA
             have e4:=valOf (hd 4 rfl)
             rw [hx4] at e4
             subst e4
             generalize hx5:xs 5 = z5 at hA
             have e5:=valOf (hd 5 rfl)
             rw [hx5] at e5
             subst e5
             subst hA
             refine step_callW (by rfl) 11 #[gmA rv nv lv pv st,.agg #[.int .i64 p1,.int .i64 p2]] (by go_simp) (GN.out u (bl_step hB.out (bl_step h2.out hI.low))) ?_
             rintro e u' ⟨rfl,hc⟩
             exact ⟨_,rfl,hK _ τ u' (hI.call hc).1 (.inl (hI.call hc).2) (holdsV _ _ _ _)⟩
           · intro xs τ u fr hA hI hd K hK
             try dsimp only at hA
             subst hA
             have hK:=hK _ τ u hI (.inl (StepT.refl _ _ _)) (hd 3 rfl)
             go_simp
             exact hK
           · intro xs τ u fr hA hI hd K hK
             try dsimp only at hA
             generalize hx6:xs 6 = z6 at hA
             have e6:=valOf (hd 6 rfl)
             rw [hx6] at e6
             subst e6
             subst hA
             have hK:=hK _ τ u hI (.inl (StepT.refl _ _ _)) (holdsV _ _ _ _)
             go_simp
             exact hK
         · intro xs τ u fr hA hI hx
           have hX:=numsLOf (hx 7 rfl)
           have e8:=valOf (hx 8 rfl)
           obtain ⟨ya,yc,e7⟩:=shapeI hX
           rw [e7] at hX
           have h5:=hid (bl_step h2.out hI.low)
           have hX:=hid hX
           try dsimp only at hA
           generalize xs 7 = v7 at *
           generalize xs 8 = v8 at *
           subst e7 e8 hA
           clear hx hI x0 x1 x2 x3 x4 z0 z1
           try dsimp only
           obtain ⟨x0,x1,x2,x3,x4⟩:=hk1.out u h5.out
           obtain ⟨z0,z1⟩:=hk2.out u h5.out
           go_wp2_with fail
           refine wp_region_cl [clV (gmA rv nv lv pv st),clV (.agg #[.int .i64 p1,.int .i64 p2]),clI [(p1,p2)],clV (.bool false),clV (gmA rv nv lv pv st),clV (.agg #[.int .i64 p1,.int .i64 p2]),clI [(p1,p2)],clV (.bool false),clV (.bool false)] (fun _ => none) (by kernel_rfl) (by kernel_rfl) (by rfl) (by intro xs;simp only [putL,Nat.reduceAdd,Act.put,List.setIfInBounds_toArray,List.set_cons_zero,List.set_cons_succ];rfl) ?_ ?_
           · refine rgAll_cons ?_ (rgAll_cons ?_ (rgAll_cons ?_ (rgAll_cons ?_ (rgAll_cons ?_ (rgAll_cons ?_ (rgAll_cons ?_ (rgAll_cons ?_ (rgAll_cons ?_ (rgAll_nil)))))))))
             · intro xs τ u fr hA hI hd K hK
               try dsimp only at hA
               subst hA
               obtain ⟨y0,y1,y2,y3,y4⟩:=hk1.out u (bl_step h5.out hI.low);obtain ⟨z0,z1⟩:=hk2.out u (bl_step h5.out hI.low)
               have hK:=hK _ τ u hI (.inl (StepT.refl _ _ _)) (holdsV _ _ _ _)
               go_simp
               exact hK
             · intro xs τ u fr hA hI hd K hK
               try dsimp only at hA
               subst hA
               obtain ⟨y0,y1,y2,y3,y4⟩:=hk1.out u (bl_step h5.out hI.low);obtain ⟨z0,z1⟩:=hk2.out u (bl_step h5.out hI.low)
               have hK:=hK _ τ u hI (.inl (StepT.refl _ _ _)) (holdsV _ _ _ _)
               go_simp
               exact hK
             · intro xs τ u fr hA hI hd K hK
               try dsimp only at hA
               generalize hx1:xs 1 = z1 at hA
               have e1:=valOf (hd 1 rfl)
               rw [hx1] at e1
               subst e1
               subst hA
               obtain ⟨g1,g2,g3⟩:=hI.lit1 p1 p2
               have hK:=hK _ _ _ g1 (.inl g2) (holdsI g3)
               go_simp
               exact hK
             · intro xs τ u fr hA hI hd K hK
               try dsimp only at hA
               generalize hx0:xs 0 = z0 at hA
               have e0:=valOf (hd 0 rfl)
               rw [hx0] at e0
               subst e0
               generalize hx2:xs 2 = z2 at hA
               have d2:=hd 2 rfl
               rw [hx2] at d2
               subst hA
               refine step_callW (by rfl) 12 #[gmA rv nv lv pv st,z2] (by go_simp) (GI.out u _ (bl_step hB.out (bl_step h5.out hI.low)) (itsOf d2)) ?_
               rintro e u' ⟨rfl,hc⟩
               exact ⟨_,rfl,hK _ τ u' (hI.call hc).1 (.inl (hI.call hc).2) (holdsV _ _ _ _)⟩
             · intro xs τ u fr hA hI hd K hK
               try dsimp only at hA
               subst hA
               obtain ⟨y0,y1,y2,y3,y4⟩:=hk1.out u (bl_step h5.out hI.low);obtain ⟨z0,z1⟩:=hk2.out u (bl_step h5.out hI.low)
               have hK:=hK _ τ u hI (.inl (StepT.refl _ _ _)) (holdsV _ _ _ _)
               go_simp
               exact hK
             · intro xs τ u fr hA hI hd K hK
               try dsimp only at hA
               subst hA
               obtain ⟨y0,y1,y2,y3,y4⟩:=hk1.out u (bl_step h5.out hI.low);obtain ⟨z0,z1⟩:=hk2.out u (bl_step h5.out hI.low)
               have hK:=hK _ τ u hI (.inl (StepT.refl _ _ _)) (holdsV _ _ _ _)
               go_simp
               exact hK
             · intro xs τ u fr hA hI hd K hK
               try dsimp only at hA
               generalize hx5:xs 5 = z5 at hA
               have e5:=valOf (hd 5 rfl)
               rw [hx5] at e5
               subst e5
               subst hA
               obtain ⟨g1,g2,g3⟩:=hI.lit1 p1 p2
               have hK:=hK _ _ _ g1 (.inl g2) (holdsI g3)
               go_simp
               exact hK
             · intro xs τ u fr hA hI hd K hK
               try dsimp only at hA
               generalize hx4:xs 4 = z4 at hA
               have e4:=valOf (hd 4 rfl)
               rw [hx4] at e4
               subst e4
               generalize hx6:xs 6 = z6 at hA
               have d6:=hd 6 rfl
               rw [hx6] at d6
               subst hA
               refine step_callW (by rfl) 13 #[gmA rv nv lv pv st,z6] (by go_simp) (GR1.out u _ (bl_step hB.out (bl_step h5.out hI.low)) (itsOf d6)) ?_
               rintro e u' ⟨rfl,hc⟩
               exact ⟨_,rfl,hK _ τ u' (hI.call hc).1 (.inl (hI.call hc).2) (holdsV _ _ _ _)⟩
             · intro xs τ u fr hA hI hd K hK
               try dsimp only at hA
               generalize hx3:xs 3 = z3 at hA
               have e3:=valOf (hd 3 rfl)
               rw [hx3] at e3
               subst e3
               generalize hx7:xs 7 = z7 at hA
               have e7:=valOf (hd 7 rfl)
               rw [hx7] at e7
               subst e7
               subst hA
               have hK:=hK _ τ u hI (.inl (StepT.refl _ _ _)) (holdsV _ _ _ _)
               go_simp
               exact hK
           · intro xs τ u6 fr hA hI hx
             have e8:=valOf (hx 8 rfl)
             have h6:=hid (bl_step h5.out hI.low)
             have hX6:=hid (hX.out.keep hI.low)
             try dsimp only at hA
             generalize xs 8 = v8 at *
             subst e8 hA
             clear hx hI x0 x1 x2 x3 x4 z0 z1
             try dsimp only
             obtain ⟨x0,x1,x2,x3,x4⟩:=hk1.out u6 h6.out
             obtain ⟨z0,z1⟩:=hk2.out u6 h6.out
             have hal6:=al' u6 (.cells #[.int .i64 p1,.int .i64 0] 29)
             have hI6:=hid (Its.lit1 u6 p1 0)
             have hb6:=hid (bl_step h6.out hal6)
             have hX7:=hid (hX6.out.keep hal6)
             clear hal6
             go_wp2_with (first
              | (go_at_call 13;refine (GR1.out _ _ (bl_step hB.out hb10.out) hI10.out).mono ?_;rintro e w11 ⟨rfl,hc11⟩;have h11:=hid (bl_step hb10.out hc11);clear hc11;clear x0 x1 x2 x3 x4 z0 z1;obtain ⟨x0,x1,x2,x3,x4⟩:=hk1.out w11 h11.out;obtain ⟨z0,z1⟩:=hk2.out w11 h11.out)
              | (go_at_call 13;refine (GR0.out _ _ (bl_step hB.out hb6.out) hI6.out).mono ?_;rintro e w8 ⟨rfl,hc8⟩;have h8:=hid (bl_step hb6.out hc8);have hX8:=hid (hX7.out.keep hc8);clear hc8;clear x0 x1 x2 x3 x4 z0 z1;obtain ⟨x0,x1,x2,x3,x4⟩:=hk1.out w8 h8.out;obtain ⟨z0,z1⟩:=hk2.out w8 h8.out)
              | (go_at_call 15;refine (GD.out _ (bl_step hB.out h8.out)).mono ?_;rintro e w9 ⟨v9,rfl,hO9,hc9⟩;obtain ⟨sa,sc,e9⟩:=shapeI (Nums.of_row hO9);subst e9;have hN9:=hid (Nums.of_row hO9);have hX9:=hid (hX8.out.keep hc9);have h9:=hid (bl_step h8.out hc9);clear hc9;clear x0 x1 x2 x3 x4 z0 z1;obtain ⟨x0,x1,x2,x3,x4⟩:=hk1.out w9 h9.out;obtain ⟨z0,z1⟩:=hk2.out w9 h9.out)
              | (go_at_call 14;refine (GX.out _ _ _ hX9.out hN9.out).mono ?_;rintro e w10 ⟨rfl,hc10⟩;have h10:=hid (bl_step h9.out hc10);clear hc10;clear x0 x1 x2 x3 x4 z0 z1;obtain ⟨x0,x1,x2,x3,x4⟩:=hk1.out w10 h10.out;obtain ⟨z0,z1⟩:=hk2.out w10 h10.out;have hal10:=al' w10 (.cells #[.int .i64 p1,.int .i64 p2] 29);have hI10:=hid (Its.lit1 w10 p1 p2);have hb10:=hid (bl_step h10.out hal10);clear hal10))
             go_ret
             exact ⟨by simp,bl_step hB.out h11.out⟩
   · rw [rgtB_none (x:=(p1,p2)) hp] at GI
     rw [rgtB_none (x:=(p1,p2)) hp] at GR1
     rw [rgtB_zero hp] at GR0
     have GS:=hid (fun u (hu:Below w.heap.size w u) => HF.sideNo g rv nv lv pv p1 u hf hp (hKp.out u hu))
     · · have GN:=hid (fun u (hu:Below w.heap.size w u) => HF.nextNo g rv nv lv pv (p1,p2) u hf (fun e => hp ⟨e.1,by have:=itB_iff.1 e.2;exact ⟨this.1,this.2.1⟩⟩) (hKp.out u hu))
         clear h hB1 hB2 k1 k2 k3 hsz hf HF HW hKp hp
         generalize g.start = st at *
         go_enter Tryz.func3,Tryz.ntmps3
         go_wp2_with (first
          | (go_at_call 8;refine GW.out.mono ?_;rintro e w1 ⟨rfl,hc1⟩;have h1:=hid hc1;obtain ⟨x0,x1,x2,x3,x4⟩:=hk1.out w1 h1.out;obtain ⟨z0,z1⟩:=hk2.out w1 h1.out;clear hc1)
          | (go_at_call 9;refine (GL.out _ (bl_step hB.out h1.out)).mono ?_;rintro e w2 ⟨rfl,hc2⟩;have h2:=hid (bl_step h1.out hc2);clear hc2;clear x0 x1 x2 x3 x4 z0 z1;obtain ⟨x0,x1,x2,x3,x4⟩:=hk1.out w2 h2.out;obtain ⟨z0,z1⟩:=hk2.out w2 h2.out))
         refine wp_region_cl [clV (gmA rv nv lv pv st),clV (.pointer (some ⟨w.heap.size + 1,0,none⟩)),clV (.int .i64 p1),clNL [],clV (gmA rv nv lv pv st),clV (.agg #[.int .i64 p1,.int .i64 p2]),clV (.int .i64 0),clNL [],clV (.int .i64 0)] (fun _ => none) (by kernel_rfl) (by kernel_rfl) (by rfl) (by intro xs;simp only [putL,Nat.reduceAdd,Act.put,List.setIfInBounds_toArray,List.set_cons_zero,List.set_cons_succ];rfl) ?_ ?_
         · refine rgAll_cons ?_ (rgAll_cons ?_ (rgAll_cons ?_ (rgAll_cons ?_ (rgAll_cons ?_ (rgAll_cons ?_ (rgAll_cons ?_ (rgAll_cons ?_ (rgAll_cons ?_ (rgAll_nil)))))))))
           · intro xs τ u fr hA hI hd K hK
             try dsimp only at hA
             subst hA
             obtain ⟨y0,y1,y2,y3,y4⟩:=hk1.out u (bl_step h2.out hI.low);obtain ⟨z0,z1⟩:=hk2.out u (bl_step h2.out hI.low)
             have hK:=hK _ τ u hI (.inl (StepT.refl _ _ _)) (holdsV _ _ _ _)
             go_simp
             exact hK
           · intro xs τ u fr hA hI hd K hK
             try dsimp only at hA
             subst hA
             have hK:=hK _ τ u hI (.inl (StepT.refl _ _ _)) (holdsV _ _ _ _)
             go_simp
             exact hK
           · intro xs τ u fr hA hI hd K hK
             try dsimp only at hA
             generalize hx1:xs 1 = z1 at hA
             have e1:=valOf (hd 1 rfl)
             rw [hx1] at e1
             subst e1
             subst hA
             obtain ⟨y0,y1,y2,y3,y4⟩:=hk1.out u (bl_step h2.out hI.low);obtain ⟨z0,z1⟩:=hk2.out u (bl_step h2.out hI.low)
             have hK:=hK _ τ u hI (.inl (StepT.refl _ _ _)) (holdsV _ _ _ _)
             go_simp
             exact hK
           · intro xs τ u fr hA hI hd K hK
             try dsimp only at hA
             generalize hx0:xs 0 = z0 at hA
             have e0:=valOf (hd 0 rfl)
             rw [hx0] at e0
             subst e0
             generalize hx2:xs 2 = z2 at hA
             have e2:=valOf (hd 2 rfl)
             rw [hx2] at e2
             subst e2
             subst hA
             refine step_callW (by rfl) 10 #[gmA rv nv lv pv st,.int .i64 p1] (by go_simp) (GS.out u (bl_step hB.out (bl_step h2.out hI.low))) ?_
             rintro e u' ⟨v',rfl,hN,hc⟩
             exact ⟨_,rfl,hK _ τ u' (hI.call hc).1 (.inl (hI.call hc).2) (holdsNL hN)⟩
           · intro xs τ u fr hA hI hd K hK
             try dsimp only at hA
             subst hA
             obtain ⟨y0,y1,y2,y3,y4⟩:=hk1.out u (bl_step h2.out hI.low);obtain ⟨z0,z1⟩:=hk2.out u (bl_step h2.out hI.low)
             have hK:=hK _ τ u hI (.inl (StepT.refl _ _ _)) (holdsV _ _ _ _)
             go_simp
             exact hK
           · intro xs τ u fr hA hI hd K hK
             try dsimp only at hA
             subst hA
             obtain ⟨y0,y1,y2,y3,y4⟩:=hk1.out u (bl_step h2.out hI.low);obtain ⟨z0,z1⟩:=hk2.out u (bl_step h2.out hI.low)
             have hK:=hK _ τ u hI (.inl (StepT.refl _ _ _)) (holdsV _ _ _ _)
             go_simp
             exact hK
           · intro xs τ u fr hA hI hd K hK
             try dsimp only at hA
             generalize hx4:xs 4 = z4 at hA
             have e4:=valOf (hd 4 rfl)
             rw [hx4] at e4
             subst e4
             generalize hx5:xs 5 = z5 at hA
             have e5:=valOf (hd 5 rfl)
             rw [hx5] at e5
             subst e5
             subst hA
             refine step_callW (by rfl) 11 #[gmA rv nv lv pv st,.agg #[.int .i64 p1,.int .i64 p2]] (by go_simp) (GN.out u (bl_step hB.out (bl_step h2.out hI.low))) ?_
             rintro e u' ⟨rfl,hc⟩
             exact ⟨_,rfl,hK _ τ u' (hI.call hc).1 (.inl (hI.call hc).2) (holdsV _ _ _ _)⟩
           · intro xs τ u fr hA hI hd K hK
             try dsimp only at hA
             subst hA
             have hK:=hK _ τ u hI (.inl (StepT.refl _ _ _)) (hd 3 rfl)
             go_simp
             exact hK
           · intro xs τ u fr hA hI hd K hK
             try dsimp only at hA
             generalize hx6:xs 6 = z6 at hA
             have e6:=valOf (hd 6 rfl)
             rw [hx6] at e6
             subst e6
             subst hA
             have hK:=hK _ τ u hI (.inl (StepT.refl _ _ _)) (holdsV _ _ _ _)
             go_simp
             exact hK
         · intro xs τ u fr hA hI hx
           have hX:=numsLOf (hx 7 rfl)
           have e8:=valOf (hx 8 rfl)
           obtain ⟨ya,yc,e7⟩:=shapeI hX
           rw [e7] at hX
           have h5:=hid (bl_step h2.out hI.low)
           have hX:=hid hX
           try dsimp only at hA
           generalize xs 7 = v7 at *
           generalize xs 8 = v8 at *
           subst e7 e8 hA
           clear hx hI x0 x1 x2 x3 x4 z0 z1
           try dsimp only
           obtain ⟨x0,x1,x2,x3,x4⟩:=hk1.out u h5.out
           obtain ⟨z0,z1⟩:=hk2.out u h5.out
           go_wp2_with fail
           refine wp_region_cl [clV (gmA rv nv lv pv st),clV (.agg #[.int .i64 p1,.int .i64 p2]),clI [(p1,p2)],clV (.bool false),clV (gmA rv nv lv pv st),clV (.agg #[.int .i64 p1,.int .i64 p2]),clI [(p1,p2)],clV (.bool false),clV (.bool false)] (fun _ => none) (by kernel_rfl) (by kernel_rfl) (by rfl) (by intro xs;simp only [putL,Nat.reduceAdd,Act.put,List.setIfInBounds_toArray,List.set_cons_zero,List.set_cons_succ];rfl) ?_ ?_
           · refine rgAll_cons ?_ (rgAll_cons ?_ (rgAll_cons ?_ (rgAll_cons ?_ (rgAll_cons ?_ (rgAll_cons ?_ (rgAll_cons ?_ (rgAll_cons ?_ (rgAll_cons ?_ (rgAll_nil)))))))))
             · intro xs τ u fr hA hI hd K hK
               try dsimp only at hA
               subst hA
               obtain ⟨y0,y1,y2,y3,y4⟩:=hk1.out u (bl_step h5.out hI.low);obtain ⟨z0,z1⟩:=hk2.out u (bl_step h5.out hI.low)
               have hK:=hK _ τ u hI (.inl (StepT.refl _ _ _)) (holdsV _ _ _ _)
               go_simp
               exact hK
             · intro xs τ u fr hA hI hd K hK
               try dsimp only at hA
               subst hA
               obtain ⟨y0,y1,y2,y3,y4⟩:=hk1.out u (bl_step h5.out hI.low);obtain ⟨z0,z1⟩:=hk2.out u (bl_step h5.out hI.low)
               have hK:=hK _ τ u hI (.inl (StepT.refl _ _ _)) (holdsV _ _ _ _)
               go_simp
               exact hK
             · intro xs τ u fr hA hI hd K hK
               try dsimp only at hA
               generalize hx1:xs 1 = z1 at hA
               have e1:=valOf (hd 1 rfl)
               rw [hx1] at e1
               subst e1
               subst hA
               obtain ⟨g1,g2,g3⟩:=hI.lit1 p1 p2
               have hK:=hK _ _ _ g1 (.inl g2) (holdsI g3)
               go_simp
               exact hK
             · intro xs τ u fr hA hI hd K hK
               try dsimp only at hA
               generalize hx0:xs 0 = z0 at hA
               have e0:=valOf (hd 0 rfl)
               rw [hx0] at e0
               subst e0
               generalize hx2:xs 2 = z2 at hA
               have d2:=hd 2 rfl
               rw [hx2] at d2
               subst hA
               refine step_callW (by rfl) 12 #[gmA rv nv lv pv st,z2] (by go_simp) (GI.out u _ (bl_step hB.out (bl_step h5.out hI.low)) (itsOf d2)) ?_
               rintro e u' ⟨rfl,hc⟩
               exact ⟨_,rfl,hK _ τ u' (hI.call hc).1 (.inl (hI.call hc).2) (holdsV _ _ _ _)⟩
             · intro xs τ u fr hA hI hd K hK
               try dsimp only at hA
               subst hA
               obtain ⟨y0,y1,y2,y3,y4⟩:=hk1.out u (bl_step h5.out hI.low);obtain ⟨z0,z1⟩:=hk2.out u (bl_step h5.out hI.low)
               have hK:=hK _ τ u hI (.inl (StepT.refl _ _ _)) (holdsV _ _ _ _)
               go_simp
               exact hK
             · intro xs τ u fr hA hI hd K hK
               try dsimp only at hA
               subst hA
               obtain ⟨y0,y1,y2,y3,y4⟩:=hk1.out u (bl_step h5.out hI.low);obtain ⟨z0,z1⟩:=hk2.out u (bl_step h5.out hI.low)
               have hK:=hK _ τ u hI (.inl (StepT.refl _ _ _)) (holdsV _ _ _ _)
               go_simp
               exact hK
             · intro xs τ u fr hA hI hd K hK
               try dsimp only at hA
               generalize hx5:xs 5 = z5 at hA
               have e5:=valOf (hd 5 rfl)
               rw [hx5] at e5
               subst e5
               subst hA
               obtain ⟨g1,g2,g3⟩:=hI.lit1 p1 p2
               have hK:=hK _ _ _ g1 (.inl g2) (holdsI g3)
               go_simp
               exact hK
             · intro xs τ u fr hA hI hd K hK
               try dsimp only at hA
               generalize hx4:xs 4 = z4 at hA
               have e4:=valOf (hd 4 rfl)
               rw [hx4] at e4
               subst e4
               generalize hx6:xs 6 = z6 at hA
               have d6:=hd 6 rfl
               rw [hx6] at d6
               subst hA
               refine step_callW (by rfl) 13 #[gmA rv nv lv pv st,z6] (by go_simp) (GR1.out u _ (bl_step hB.out (bl_step h5.out hI.low)) (itsOf d6)) ?_
               rintro e u' ⟨rfl,hc⟩
               exact ⟨_,rfl,hK _ τ u' (hI.call hc).1 (.inl (hI.call hc).2) (holdsV _ _ _ _)⟩
             · intro xs τ u fr hA hI hd K hK
               try dsimp only at hA
               generalize hx3:xs 3 = z3 at hA
               have e3:=valOf (hd 3 rfl)
               rw [hx3] at e3
               subst e3
               generalize hx7:xs 7 = z7 at hA
               have e7:=valOf (hd 7 rfl)
               rw [hx7] at e7
               subst e7
               subst hA
               have hK:=hK _ τ u hI (.inl (StepT.refl _ _ _)) (holdsV _ _ _ _)
               go_simp
               exact hK
           · intro xs τ u6 fr hA hI hx
             have e8:=valOf (hx 8 rfl)
             have h6:=hid (bl_step h5.out hI.low)
             have hX6:=hid (hX.out.keep hI.low)
             try dsimp only at hA
             generalize xs 8 = v8 at *
             subst e8 hA
             clear hx hI x0 x1 x2 x3 x4 z0 z1
             try dsimp only
             obtain ⟨x0,x1,x2,x3,x4⟩:=hk1.out u6 h6.out
             obtain ⟨z0,z1⟩:=hk2.out u6 h6.out
             have hal6:=al' u6 (.cells #[.int .i64 p1,.int .i64 0] 29)
             have hI6:=hid (Its.lit1 u6 p1 0)
             have hb6:=hid (bl_step h6.out hal6)
             have hX7:=hid (hX6.out.keep hal6)
             clear hal6
             go_wp2_with (first
              | (go_at_call 13;refine (GR0.out _ _ (bl_step hB.out hb6.out) hI6.out).mono ?_;rintro e w8 ⟨rfl,hc8⟩;have h8:=hid (bl_step hb6.out hc8);have hX8:=hid (hX7.out.keep hc8);clear hc8;clear x0 x1 x2 x3 x4 z0 z1;obtain ⟨x0,x1,x2,x3,x4⟩:=hk1.out w8 h8.out;obtain ⟨z0,z1⟩:=hk2.out w8 h8.out))
             go_ret
             exact ⟨by simp,bl_step hB.out h8.out⟩
 · have GL:=hid (fun u (hu:Below w.heap.size w u) => longYes _ _ _ _ g u (hKp.out u hu) hf)
   clear h hB1 hB2 k1 k2 k3 hsz hf HF HW
   generalize g.start = st at *
   go_enter Tryz.func3,Tryz.ntmps3
   go_wp2_with (first
    | (go_at_call 8;refine GW.out.mono ?_;rintro e w1 ⟨rfl,hc1⟩;have h1:=hid hc1;obtain ⟨x0,x1,x2,x3,x4⟩:=hk1.out w1 h1.out;obtain ⟨z0,z1⟩:=hk2.out w1 h1.out;clear hc1)
    | (go_at_call 9;refine (GL.out _ (bl_step hB.out h1.out)).mono ?_;rintro e w2 ⟨rfl,hc2⟩;have h2:=hid (bl_step h1.out hc2);clear hc2;clear x0 x1 x2 x3 x4 z0 z1;obtain ⟨x0,x1,x2,x3,x4⟩:=hk1.out w2 h2.out;obtain ⟨z0,z1⟩:=hk2.out w2 h2.out))
   go_ret
   exact ⟨rfl,bl_step hB.out h2.out⟩
end Go.Proofs.YtbpnioehmohbcaaGreat
namespace Go.Proofs.YtbpnioehmohbcaaGreat
open Go.ChangeShapes Go.WideShapes Go.ChangeAt Go.RowKit
open Go.ChangeMaps (open_string shut_string)
set_option maxRecDepth 100000 in
theorem itemsRight_lifted (os:Os) (started:os.Started) (H:Type) (enc:TypeId × Value → H) :
 ReturnsInHanded {} Tryz.checked os 3 .any (Rows.itemsRightSpec.pre6 enc Tryz.prog Tryz.f3 Rows.itemsRightRow.domain false) (Rows.itemsRightSpec.post enc Tryz.prog Tryz.f3 false true false false):=by
 refine returnsInHanded_of_change (C:=Tryz.checked) Tryz.own started (by kernel_rfl) Tryz.func3
  (ChangeSpec.witness6 (enc:=enc) (C:=Tryz.checked) false ⟨#[],#[.agg #[.slice none 0 0,.slice none 0 0,.slice none 0 0,.slice none 0 0,.int .i64 0],.agg #[.int .i64 0,.int .i64 0]],[]⟩ 8 (by kernel_rfl) (by kernel_rfl) (by kernel_rfl) (by kernel_rfl)) ?_
 intro W base args ds gs before hval0 hW hcnd _
 have hval:∀ (j:Nat) t v,Tryz.f3.params[j]? = some t → args[j]? = some v → Value.okWide Tryz.prog W .any base t v:=hval0
 have hW':=hW
 obtain ⟨p,q,hA0,hV,rfl,hfz,hnd⟩:=hW
 have hA:DataW.TrodAll enc Tryz.prog W 0 (fun _ => true) true Tryz.f3.params.toList args.toList ds p:=hA0
 rw [Tryz.params3] at hA hval
 obtain ⟨v0,v1,d0,d1,p0,p1,rfl,rfl,rfl,h0,h1⟩:=trodAll_two hA
 obtain ⟨g,rv,nv,lv,pv,rfl,hg⟩:=open_gram (hval 0 27 v0 rfl rfl) h0
 obtain ⟨x,rfl⟩:=open_item (hval 1 29 v1 rfl rfl) h1
 obtain ⟨rfl,rfl⟩:=trodVars_none hV
 clear hA0 hval0
 refine (itemsRightWalk itmOK wkOK16 rv nv lv pv g x W hg).mono fun e W' ⟨he,hb⟩ => ?_
 subst he
 exact ⟨_,rfl,law_post (by kernel_rfl) rfl (by kernel_rfl) rfl hW' hb⟩
set_option maxRecDepth 20000 in
theorem itemsRight_holds:Rows.ItemsRightSaid:=
 OpenClaim.holds_of_wide 3 Tryz.f3 rfl rfl rfl rfl rfl rfl rfl ⟨rfl,rfl,rfl,rfl,rfl⟩ rfl rfl rfl rfl rfl (by kernel_rfl) Tryz.func3 (by kernel_rfl)
  (of_decide_eq_true (by kernel_rfl)) (by unfold Func.isWrapper;first | (rw [if_pos (by decide +kernel)];kernel_rfl) | (rw [if_neg (by decide +kernel)];exact ⟨rfl,rfl⟩))
  (fun os started H enc _ => itemsRight_lifted os started H enc)
end Go.Proofs.YtbpnioehmohbcaaGreat
