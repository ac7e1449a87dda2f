/- FirstJoins' walk. -/
import Derived.Test.YtfhokapfkclckaaGreatJA
import Derived.SizedLaws
namespace Go.Proofs.YtfhokapfkclckaaGreat
open Go.RowKit Go.Maps Go.Sort Go.ChangeShapes Go.WideShapes
set_option maxRecDepth 100000 in
theorem nums_datum {H:Type} {enc:TypeId × Value → H} {W:World} {ao:Option Addr} {len cap:Nat} {d:DataW H} {p:List MemPlace} (h:DataW.Trod enc Tryz.prog W 0 (fun _ => true) true 30 (.slice ao len cap) d p):len = 0 ∨ ∃ elems spare,d = .slice elems spare ∧ elems.length = len:=by
 obtain ⟨fuel,hf⟩:=h
 rcases open_ints Tryz.underlying30 Tryz.underlying3 Tryz.cells3 hf with ⟨hcs,_⟩ | ⟨a,len',cap',zs,hcs,_,hl,hm,hz,hd,hcells,hwf⟩
 · simp [Value.cells] at hcs
   exact .inl hcs.2.1
 · simp [Value.cells] at hcs
   obtain ⟨rfl,rfl,rfl⟩:=hcs
   have hz':zs.length = cap:=by simpa using hz
   exact .inr ⟨_,_,congrArg Prod.fst hd,by simp [lits];omega⟩
set_option maxRecDepth 20000 in
theorem nums_reach {H:Type} {ts:List TypeId} {ds:List (DataW H)} {d:DataW H} {len:Nat} (hsz:(DataW.weightsEach Tryz.prog ts ds).all (· ≤ reachBytes) = true) {j:Nat} (ht:ts[j]? = some 30) (hd:ds[j]? = some d) (h:len = 0 ∨ ∃ elems spare,d = .slice elems spare ∧ elems.length = len):len ≤ 140737488355328:=by
 rcases h with rfl | ⟨elems,spare,rfl,he⟩
 · omega
 · have:=sized_slice hsz (j:=j) ht hd Tryz.underlying30
   rw [show Tryz.prog.bytesOf 3 = 8 by kernel_rfl] at this
   have:=reachBytes_lt
   omega
theorem csI_num (l:List Int):l.flatMap csI = numCells l:=by
 induction l with
 | nil => rfl
 | cons x r ih => rw [List.flatMap_cons,ih];rfl
set_option maxRecDepth 20000 in
theorem copyTwo (u:World) (va vb:Value) (a b:List Int) (ha:Nums u va a) (hb:Nums u vb b) (hal:a.length ≤ 1000) (hbl:b.length ≤ 1000) :
 ∃ v1 w1 v2 w2,(Builtin.append_ #[30,30] 30 #[.slice (some ⟨u.heap.size,0,none⟩) 0 0,va]).run Tryz.prog (u.alloc (.cells #[] 3)) = .ok v1 w1 ∧ (Builtin.append_ #[30,30] 30 #[v1,vb]).run Tryz.prog w1 = .ok v2 w2 ∧ Nums w2 v2 (a ++ b) ∧ Below u.heap.size u w1 ∧ Below u.heap.size u w2:=by
 obtain ⟨i0,hi,hz0,hz1,hz2⟩:=info_parts Tryz.info3
 obtain ⟨v1,w1,hr,hO,hb1⟩:=run_appG (tS:=30) (ty:=30) (u:=u) Tryz.underlying30 hi hz0 hz1 hz2 rfl (by decide) (nums_rw ha) (by omega) (by omega)
 rw [csI_num] at hO
 have hE:EaV u w1 (.slice none 0 0) v1 [] a:=⟨World.ownsRow_nil _ _ _ _,hO,hb1,fun k h => (by cases h)⟩
 obtain ⟨v2,w2,hr2,hE2⟩:=hE.addL (hb.keep hb1) (by omega)
 exact ⟨v1,w1,v2,w2,hr,hr2,Nums.of_row hE2.all,hb1,hE2.low⟩
theorem firL_app {g:Gm} (hg:SndG g) (a b:List Int):firL g (a ++ b) = if goneB (nulL g) a = true then unionL (firL g a) (firL g b) else firL g a:=by
 have hgn:goneB (nulL g) a = true ↔ ∀ n ∈ a,Van g n:=by
  rw [goneB_iff]
  exact ⟨fun h n hn => (nulL_mem hg n).1 (h n hn),fun h n hn => (nulL_mem hg n).2 (h n hn)⟩
 refine up_uniq (by unfold firL;exact ofL_up _) ?_ (fun x => ?_)
 · split
   · unfold unionL;exact ofL_up _
   · unfold firL;exact ofL_up _
 · rw [firL_mem hg,Beg.app]
   split
   · rename_i h
     rw [unionL_mem,firL_mem hg,firL_mem hg]
     have:=hgn.1 h
     constructor
     · rintro ⟨h1 | ⟨_,h1⟩,h2⟩
       · exact .inl ⟨h1,h2⟩
       · exact .inr ⟨h1,h2⟩
     · rintro (⟨h1,h2⟩ | ⟨h1,h2⟩)
       · exact ⟨.inl h1,h2⟩
       · exact ⟨.inr ⟨this,h1⟩,h2⟩
   · rename_i h
     rw [firL_mem hg]
     constructor
     · rintro ⟨h1 | ⟨h3,_⟩,h2⟩
       · exact ⟨h1,h2⟩
       · exact absurd (hgn.2 h3) h
     · rintro ⟨h1,h2⟩
       exact ⟨.inl h1,h2⟩
theorem goneB_app (null a b:List Int):goneB null (a ++ b) = (goneB null a && goneB null b):=by
 unfold goneB
 exact List.all_append
set_option maxRecDepth 20000 in
set_option maxHeartbeats 16000000 in
theorem firstJoinsWalk (HF:FstOK) (HW:WkOK15) (rv nv lv pv av bv:Value) (g:Gm) (a b:List Int) (w:World) (h:GmV w rv nv lv pv g) (ha:Nums w av a) (hb:Nums w bv b) (hal:a.length ≤ 140737488355328) (hbl:b.length ≤ 140737488355328):Calls Tryz.prog 6 #[gmA rv nv lv pv g.start,av,bv] w fun e w' => e = .returned (.bool true) ∧ Below w.heap.size w w':=by
 have hKp:=hid (fun u (hu:Below w.heap.size w u) => h.keep hu)
 have hAp:=hid (fun u (hu:Below w.heap.size w u) => ha.keep hu)
 have hBp:=hid (fun u (hu:Below w.heap.size w u) => hb.keep hu)
 have hB1:=al' w (.cells #[rv,nv,lv,pv,.int .i64 g.start] 27)
 have k1:=heap_new w (.cells #[rv,nv,lv,pv,.int .i64 g.start] 27)
 obtain ⟨W,hW⟩:∃ x,w.alloc (.cells #[rv,nv,lv,pv,.int .i64 g.start] 27) = x:=⟨_,rfl⟩
 rw [hW] at hB1 k1
 have hk1:=hid (fun u (hu:Below W.heap.size W u) => cells5m (hs_keep k1 hu))
 have hB:=hid hB1
 have GW:=hid (HW.wakes W)
 obtain ⟨aa,ac,rfl,-⟩:=id ha
 obtain ⟨ba,bc,rfl,-⟩:=id hb
 by_cases hf:Fits12 g
 · have GL:=hid (fun u (hu:Below w.heap.size w u) => longNo _ _ _ _ g u (hKp.out u hu) hf)
   by_cases hl:a.length + b.length ≤ 40
   · have GS:=hid (fun u (hu:Below w.heap.size w u) => refSound g _ _ _ _ u (hKp.out u hu) hf.bnd hf.names)
     have GYa:=hid (fun u (hu:Below w.heap.size w u) => refSymbols g rv nv lv pv (.slice aa a.length ac) a u (hKp.out u hu) (by have:=hf.bnd.rules;omega) (by have:=hf.bnd.nonts;omega) (by omega) (hAp.out u hu))
     have GYb:=hid (fun u (hu:Below w.heap.size w u) => refSymbols g rv nv lv pv (.slice ba b.length bc) b u (hKp.out u hu) (by have:=hf.bnd.rules;omega) (by have:=hf.bnd.nonts;omega) (by omega) (hBp.out u hu))
     by_cases hg:SndG g
     · rw [soundB_yes hg] at GS
       by_cases hsa:SymP g a
       · rw [symB15_iff.2 hsa] at GYa
         by_cases hsb:SymP g b
         · rw [symB15_iff.2 hsb] at GYb
           have hsc:SymP g (a ++ b):=fun n hn => (List.mem_append.1 hn).elim (hsa n) (hsb n)
           have GA:=hid (fun u (hu:Below W.heap.size W u) => HF.ofYes g _ _ _ _ (.slice aa a.length ac) a u hf hg hsa (by omega) (hKp.out u (bl_step hB1 hu)) (hAp.out u (bl_step hB1 hu)))
           have GB:=hid (fun u (hu:Below W.heap.size W u) => HF.ofYes g _ _ _ _ (.slice ba b.length bc) b u hf hg hsb (by omega) (hKp.out u (bl_step hB1 hu)) (hBp.out u (bl_step hB1 hu)))
           have GC:=hid (fun u v (hu:Below W.heap.size W u) (hv:Nums u v (a ++ b)) => HF.ofYes g _ _ _ _ v (a ++ b) u hf hg hsc (by rw [List.length_append];omega) (hKp.out u (bl_step hB1 hu)) hv)
           have hcp:=hid (fun u (hu:Below W.heap.size W u) => copyTwo u _ _ a b (hAp.out u (bl_step hB1 hu)) (hBp.out u (bl_step hB1 hu)) (by omega) (by omega))
           have l1:=firL_len hg hsa
           have l2:=firL_len hg hsb
           have hfa:=firL_app hg a b
           rw [goneB_app,hfa] at GC
           have GU:=hid (fun u v v' (h1:Nums u v (firL g a)) (h2:Nums u v' (firL g b)) => refUnion v v' _ _ u (by omega) (by omega) h1 h2)
           have lu:(unionL (firL g a) (firL g b)).length ≤ 100:=by
            unfold unionL
            have:=ofL_len (firL g a ++ firL g b)
            rw [List.length_append] at this
            omega
           clear h hB1 k1 hf HF HW ha hb hKp hAp hBp hg hsa hsb hsc hfa
           have GX:Hid (∀ (L:List Int) u v v',L.length ≤ 100 → Nums u v L → Nums u v' L → Calls Tryz.prog 12 #[v,v'] u fun e w' => e = .returned (.bool true) ∧ Below u.heap.size u w'):=hid (fun L u v v' hl h1 h2 => by
            have:=refSame v v' L L u (by omega) (by omega) h1 h2
            rw [decide_eq_true rfl] at this
            exact this)
           generalize firL g a = LA at *
           generalize firL g b = LB at *
           generalize unionL LA LB = LU at *
           generalize goneB (nulL g) a = NA at *
           generalize goneB (nulL g) b = NB at *
           have hlz:(a.length:Int) + (b.length:Int) ≤ 40:=by omega
           have hlz2:¬ (40:Int) < (a.length:Int) + (b.length:Int):=by omega
           generalize a.length = al at *
           generalize b.length = bl at *
           generalize g.start = st at *
           cases NA with
           | true =>
            rw [if_pos rfl] at GC
            obtain ⟨LC,hLC⟩:∃ n,Hid (LU = n):=⟨_,hid rfl⟩
            rw [hLC.out] at GC GU lu
            have hNT:(true && NB) = NB:=rfl
            rw [hNT] at GC
            go_enter Tryz.func6,Tryz.ntmps6
            go_wp2_with (first
             | (go_at_call 8;refine GW.out.mono ?_;rintro e w1 ⟨rfl,hc1⟩;have h1:=hid hc1;obtain ⟨x0,x1,x2,x3,x4⟩:=hk1.out w1 h1.out;clear hc1)
             | (go_at_call 9;refine (GL.out _ (bl_step hB.out h1.out)).mono ?_;rintro e w2 ⟨rfl,hc2⟩;have h2:=hid (bl_step h1.out hc2);clear hc2;clear x0 x1 x2 x3 x4;obtain ⟨x0,x1,x2,x3,x4⟩:=hk1.out w2 h2.out)
             | (go_at_call 11;refine (GS.out _ (bl_step hB.out h2.out)).mono ?_;rintro e w3 ⟨rfl,hc3⟩;have h3:=hid (bl_step h2.out hc3);clear hc3;clear x0 x1 x2 x3 x4;obtain ⟨x0,x1,x2,x3,x4⟩:=hk1.out w3 h3.out)
             | (go_at_call 15;refine (GYb.out _ (bl_step hB.out h4.out)).mono ?_;rintro e w5 ⟨rfl,hc5⟩;have h5:=hid (bl_step h4.out hc5);clear hc5;clear x0 x1 x2 x3 x4;obtain ⟨x0,x1,x2,x3,x4⟩:=hk1.out w5 h5.out)
             | (go_at_call 15;refine (GYa.out _ (bl_step hB.out h3.out)).mono ?_;rintro e w4 ⟨rfl,hc4⟩;have h4:=hid (bl_step h3.out hc4);clear hc4;clear x0 x1 x2 x3 x4;obtain ⟨x0,x1,x2,x3,x4⟩:=hk1.out w4 h4.out)
             | (go_at_call 14;refine (GB.out _ h6.out).mono ?_;rintro e w7 ⟨v7,rfl,hN7,hc7⟩;obtain ⟨v7a,v7c,e7⟩:=shapeN15 hN7;subst e7;have hN7:=hid hN7;have hM7:=hid (hN6.out.keep hc7);have h7:=hid (bl_step h6.out hc7);clear hc7;clear x0 x1 x2 x3 x4;obtain ⟨x0,x1,x2,x3,x4⟩:=hk1.out w7 h7.out)
             | (go_at_call 14;refine (GA.out _ h5.out).mono ?_;rintro e w6 ⟨v6,rfl,hN6,hc6⟩;obtain ⟨v6a,v6c,e6⟩:=shapeN15 hN6;subst e6;have hN6:=hid hN6;have h6:=hid (bl_step h5.out hc6);clear hc6;clear x0 x1 x2 x3 x4;obtain ⟨x0,x1,x2,x3,x4⟩:=hk1.out w6 h6.out))
            obtain ⟨v1,u1,v2,u2,hrun1,hrun2,hNab,hbu1,hbu2⟩:=hcp.out w7.drew h7.out.drew
            have hu1:=hid (bl_step h7.out.drew hbu1)
            have hu2:=hid (bl_step h7.out.drew hbu2)
            have GC3:=hid (GC.out u2 _ hu2.out hNab)
            apply collapseWV (F:=fun V v => Nums V v LC ∧ Nums V (.slice v6a LA.length v6c) LA ∧ Nums V (.slice v7a LB.length v7c) LB ∧ Below W.heap.size W V)
            case h =>
             intro rest
             have h7a:=hid (bl_step h7.out (al' w7 (.cells #[] 3)))
             obtain ⟨y0,y1,y2,y3,y4⟩:=hk1.out u1 hu1.out
             obtain ⟨z0,z1,z2,z3,z4⟩:=hk1.out u2 hu2.out
             obtain ⟨s0,s1,s2,s3,s4⟩:=hk1.out _ h7a.out
             go_region_law ((first
              | (refine step_run (by rfl) (.tmp 58) (.tmp 59) 30 (by rfl) _ _ (by rfl) (by rfl) hrun2 ?_)
              | (refine step_run (by rfl) (.tmp 56) (.tmp 57) 30 (by rfl) _ _ (by rfl) (by rfl) hrun1 ?_)
              | (refine step_call15 (by rfl) 14 #[gmA rv nv lv pv st,v2] (by go_simp) GC3.out ?_;rintro e w8 ⟨v8,rfl,hN8,hc8⟩;refine ⟨_,rfl,?_⟩;have hN8:=hid hN8;have h8:=hid (bl_step hu2.out hc8);have hA8:=hid ((hM7.out.keep ((Below.refl _ w7).drew)).keep (bl_step hbu2 hc8));have hB8:=hid ((hN7.out.keep ((Below.refl _ w7).drew)).keep (bl_step hbu2 hc8));clear hc8)))
             all_goals exact rest w8 v8 ⟨hN8.out,hA8.out,hB8.out,h8.out⟩
            case pf =>
             rintro V v ⟨hNV,hNA,hNB,hBV⟩
             obtain ⟨va,vc,rfl⟩:=shapeN15 hNV
             have hNV:=hid hNV
             have hNA:=hid hNA
             have hNB:=hid hNB
             have h9:=hid hBV
             clear hBV
             go_wp2_with (first
              | (go_at_call 20;refine (GU.out _ _ _ hNA.out hNB.out).mono ?_;rintro e w10 ⟨v10,rfl,hO10,hc10⟩;have hN10:=hid (Nums.of_row hO10);obtain ⟨v10a,v10c,e10⟩:=shapeN15 hN10.out;subst e10;have hV10:=hid (hNV.out.keep hc10);have h10:=hid (bl_step h9.out hc10);clear hO10 hc10)
              | (go_at_call 12;refine (GX.out LC _ _ _ lu hV10.out hN10.out).mono ?_;rintro e w11 ⟨rfl,hc11⟩;have h11:=hid (bl_step h10.out hc11);clear hc11))
             go_ret
             exact ⟨by simp,bl_step hB.out h11.out⟩
           | false =>
            rw [if_neg (by decide)] at GC
            obtain ⟨LC,hLC⟩:∃ n,Hid (LA = n):=⟨_,hid rfl⟩
            have hNT:(false && NB) = false:=rfl
            rw [hNT,hLC.out] at GC
            go_enter Tryz.func6,Tryz.ntmps6
            go_wp2_with (first
             | (go_at_call 8;refine GW.out.mono ?_;rintro e w1 ⟨rfl,hc1⟩;have h1:=hid hc1;obtain ⟨x0,x1,x2,x3,x4⟩:=hk1.out w1 h1.out;clear hc1)
             | (go_at_call 9;refine (GL.out _ (bl_step hB.out h1.out)).mono ?_;rintro e w2 ⟨rfl,hc2⟩;have h2:=hid (bl_step h1.out hc2);clear hc2;clear x0 x1 x2 x3 x4;obtain ⟨x0,x1,x2,x3,x4⟩:=hk1.out w2 h2.out)
             | (go_at_call 11;refine (GS.out _ (bl_step hB.out h2.out)).mono ?_;rintro e w3 ⟨rfl,hc3⟩;have h3:=hid (bl_step h2.out hc3);clear hc3;clear x0 x1 x2 x3 x4;obtain ⟨x0,x1,x2,x3,x4⟩:=hk1.out w3 h3.out)
             | (go_at_call 15;refine (GYb.out _ (bl_step hB.out h4.out)).mono ?_;rintro e w5 ⟨rfl,hc5⟩;have h5:=hid (bl_step h4.out hc5);clear hc5;clear x0 x1 x2 x3 x4;obtain ⟨x0,x1,x2,x3,x4⟩:=hk1.out w5 h5.out)
             | (go_at_call 15;refine (GYa.out _ (bl_step hB.out h3.out)).mono ?_;rintro e w4 ⟨rfl,hc4⟩;have h4:=hid (bl_step h3.out hc4);clear hc4;clear x0 x1 x2 x3 x4;obtain ⟨x0,x1,x2,x3,x4⟩:=hk1.out w4 h4.out)
             | (go_at_call 14;refine (GB.out _ h6.out).mono ?_;rintro e w7 ⟨v7,rfl,hN7,hc7⟩;obtain ⟨v7a,v7c,e7⟩:=shapeN15 hN7;subst e7;have hN7:=hid hN7;have hM7:=hid (hN6.out.keep hc7);have h7:=hid (bl_step h6.out hc7);clear hc7;clear x0 x1 x2 x3 x4;obtain ⟨x0,x1,x2,x3,x4⟩:=hk1.out w7 h7.out)
             | (go_at_call 14;refine (GA.out _ h5.out).mono ?_;rintro e w6 ⟨v6,rfl,hN6,hc6⟩;obtain ⟨v6a,v6c,e6⟩:=shapeN15 hN6;subst e6;have hN6:=hid hN6;have h6:=hid (bl_step h5.out hc6);clear hc6;clear x0 x1 x2 x3 x4;obtain ⟨x0,x1,x2,x3,x4⟩:=hk1.out w6 h6.out))
            obtain ⟨v1,u1,v2,u2,hrun1,hrun2,hNab,hbu1,hbu2⟩:=hcp.out w7.drew h7.out.drew
            have hu1:=hid (bl_step h7.out.drew hbu1)
            have hu2:=hid (bl_step h7.out.drew hbu2)
            have GC3:=hid (GC.out u2 _ hu2.out hNab)
            apply collapseWV (F:=fun V v => Nums V v LC ∧ Nums V (.slice v6a LA.length v6c) LA ∧ Nums V (.slice v7a LB.length v7c) LB ∧ Below W.heap.size W V)
            case h =>
             intro rest
             have h7a:=hid (bl_step h7.out (al' w7 (.cells #[] 3)))
             obtain ⟨y0,y1,y2,y3,y4⟩:=hk1.out u1 hu1.out
             obtain ⟨z0,z1,z2,z3,z4⟩:=hk1.out u2 hu2.out
             obtain ⟨s0,s1,s2,s3,s4⟩:=hk1.out _ h7a.out
             go_region_law ((first
              | (refine step_run (by rfl) (.tmp 58) (.tmp 59) 30 (by rfl) _ _ (by rfl) (by rfl) hrun2 ?_)
              | (refine step_run (by rfl) (.tmp 56) (.tmp 57) 30 (by rfl) _ _ (by rfl) (by rfl) hrun1 ?_)
              | (refine step_call15 (by rfl) 14 #[gmA rv nv lv pv st,v2] (by go_simp) GC3.out ?_;rintro e w8 ⟨v8,rfl,hN8,hc8⟩;refine ⟨_,rfl,?_⟩;have hN8:=hid hN8;have h8:=hid (bl_step hu2.out hc8);have hA8:=hid ((hM7.out.keep ((Below.refl _ w7).drew)).keep (bl_step hbu2 hc8));have hB8:=hid ((hN7.out.keep ((Below.refl _ w7).drew)).keep (bl_step hbu2 hc8));clear hc8)))
             all_goals exact rest w8 v8 ⟨hN8.out,hA8.out,hB8.out,h8.out⟩
            case pf =>
             rintro V v ⟨hNV,hNA,hNB,hBV⟩
             obtain ⟨va,vc,rfl⟩:=shapeN15 hNV
             have hNV:=hid hNV
             have hNA:=hid hNA
             have hNB:=hid hNB
             have h9:=hid hBV
             clear hBV
             go_wp2_with (go_at_call 12;refine (GX.out LC _ _ _ (by rw [← hLC.out];omega) hNV.out (by rw [← hLC.out];exact hNA.out)).mono ?_;rintro e w11 ⟨rfl,hc11⟩;have h11:=hid (bl_step h9.out hc11);clear hc11)
             go_ret
             exact ⟨by simp,bl_step hB.out h11.out⟩
         · skip
           rw [show symB15 g b = false from Bool.eq_false_iff.2 (fun e => hsb (symB15_iff.1 e))] at GYb
           have hlz:(a.length:Int) + (b.length:Int) ≤ 40:=by omega
           have hlz2:¬ (40:Int) < (a.length:Int) + (b.length:Int):=by omega
           clear h hB1 k1 HF HW ha hb hAp hBp hKp
           generalize a.length = al at *
           generalize b.length = bl at *
           generalize g.start = st at *
           go_enter Tryz.func6,Tryz.ntmps6
           go_wp2_with (first
            | (go_at_call 8;refine GW.out.mono ?_;rintro e w1 ⟨rfl,hc1⟩;have h1:=hid hc1;obtain ⟨x0,x1,x2,x3,x4⟩:=hk1.out w1 h1.out;clear hc1)
            | (go_at_call 9;refine (GL.out _ (bl_step hB.out h1.out)).mono ?_;rintro e w2 ⟨rfl,hc2⟩;have h2:=hid (bl_step h1.out hc2);clear hc2;clear x0 x1 x2 x3 x4;obtain ⟨x0,x1,x2,x3,x4⟩:=hk1.out w2 h2.out)
            | (go_at_call 11;refine (GS.out _ (bl_step hB.out h2.out)).mono ?_;rintro e w3 ⟨rfl,hc3⟩;have h3:=hid (bl_step h2.out hc3);clear hc3;clear x0 x1 x2 x3 x4;obtain ⟨x0,x1,x2,x3,x4⟩:=hk1.out w3 h3.out)
            | (go_at_call 15;refine (GYb.out _ (bl_step hB.out h4.out)).mono ?_;rintro e w5 ⟨rfl,hc5⟩;have h5:=hid (bl_step h4.out hc5);clear hc5;clear x0 x1 x2 x3 x4;obtain ⟨x0,x1,x2,x3,x4⟩:=hk1.out w5 h5.out)
            | (go_at_call 15;refine (GYa.out _ (bl_step hB.out h3.out)).mono ?_;rintro e w4 ⟨rfl,hc4⟩;have h4:=hid (bl_step h3.out hc4);clear hc4;clear x0 x1 x2 x3 x4;obtain ⟨x0,x1,x2,x3,x4⟩:=hk1.out w4 h4.out))
           go_ret
           exact ⟨rfl,bl_step hB.out h5.out⟩
       · skip
         rw [show symB15 g a = false from Bool.eq_false_iff.2 (fun e => hsa (symB15_iff.1 e))] at GYa
         have hlz:(a.length:Int) + (b.length:Int) ≤ 40:=by omega
         have hlz2:¬ (40:Int) < (a.length:Int) + (b.length:Int):=by omega
         clear h hB1 k1 HF HW ha hb hAp hBp hKp
         generalize a.length = al at *
         generalize b.length = bl at *
         generalize g.start = st at *
         go_enter Tryz.func6,Tryz.ntmps6
         go_wp2_with (first
          | (go_at_call 8;refine GW.out.mono ?_;rintro e w1 ⟨rfl,hc1⟩;have h1:=hid hc1;obtain ⟨x0,x1,x2,x3,x4⟩:=hk1.out w1 h1.out;clear hc1)
          | (go_at_call 9;refine (GL.out _ (bl_step hB.out h1.out)).mono ?_;rintro e w2 ⟨rfl,hc2⟩;have h2:=hid (bl_step h1.out hc2);clear hc2;clear x0 x1 x2 x3 x4;obtain ⟨x0,x1,x2,x3,x4⟩:=hk1.out w2 h2.out)
          | (go_at_call 11;refine (GS.out _ (bl_step hB.out h2.out)).mono ?_;rintro e w3 ⟨rfl,hc3⟩;have h3:=hid (bl_step h2.out hc3);clear hc3;clear x0 x1 x2 x3 x4;obtain ⟨x0,x1,x2,x3,x4⟩:=hk1.out w3 h3.out)
          | (go_at_call 15;refine (GYa.out _ (bl_step hB.out h3.out)).mono ?_;rintro e w4 ⟨rfl,hc4⟩;have h4:=hid (bl_step h3.out hc4);clear hc4;clear x0 x1 x2 x3 x4;obtain ⟨x0,x1,x2,x3,x4⟩:=hk1.out w4 h4.out))
         go_ret
         exact ⟨rfl,bl_step hB.out h4.out⟩
     · skip
       rw [soundB_no hg] at GS
       have hlz:(a.length:Int) + (b.length:Int) ≤ 40:=by omega
       have hlz2:¬ (40:Int) < (a.length:Int) + (b.length:Int):=by omega
       clear h hB1 k1 HF HW ha hb hAp hBp hKp
       generalize a.length = al at *
       generalize b.length = bl at *
       generalize g.start = st at *
       go_enter Tryz.func6,Tryz.ntmps6
       go_wp2_with (first
        | (go_at_call 8;refine GW.out.mono ?_;rintro e w1 ⟨rfl,hc1⟩;have h1:=hid hc1;obtain ⟨x0,x1,x2,x3,x4⟩:=hk1.out w1 h1.out;clear hc1)
        | (go_at_call 9;refine (GL.out _ (bl_step hB.out h1.out)).mono ?_;rintro e w2 ⟨rfl,hc2⟩;have h2:=hid (bl_step h1.out hc2);clear hc2;clear x0 x1 x2 x3 x4;obtain ⟨x0,x1,x2,x3,x4⟩:=hk1.out w2 h2.out)
        | (go_at_call 11;refine (GS.out _ (bl_step hB.out h2.out)).mono ?_;rintro e w3 ⟨rfl,hc3⟩;have h3:=hid (bl_step h2.out hc3);clear hc3;clear x0 x1 x2 x3 x4;obtain ⟨x0,x1,x2,x3,x4⟩:=hk1.out w3 h3.out))
       go_ret
       exact ⟨rfl,bl_step hB.out h3.out⟩
   · skip
     have hlz:¬ (a.length:Int) + (b.length:Int) ≤ 40:=by omega
     have hlz2:(40:Int) < (a.length:Int) + (b.length:Int):=by omega
     have hlw:IntKind.i64.wrap ((a.length:Int) + (b.length:Int)) = (a.length:Int) + (b.length:Int):=by
      rw [IntKind.wrap_i64]
      omega
     clear h hB1 k1 HF HW ha hb hAp hBp hKp
     generalize a.length = al at *
     generalize b.length = bl at *
     generalize g.start = st at *
     go_enter Tryz.func6,Tryz.ntmps6
     go_wp2_with (first
      | (go_at_call 8;refine GW.out.mono ?_;rintro e w1 ⟨rfl,hc1⟩;have h1:=hid hc1;obtain ⟨x0,x1,x2,x3,x4⟩:=hk1.out w1 h1.out;clear hc1)
      | (go_at_call 9;refine (GL.out _ (bl_step hB.out h1.out)).mono ?_;rintro e w2 ⟨rfl,hc2⟩;have h2:=hid (bl_step h1.out hc2);clear hc2;clear x0 x1 x2 x3 x4;obtain ⟨x0,x1,x2,x3,x4⟩:=hk1.out w2 h2.out))
     go_ret
     exact ⟨rfl,bl_step hB.out h2.out⟩
 · skip
   have GL:=hid (fun u (hu:Below w.heap.size w u) => longYes _ _ _ _ g u (hKp.out u hu) hf)
   clear h hB1 k1 HF HW ha hb hAp hBp hKp hf
   generalize a.length = al at *
   generalize b.length = bl at *
   generalize g.start = st at *
   go_enter Tryz.func6,Tryz.ntmps6
   go_wp2_with (first
    | (go_at_call 8;refine GW.out.mono ?_;rintro e w1 ⟨rfl,hc1⟩;have h1:=hid hc1;obtain ⟨x0,x1,x2,x3,x4⟩:=hk1.out w1 h1.out;clear hc1)
    | (go_at_call 9;refine (GL.out _ (bl_step hB.out h1.out)).mono ?_;rintro e w2 ⟨rfl,hc2⟩;have h2:=hid (bl_step h1.out hc2);clear hc2;clear x0 x1 x2 x3 x4;obtain ⟨x0,x1,x2,x3,x4⟩:=hk1.out w2 h2.out))
   go_ret
   exact ⟨rfl,bl_step hB.out h2.out⟩
end Go.Proofs.YtfhokapfkclckaaGreat
