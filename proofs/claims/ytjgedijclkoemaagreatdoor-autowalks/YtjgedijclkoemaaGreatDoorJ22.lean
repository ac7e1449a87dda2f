/- What the five laws of layer 17 share, part 22: no statement of its own. -/
import Derived.Test.YtjgedijclkoemaaGreatDoorJ20
import Derived.Test.YtjgedijclkoemaaGreatDoorJ21
namespace Go.Proofs.YtjgedijclkoemaaGreatDoor
open Go.RowKit Go.Maps Go.Sort
set_option maxRecDepth 100000 in
set_option maxHeartbeats 16000000 in
theorem b1f (g:Gm) (rv nv lv pv:Value) (w:World) (hV:GmV w rv nv lv pv g) (hb:BndG g) (hnl:∀ t∈g.allN,t.length≤1000000) (hu:UsG g) :
 Calls Tryz.prog 11 #[gmA rv nv lv pv g.start] w fun e w'=>(a0A g→∃ v,e=.returned (.tuple #[v,.int .i64 0])∧Sts w' v (N_ g))∧(¬ a0A g→e=.returned (.tuple #[.slice none 0 0,.int .i64 3]))∧Below w.heap.size w w':=by
 have hg:=hu.snd;have GU:=hid (fun u (hu:Below w.heap.size w u)=>a7m g _ _ _ _ u (hV.keep hu) hb hnl);have GT:=hid (fun u (hu:Below w.heap.size w u)=>a4h rv nv lv pv g u (hV.keep hu) (by have:=hg.rules;omega));rw [a5F hu] at GU;have GG:=hid (fun u vk x s (hu':Below w.heap.size w u) (hx:∀ y∈x,itB g y=true) (hl:x.length≤100000) (hI:Its u vk x)=>b8X g rv nv lv pv vk x s u (hV.keep hu') hb ⟨hu,hx⟩ hl hI);have GF:=hid (fun u vl vk L k (hL:Sts u vl L) (hK:Its u vk k) (hl:L.length≤1000) (hlk:∀ x∈L,x.1.length≤1000) (hk:k.length≤1000)=>b5V vl vk L k u hL hK hl hlk hk);have hKr:=hid (fun i=>KrI.build hg i);have hKs:=hid (fun i (h:i<(m_ g i).length) s=>(KrI.build hg i).steps hg (List.getElem_mem h) s)
 have hall:g.all≤32:=by
  have h1:g.terms≤g.rules.length:=a0d g.rules _
  have:=hg.rules
  have:=hg.nonts
  unfold Gm.all;omega
 have hgl:=hid (fun x s=>a6y hg x s);obtain ⟨na,nc,rfl⟩:=hV.nonts.shape;have hB1:=al' w (.cells #[rv,.slice na g.nonts.length nc,lv,pv,.int .i64 g.start] 27);have k1:=b_ w (.cells #[rv,.slice na g.nonts.length nc,lv,pv,.int .i64 g.start] 27);obtain ⟨W,hW⟩:∃ x,w.alloc (.cells #[rv,.slice na g.nonts.length nc,lv,pv,.int .i64 g.start] 27)=x:=⟨_,rfl⟩;rw [hW] at hB1 k1;have hk1:=hid (fun u (hu:Below W.heap.size W u)=>l_ (g_ k1 hu));have hB:=hid hB1;obtain ⟨y0,y1,y2,y3,y4⟩:=l_ k1;have hal:Hid (g.terms+g.nonts.length=g.all):=hid rfl;clear hV hb hnl hB1 k1 hg hu;obtain ⟨tm,htm⟩:∃ n,Hid (g.terms=n):=⟨_,hid rfl⟩;obtain ⟨nn,hnn⟩:∃ n,Hid (g.nonts.length=n):=⟨_,hid rfl⟩;rw [htm.out] at GT hal;rw [hnn.out] at hal hk1 hW GU GT GG y1 ⊢;obtain ⟨al,hal9⟩:∃ n,Hid (g.all=n):=⟨_,hid rfl⟩;rw [hal9.out] at hal hall;generalize g.start=st at *;go_enter Tryz.func11,Tryz.ntmps11
 go_wp2_with (first
  | (go_at_call 27;refine (GU.out _ hB.out).mono ?_;clear GU;rintro e w3 ⟨rfl,hc3⟩;have hc3:=hid hc3;clear y0 y1 y2 y3 y4;obtain ⟨y0,y1,y2,y3,y4⟩:=hk1.out _ hc3.out)
  | fail)
 have htl:tm≤32:=by have:=hal.out;omega
 have hnl:nn≤32:=by have:=hal.out;omega
 have cA:Hid (∀ d os,Calls Tryz.prog 18 #[gmA rv (.slice na nn nc) lv pv st] (grow (redrawn w3 d) os) fun e w''=>e=.returned (.int .i64 (tm:Int))∧∃ p:Regrown,w''=grow (redrawn w3 p.d) p.os):=hid (fun d os=>Calls.regrown_of (GT.out _ (a_ hB.out (a_ hc3.out (below_regrown w3 d os)))));have y0:=cell_regrown y0;have y1:=cell_regrown y1;have y2:=cell_regrown y2;have y3:=cell_regrown y3;have y4:=cell_regrown y4;refine wp_region_quiet_below (by kernel_rfl) (by kernel_rfl) ?_
 repeat (first | go_big_quiet_step (exact cA.out _ _) | quiet_step (exact cA.out _ _))
 refine wpQuiet_nil ?_;intro _ hw';obtain ⟨⟨dq,osq⟩,hw''⟩:=hw';subst hw'';have hc5:=hid (a_ hc3.out (below_regrown w3 dq osq));generalize grow (redrawn w3 dq) osq=w5 at *;clear y0 y1 y2 y3 y4 cA hW GT;obtain ⟨N,hN⟩:∃ N:Nat,Hid (N=al+1):=⟨_,hid rfl⟩;have hNz:((tm:Int)+(nn:Int)+1)=(N:Int):=by rw [hN.out,← hal.out];omega
 have hNl:N≤33:=by rw [hN.out];omega
 have hNp:0<N:=by rw [hN.out];omega
 try rw [hNz]
 clear hNz htl hnl;have hO0:=hid (OwnIt.nil0 ((w5.alloc (.cells #[.slice none 0 0,.slice none 0 0] 43)).alloc (.cells #[.int .i64 (-1),.int .i64 0] 49)) (w5.heap.size+1));have hD0:=Its.lit1 (w5.alloc (.cells #[.slice none 0 0,.slice none 0 0] 43)) (-1) 0;rw [World.size_alloc] at hD0;have hD0:=hid hD0;have hz0:Hid (w5.heap.size+1≤((w5.alloc (.cells #[.slice none 0 0,.slice none 0 0] 43)).alloc (.cells #[.int .i64 (-1),.int .i64 0] 49)).heap.size):=hid (by rw [World.size_alloc,World.size_alloc];omega)
 go_wp2_with (first
  | (at_builtin;refine a3R _ rfl _ _ rfl (w5.heap.size+1) [] [(-1,0)] _ _ rfl rfl hO0.out hD0.out (by decide) hz0.out ?_;intro v4 w4 hO4 hb4;obtain ⟨g4,c4,rfl,z0,z1,f0,vo,u6,vs,hap,hM⟩:=a8S hc5.out hO4 (by simp) hb4;have hM:=hid hM;clear hO4 hb4)
  | (at_builtin;refine a8q _ rfl _ _ _ rfl _ _ rfl rfl hap ?_;clear hap))
 clear hO0 hD0 hz0 z0 z1 f0;have hC0:Hid (a6c g (m_ g 0) 0=[([(-1,0)],[])]):=hid rfl;rw [List.nil_append,← hC0.out] at hM;clear hC0;have hK0:(m_ g 0).length≤240:=(by decide:1≤240);have hI0:0≤(m_ g 0).length:=Nat.zero_le _;go_loopw [5,7] (fun vo i7 u=>∃ (i:Nat) (vs:List (Value×Value)),i≤240∧i7=.int .i64 (i:Int)∧i≤(m_ g i).length∧(m_ g i).length≤240∧Hid (BsM W u none vo vs (a6c g (m_ g i) i))) (fun _ i7 _=>241 - (intOf i7).toNat)
 case atStart=>exact ⟨0,vs,Nat.zero_le _,rfl,hI0,hK0,hM⟩
 case round =>
  clear hM hK0 hI0;obtain ⟨i,vs,hi,rfl,hil,hKl,hM⟩:=hrel;have hol:=a0i g (m_ g i) i;by_cases hlt:i<(m_ g i).length
  · obtain ⟨gb,oc,rfl⟩:=hM.out.shape (by rw [hol];omega)
    obtain ⟨w9,hmk,hX9,hb9⟩:=a6l wr W.heap.size N hM.out.low.size (by omega);have hnb:Hid (W.heap.size≤wr.heap.size):=hid hM.out.low.size;have hM9:=hid ((hM.out.fresh (Nat.le_refl _)).keep hb9);obtain ⟨nb,hnb9⟩:∃ x,x=wr.heap.size:=⟨_,rfl⟩;rw [← hnb9] at hmk hX9 hnb hM9;clear hb9 hnb9;have hNl0:(List.replicate N (0:Int)).length=N:=List.length_replicate;obtain ⟨⟨c0,z0⟩,f0⟩:=Own.cellX hX9 hNl0 (j:=0) (by rw [hN.out];omega);obtain ⟨hX0,hg0⟩:=Own.set hX9 hNl0 0 (-1);rw [hN.out,hal9.out.symm,b4f g (m_ g i) (m_ g i)[i]] at hX0;rw [hal9.out,← hN.out] at hX0;have hM0:=hid (hM9.out.side hg0 (fun k hk=>by injection hk with hk;subst hk;exact hnb.out));have hX0:=hid hX0;have hKi:=hid (hKs.out i hlt);have hst:=hid (W_ hlt);have hdn:=hid (b3i hlt);rw [hal9.out] at hst hdn;have hle0:=hid (fun t=>(a0B g (m_ g i) (m_ g i)[i] t).length_le);have hxi:=hid (fun t (h:i<(K_ g (m_ g i) (m_ g i)[i] t).length)=>((a0B g (m_ g i) (m_ g i)[i] t).getElem hlt).symm);have hxr:=hid ((hKr.out i).right _ (List.getElem_mem hlt));have hxf:=hid ((hKr.out i).few _ (List.getElem_mem hlt));have hsl:=hid (fun t=>a5T g (m_ g i) (m_ g i)[i] t);have hfx:=hid (fun t=>b4g (g:=g) (K:=m_ g i) (x:=(m_ g i)[i]) (t:=t));rw [hal9.out] at hfx;have hM0:Hid (BsM W (w9.setCell ⟨nb,0,none⟩ (.int .i64 (-1))) (some nb) (.slice (some ⟨gb,0,none⟩) (a6c g (m_ g i) i).length oc) vs (a4K g (m_ g i) i (K_ g (m_ g i) (m_ g i)[i] 0))):=hM0;clear hM9 hM hX9 hg0
    generalize (m_ g i)[i]=x at *;rw [hol] at hM0;rw [hol];go_wp2;clear hmk z0 f0;go_loopw [5,9] (fun vo s9 u=>∃ (t:Nat) (vs:List (Value×Value)),t≤al∧s9=.int .i64 ((t:Int)+1)∧Hid (BsM W u (some nb) vo vs (a4K g (m_ g i) i (K_ g (m_ g i) x t)))∧Hid (Own u W.heap.size (.slice (some ⟨nb,0,none⟩) N N) (a8n g (m_ g i) x t))) (fun _ s9 _=>N - (intOf s9).toNat)
    case atStart=>exact ⟨0,vs,Nat.zero_le _,rfl,hM0,hX0⟩
    case round =>
     clear hM0 hX0;obtain ⟨t,vs,ht,rfl,hM,hX⟩:=hrel;have hbl:=hid hM.out.low;have hKt:=hKi;have hol:=a1G g (m_ g i) i (K_ g (m_ g i) x t);have hil:i<(K_ g (m_ g i) x t).length:=Nat.lt_of_lt_of_le hlt (hle0.out t);obtain ⟨gb,oc,rfl⟩:=hM.out.shape (by rw [hol];omega);have hMl1:(K_ g (m_ g i) x t).length≤300:=by have:=hsl.out t;omega
     by_cases hlt2:t<al
     · obtain ⟨vk,z0,hIk⟩:=hM.out.cell (i:=i) (by rw [hol];exact hil)
       rw [a0Z hil] at hIk;have hIk:Hid (Its wr vk x):=hid (by have:=hIk;rw [hxi.out t hil] at this;exact this);have GGt:=hid (fun u (hu:Below w.heap.size w u) (hI:Its u vk x)=>GG.out u vk x ((t:Int)+1) hu hxr.out (by have:=hxf.out;omega) hI);obtain ⟨KG,hKG⟩:∃ k,I_ g x ((t:Int)+1)=k:=⟨_,rfl⟩;have hKGl:KG.length≤369:=by rw [← hKG];exact hgl.out x _
       rw [hKG] at GGt;have hKG:I_ g x ((t+1:Nat):Int)=KG:=hKG;have hKGh:=hid hKG;clear hKG;obtain ⟨Ml,hMl⟩:∃ n,Hid ((K_ g (m_ g i) x t).length=n):=⟨_,hid rfl⟩;rw [hol] at hM;rw [hol];clear hol;rw [hMl.out] at hMl1 hil;have hM9:Hid (BsM W wr (some nb) (.slice (some ⟨gb,0,none⟩) Ml oc) vs (a4K g (m_ g i) i (K_ g (m_ g i) x t))):=hid (by rw [← hMl.out];exact hM.out);clear hM;rw [hMl.out];have hsz:(i:Int)<(Ml:Int):=by omega
       have ht2:(t:Int)+1<(N:Int):=by rw [hN.out];omega
       go_wp2_with fail
       refine a1m [clV (gmA rv (.slice na nn nc) lv pv st),clV (.slice (some ⟨gb,0,none⟩) Ml oc),clV (.int .i64 (i:Int)),clV (.pointer (some ⟨gb,i * 2,none⟩)),clV (.pointer (some ⟨gb,i * 2,none⟩)),clV vk,clV (.int .i64 ((t:Int)+1)),clF wr.heap.size KG,clF wr.heap.size KG] (fun _=>none) (by kernel_rfl) (by kernel_rfl) (by rfl) (by intro xs;simp only [a2m,Nat.reduceAdd,Act.put,List.setIfInBounds_toArray,List.set_cons_zero,List.set_cons_succ];rfl) ?_ ?_
       · refine h_ ?_ (h_ ?_ (h_ ?_ (h_ ?_ (h_ ?_ (h_ ?_ (h_ ?_ (h_ ?_ (h_ ?_ (a2l)))))))))
         · intro xs τ u fr hA hI hd K hK
           try dsimp only at hA
           subst hA;obtain ⟨y0,y1,y2,y3,y4⟩:=hk1.out u (a_ hbl.out hI.low);have z0:=d_ hI.low z0;have hK:=hK _ τ u hI (.inl (StepT.refl _ _ _)) (A_ _ _ _ _);go_simp
           exact hK
         · intro xs τ u fr hA hI hd K hK
           try dsimp only at hA
           subst hA;have hK:=hK _ τ u hI (.inl (StepT.refl _ _ _)) (A_ _ _ _ _);go_simp
           exact hK
         · intro xs τ u fr hA hI hd K hK
           try dsimp only at hA
           subst hA;have hK:=hK _ τ u hI (.inl (StepT.refl _ _ _)) (A_ _ _ _ _);go_simp
           exact hK
         · intro xs τ u fr hA hI hd K hK
           try dsimp only at hA
           generalize hx1:xs 1=z1 at hA;have e1:=V_ (hd 1 rfl);rw [hx1] at e1;subst e1;generalize hx2:xs 2=z2 at hA;have e2:=V_ (hd 2 rfl);rw [hx2] at e2;subst e2;subst hA;have hK:=hK _ τ u hI (.inl (StepT.refl _ _ _)) (A_ _ _ _ _);go_simp
           exact hK
         · intro xs τ u fr hA hI hd K hK
           try dsimp only at hA
           generalize hx3:xs 3=z3 at hA;have e3:=V_ (hd 3 rfl);rw [hx3] at e3;subst e3;subst hA;have hK:=hK _ τ u hI (.inl (StepT.refl _ _ _)) (A_ _ _ _ _);go_simp
           exact hK
         · intro xs τ u fr hA hI hd K hK
           try dsimp only at hA
           generalize hx4:xs 4=z4 at hA;have e4:=V_ (hd 4 rfl);rw [hx4] at e4;subst e4;subst hA;obtain ⟨y0,y1,y2,y3,y4⟩:=hk1.out u (a_ hbl.out hI.low);have z0:=d_ hI.low z0;have hK:=hK _ τ u hI (.inl (StepT.refl _ _ _)) (A_ _ _ _ _);go_simp
           exact hK
         · intro xs τ u fr hA hI hd K hK
           try dsimp only at hA
           subst hA;have hK:=hK _ τ u hI (.inl (StepT.refl _ _ _)) (A_ _ _ _ _);go_simp
           exact hK
         · intro xs τ u fr hA hI hd K hK
           try dsimp only at hA
           generalize hx0:xs 0=z0 at hA;have e0:=V_ (hd 0 rfl);rw [hx0] at e0;subst e0;generalize hx5:xs 5=z5 at hA;have e5:=V_ (hd 5 rfl);rw [hx5] at e5;subst e5;generalize hx6:xs 6=z6 at hA;have e6:=V_ (hd 6 rfl);rw [hx6] at e6;subst e6;subst hA;refine a0Q (by rfl) 28 #[gmA rv (.slice na nn nc) lv pv st,z5,.int .i64 ((t:Int)+1)] (by go_simp) (GGt.out u (a_ hB.out (a_ hbl.out hI.low)) (hIk.out.keep hI.low)) ?_;rintro e u' ⟨v',rfl,hO,hc⟩;exact ⟨_,rfl,hK _ τ u' (hI.call hc).1 (.inl (hI.call hc).2) (c2f (.fresh hI (NewI.of_low hI.low.size hO) (fun k hk=>hO.lt k hk)))⟩
         · intro xs τ u fr hA hI hd K hK
           try dsimp only at hA
           subst hA;have hK:=hK _ τ u hI (.inl (StepT.refl _ _ _)) (hd 7 rfl);go_simp
           exact hK
       · intro xs τ u fr hA hI hx
         try dsimp only at hA
         have d8:=c3S (hx 8 rfl);generalize xs 8=z8 at hA d8;clear hx;have hM3:=hid (hM9.out.keep hI.low);have hX3:=hid (j_ hX.out hI.low);have hbl3:=hid (a_ hbl.out hI.low)
         have hln:Hid (∀ y:St,y∈a4K g (m_ g i) i (K_ g (m_ g i) x t)→y.1.length≤1000):=hid (fun y hy=>by
          have h9:y.1∈(a4K g (m_ g i) i (K_ g (m_ g i) x t)).map Prod.fst:=List.mem_map.2 ⟨y,hy,rfl⟩;rw [a9O] at h9
          have:=(hKt.out t).few _ h9
          omega)
         have GFt:=GF.out u (.slice (some ⟨gb,0,none⟩) Ml oc) z8 (a4K g (m_ g i) i (K_ g (m_ g i) x t)) KG hM3.out.sts d8.1 (by rw [a1G,hMl.out];omega) hln.out (by omega);rw [a9O] at GFt;have GFt:=hid GFt;have hdB:=d8.2.2;have hd1:=d8.2.1;obtain ⟨ka,kc,rfl⟩:=d8.1.shape;have hd8:=hid d8.1;have hnlt:Hid (nb<wr.heap.size∧gb<wr.heap.size):=hid ⟨(World.ownsRow.lt hX.out nb rfl).2,(hM9.out.row.lt gb rfl).2⟩;have hdB:=hid (fun k hk=>hdB k hk);have hfl:=hid (a6A g (m_ g i) x t);rw [hal9.out,← hN.out] at hfl;have htN:t+1<N:=by rw [hN.out];omega
         have hS9:Hid (∀ w' z,Own w' W.heap.size (.slice (some ⟨nb,0,none⟩) N N) z→z.length=N→(∃ y,w'.cell? ⟨nb,t+1,none⟩=some (.int .i64 y))∧w'.frozen? ⟨nb,t+1,none⟩=false):=hid (fun w' z h1 h2=>Own.cellX h1 h2 htN);clear hM9 hX hbl hI d8 hIk GGt z0 hsz hxr;by_cases hk0:KG=[]
         · subst hk0
           rw [c0e (hKt.out t).ne] at GFt;have hnx:Hid (a2f g (K_ g (m_ g i) x (t+1)) x (t+1) = -1):=hid (b3p hKGh.out);have hst1:Hid (K_ g (m_ g i) x (t+1)=K_ g (m_ g i) x t):=hid (a3W hKGh.out);subst hA;go_wp2_with (go_at_call 29;refine GFt.out.mono ?_;clear GFt;rintro e w6 ⟨rfl,hc6⟩;have hM6:=hid (hM3.out.keep hc6);have hX6:=hid (j_ hX3.out hc6);obtain ⟨⟨c0,z0⟩,f0⟩:=hS9.out w6 _ hX6.out hfl.out)
           have hX7:=Own.set hX6.out hfl.out (t+1) (-1);have hl7:((a8n g (m_ g i) x t).set (t+1) (-1)).length=N:=by rw [List.length_set];exact hfl.out
           have hX8:=Own.set hX7.1 hl7 (t+1) (-1);have hq:∀ k,some nb=some k→W.heap.size≤k:=fun k hk=>by injection hk with hk;subst hk;exact hnb.out
           have hM8:=hid ((hM6.out.side hX7.2 hq).side hX8.2 hq)
           have hXe:((a8n g (m_ g i) x t).set (t+1) (-1)).set (t+1) (-1)=a8n g (m_ g i) x (t+1):=by
            rw [List.set_set,← hfx.out t hlt2,hnx.out]
           rw [hXe] at hX8;have hX8:=hid hX8.1;go_roundw
           case rel=>exact ⟨t+1,_,by omega,by go_num,by rw [hst1.out];exact hM8,hX8⟩
           case measure=>simp [intOf];omega
         · have hkl:0<KG.length:=List.length_pos_iff.2 hk0
           have hkz:¬ (KG.length:Int)=0:=by omega
           have hgne:I_ g x ((t+1:Nat):Int)≠[]:=by rw [hKGh.out];exact hk0
           by_cases hmem:KG∈K_ g (m_ g i) x t
           · rw [c0f hmem] at GFt
             have hst1:Hid (K_ g (m_ g i) x (t+1)=K_ g (m_ g i) x t):=hid (b2k (by rw [hKGh.out];exact hmem));have hnx:Hid (a2f g (K_ g (m_ g i) x (t+1)) x (t+1)=((K_ g (m_ g i) x t).idxOf KG:Int)):=hid (by rw [a6e hgne,hst1.out,hKGh.out]);generalize (K_ g (m_ g i) x t).idxOf KG=ix at *;generalize KG.length=kl at *;clear hgne hk0 hmem;subst hA;have hixz:¬ (ix:Int)<0:=by omega
             go_wp2_with (go_at_call 29;refine GFt.out.mono ?_;clear GFt;rintro e w6 ⟨rfl,hc6⟩;have hM6:=hid (hM3.out.keep hc6);have hX6:=hid (j_ hX3.out hc6);obtain ⟨⟨c0,z0⟩,f0⟩:=hS9.out w6 _ hX6.out hfl.out)
             have hX7:=Own.set hX6.out hfl.out (t+1) (ix:Int);have hq:∀ k,some nb=some k→W.heap.size≤k:=fun k hk=>by injection hk with hk;subst hk;exact hnb.out
             have hM8:=hid (hM6.out.side hX7.2 hq);rw [← hnx.out,hfx.out t hlt2] at hX7;have hX8:=hid hX7.1;rw [hnx.out] at hX8;go_roundw
             case rel=>exact ⟨t+1,_,by omega,by go_num,by rw [hst1.out];exact hM8,hX8⟩
             case measure=>simp [intOf];omega
           · rw [c0d hmem] at GFt
             have hst1:Hid (K_ g (m_ g i) x (t+1)=K_ g (m_ g i) x t++[KG]):=hid (by rw [← hKGh.out];exact b2l hgne (by rw [hKGh.out];exact hmem));have hnx:Hid (a2f g (K_ g (m_ g i) x (t+1)) x (t+1)=(Ml:Int)):=hid (by rw [a6e hgne,hst1.out,hKGh.out,b9Z hmem,hMl.out]);have hon:Hid (a4K g (m_ g i) i (K_ g (m_ g i) x t++[KG])=a4K g (m_ g i) i (K_ g (m_ g i) x t)++[(KG,[])]):=hid (b3h (by rw [hMl.out];omega) KG);have hol9:=hid (a1G g (m_ g i) i (K_ g (m_ g i) x t));have hdq:=hid (fun k (hk:(Value.slice ka KG.length kc).ownBlock=some k) (w6:World) (h6:u.heap.size≤w6.heap.size)=>(⟨Nat.lt_of_lt_of_le (hdB.out k hk).2 h6,by have:=(hdB.out k hk).1;have:=hnlt.out.2;omega,by have:=(hdB.out k hk).1;have:=hnlt.out.1;omega⟩:k<w6.heap.size∧k≠gb∧k≠nb));have hLl:Hid ((a4K g (m_ g i) i (K_ g (m_ g i) x t)).length≤100000):=hid (by rw [a1G,hMl.out];omega);have hnu:=hid (show nb<u.heap.size from (World.ownsRow.lt hX3.out nb rfl).2);have hd1:=hid hd1;clear hgne hk0 hmem;subst hA;generalize KG.length=kl at *
             go_wp2_with (first
              | (go_at_call 29;refine GFt.out.mono ?_;clear GFt;rintro e w6 ⟨rfl,hc6⟩;have hM6:=hid (hM3.out.keep hc6);have hX6:=hid (j_ hX3.out hc6);have hI6:=hid (hd8.out.keep hc6);have hc6s:=hid hc6.size;obtain ⟨⟨c0,z0⟩,f0⟩:=hS9.out w6 _ hX6.out hfl.out;obtain ⟨v9,u9,vs9,hap,hM9,hX9⟩:=hM6.out.pushX hX6.out hfl.out hI6.out hd1.out (fun k hk=>hdq.out k hk w6 hc6s.out) hLl.out hnb.out (t+1) (-1) (Ml:Int);have hM9:=hid hM9;have hX9:=hid hX9)
              | (at_builtin;refine a8q _ rfl _ _ _ rfl _ _ rfl rfl hap ?_;clear hap))
             rw [← hon.out,← hst1.out] at hM9;rw [← hnx.out,hfx.out t hlt2] at hX9;go_roundw
             case rel=>exact ⟨t+1,_,by omega,by go_num,hM9,hX9⟩
             case measure=>simp [intOf];omega
     · obtain rfl:t=al:=by omega
       have ht2:¬ (t:Int)+1<(N:Int):=by rw [hN.out];omega
       have hoi:i<(a4K g (m_ g i) i (K_ g (m_ g i) x t)).length:=by rw [hol];exact hil
       obtain ⟨⟨zc,z0⟩,f0⟩:=hM.out.put hoi;have hnbg:nb≠gb:=fun e=>hM.out.off gb rfl (by rw [e])
       obtain ⟨vs9,hM9⟩:=hM.out.setN (i:=i) hoi rfl (Nums.of_row hX.out) rfl (fun k hk=>by
        have hk:nb=k:=by injection hk
        subst hk;exact ⟨(World.ownsRow.lt hX.out nb rfl).2,hnbg⟩)
       have e1:(a4K g (m_ g i) i (K_ g (m_ g i) x t))[i].1=x:=by rw [a0Z hil];exact hxi.out t hil
       rw [e1] at hM9;have hdn9:=hdn.out;rw [hst.out] at hdn9;rw [hdn9] at hM9;have hM9:=hid hM9;have hlow:=hid (hM9.out.low);rw [hol] at hM9 ⊢;have hbk:=hst.out;rw [← hbk] at hM9 hil hMl1 ⊢;clear hM hX hnbg hoi hdn9 e1 hol hle0 hxi hKt hKi;obtain ⟨ml,hml⟩:∃ n,Hid ((m_ g (i+1)).length=n):=⟨_,hid rfl⟩;rw [hml.out] at hM9 hil hMl1 ⊢;have hilz:(i:Int)<(ml:Int):=by omega
       by_cases hbig:240<ml
       · have hbz:(240:Int)<(ml:Int):=by omega
         have hNF:Hid (¬ a0A g):=hid (b0t (i:=i+1) (by omega) (by rw [hml.out];exact hbig));clear hM9;go_wp2;go_ret2;exact ⟨fun h=>absurd h hNF.out,fun _=>rfl,a_ hB.out hlow.out⟩
       · have hbz:¬ (240:Int)<(ml:Int):=by omega
         clear hlow;go_wp2;go_roundw
         case rel=>exact ⟨i+1,_,by omega,by go_num,by rw [hml.out];omega,by rw [hml.out];omega,hM9⟩
         case measure=>simp [intOf];omega
  · have e1:(m_ g i).length=i:=by omega
    obtain ⟨hfin,hfit0⟩:=b8f e1 hi;have hfit:=hid hfit0;clear hfit0
    have e9:a6c g (m_ g i) i=N_ g:=by
     unfold N_;rw [← hfin,e1]
    have hS:=hM.out.sts;obtain ⟨oa,oc,e⟩:=hS.shape;rw [e9] at hS;rw [hol,e1] at e;subst e;have hS:=hid hS;have hlow:=hid hM.out.low;have hz:¬ (i:Int)<(i:Int):=by omega
    clear hM hlt hil hKl hol e1 hfin e9;go_wp2;go_ret2;exact ⟨fun _=>⟨_,rfl,hS.out⟩,fun h=>absurd hfit.out h,a_ hB.out hlow.out⟩
set_option maxRecDepth 100000 in
set_option maxHeartbeats 8000000 in
theorem a5c (va vb:Value) (A B:List St) (w:World) (hA:Sts w va A) (hB:Sts w vb B) (hAl:A.length≤100000) (hBl:B.length≤100000) (hak:∀ x:St,x∈A→x.1.length≤1000∧x.2.length≤1000) (hbk:∀ x:St,x∈B→x.1.length≤1000000∧x.2.length≤1000000) :
 Calls Tryz.prog 12 #[va,vb] w fun e w'=>e=.returned (.bool (decide (A=B)))∧Below w.heap.size w w':=by
 obtain ⟨a,ac,rfl⟩:=hA.shape;obtain ⟨b,bc,rfl⟩:=hB.shape;by_cases hlen:A.length=B.length
 · have GI:=hid (fun u vx vy x y (hx:Its u vx x) (hy:Its u vy y) (hlx:x.length≤1000) (hly:y.length≤1000000)=>a5Y vx vy x y u (by omega) (by omega) hx hy)
   have GN:=hid (fun u vx vy x y (hx:Nums u vx x) (hy:Nums u vy y) (hlx:x.length≤1000) (hly:y.length≤1000000)=>a8D vx vy x y u (by omega) (by omega) hx hy)
   have hatA:=hid (fun u (hu:Below w.heap.size w u) j (hj:j<A.length)=>by
    obtain ⟨b',o,e,-,vk,vn,h1,h2,h3,h4⟩:=(Sts.keep hA hu).at hj;exact (⟨b',o,e,vk,vn,h1,h2,h3,h4⟩:∃ b' o,a=some ⟨b',o,none⟩∧∃ vk vn,u.cell? ⟨b',o+j * 2,none⟩=some vk∧u.cell? ⟨b',o+j * 2+1,none⟩=some vn∧Its u vk A[j].1∧Nums u vn A[j].2))
   have hatB:=hid (fun u (hu:Below w.heap.size w u) j (hj:j<B.length)=>by
    obtain ⟨b',o,e,-,vk,vn,h1,h2,h3,h4⟩:=(Sts.keep hB hu).at hj;exact (⟨b',o,e,vk,vn,h1,h2,h3,h4⟩:∃ b' o,b=some ⟨b',o,none⟩∧∃ vk vn,u.cell? ⟨b',o+j * 2,none⟩=some vk∧u.cell? ⟨b',o+j * 2+1,none⟩=some vn∧Its u vk B[j].1∧Nums u vn B[j].2))
   have b0:=hid (Below.refl w.heap.size w);have hyes:Hid ((∀ j (hj:j<A.length) (hj':j<B.length),A[j]=B[j])→decide (A=B)=true):=hid (fun h=>decide_eq_true (List.ext_getElem hlen h));have hno:Hid (∀ j (hj:j<A.length) (hj':j<B.length),A[j]≠B[j]→decide (A=B)=false):=hid (fun j hj hj' h=>decide_eq_false (fun e=>h (by subst e;rfl)));have hak:=hid hak;have hbk:=hid hbk;obtain ⟨n,hn⟩:∃ n,Hid (A.length=n):=⟨_,hid rfl⟩;have hn':Hid (B.length=n):=hid (by rw [← hlen];exact hn.out);generalize decide (A=B)=R at *;rw [hn.out] at hAl ⊢;rw [hn'.out] at hBl ⊢;clear hlen hA hB;go_enter Tryz.func12,Tryz.ntmps12
   go_wp2;go_loopw [5] (fun i wr=>∃ k:Nat,k≤n∧i=.int .i64 (k:Int)∧Hid (∀ j,j<k→∀ (hj:j<A.length) (hj':j<B.length),A[j]=B[j])∧Hid (Below w.heap.size w wr)) (fun i _=>n - (intOf i).toNat)
   case atStart=>exact ⟨0,Nat.zero_le _,rfl,hid (fun j hj=>absurd hj (Nat.not_lt_zero _)),b0⟩
   case round =>
    clear b0;obtain ⟨k,hk,rfl,hG,hbl⟩:=hrel;by_cases hlt:k<n
    · have hltz:(k:Int)<(n:Int):=by omega
      have hkA:k<A.length:=by rw [hn.out];exact hlt
      have hkB:k<B.length:=by rw [hn'.out];exact hlt
      obtain ⟨b1,o1,e,vk1,vn1,x0,x1,hI1,hN1⟩:=hatA.out wr hbl.out k hkA;subst e;obtain ⟨b2,o2,e,vk2,vn2,z0,z1,hI2,hN2⟩:=hatB.out wr hbl.out k hkB;subst e;have hlA:=hak.out _ (List.getElem_mem hkA);have hlB:=hbk.out _ (List.getElem_mem hkB);have cI:Hid (∀ d os,Calls Tryz.prog 16 #[vk1,vk2] (grow (redrawn wr d) os) fun e w''=>e=.returned (.bool (decide (A[k].1=B[k].1)))∧∃ p:Regrown,w''=grow (redrawn wr p.d) p.os):=hid (fun d os=>Calls.regrown_of (GI.out _ vk1 vk2 _ _ (hI1.keep (below_regrown wr d os)) (hI2.keep (below_regrown wr d os)) hlA.1 hlB.1));have cN:Hid (∀ d os,Calls Tryz.prog 21 #[vn1,vn2] (grow (redrawn wr d) os) fun e w''=>e=.returned (.bool (decide (A[k].2=B[k].2)))∧∃ p:Regrown,w''=grow (redrawn wr p.d) p.os):=hid (fun d os=>Calls.regrown_of (GN.out _ vn1 vn2 _ _ (hN1.keep (below_regrown wr d os)) (hN2.keep (below_regrown wr d os)) hlA.2 hlB.2));have x0:=cell_regrown x0;have x1:=cell_regrown x1;have z0:=cell_regrown z0;have z1:=cell_regrown z1;have hdif:=hid (fun h=>hno.out k hkA hkB h)
      have hsam:Hid (A[k]=B[k]→∀ j,j<k+1→∀ (hj:j<A.length) (hj':j<B.length),A[j]=B[j]):=hid (fun h j h1 hj hj'=>by
       rcases Nat.lt_or_ge j k with h2 | h2
       · exact hG.out j h2 hj hj'
       · obtain rfl:j=k:=by omega
         exact h)
      clear hI1 hI2 hN1 hN2 hG hlA hlB;by_cases hd1:A[k].1=B[k].1
      · rw [decide_eq_true hd1] at cI
        by_cases hd2:A[k].2=B[k].2
        · rw [decide_eq_true hd2] at cN
          have hG9:=hid (hsam.out (Prod.ext hd1 hd2));clear hd1 hd2 hdif hsam;go_wp2_with fail
          refine wp_region_quiet_below (by kernel_rfl) (by kernel_rfl) ?_
          repeat (first | go_big_quiet_step (first | exact cI.out _ _ | exact cN.out _ _) | quiet_step (first | exact cI.out _ _ | exact cN.out _ _))
          refine wpQuiet_nil ?_;intro _ hw';obtain ⟨⟨dq,osq⟩,hw''⟩:=hw';subst hw'';have hb6:=hid (a_ hbl.out (below_regrown wr dq osq));generalize grow (redrawn wr dq) osq=w6 at *;clear x0 x1 z0 z1 cI cN;go_wp2;go_roundw
          case rel=>exact ⟨k+1,by omega,by go_num,hG9,hb6⟩
          case measure=>simp [intOf];omega
        · rw [decide_eq_false hd2] at cN
          have hR:=hdif.out (fun e=>hd2 (by rw [e]));subst hR;clear hd1 hd2 hdif hsam;go_wp2_with fail
          refine wp_region_quiet_below (by kernel_rfl) (by kernel_rfl) ?_
          repeat (first | go_big_quiet_step (first | exact cI.out _ _ | exact cN.out _ _) | quiet_step (first | exact cI.out _ _ | exact cN.out _ _))
          refine wpQuiet_nil ?_;intro _ hw';obtain ⟨⟨dq,osq⟩,hw''⟩:=hw';subst hw'';have hb6:=hid (a_ hbl.out (below_regrown wr dq osq));generalize grow (redrawn wr dq) osq=w6 at *;clear x0 x1 z0 z1 cI cN;go_wp2;go_ret;exact ⟨rfl,hb6.out⟩
      · rw [decide_eq_false hd1] at cI
        have hR:=hdif.out (fun e=>hd1 (by rw [e]));subst hR;clear hd1 hdif hsam;go_wp2_with fail
        refine wp_region_quiet_below (by kernel_rfl) (by kernel_rfl) ?_
        repeat (first | go_big_quiet_step (first | exact cI.out _ _ | exact cN.out _ _) | quiet_step (first | exact cI.out _ _ | exact cN.out _ _))
        refine wpQuiet_nil ?_;intro _ hw';obtain ⟨⟨dq,osq⟩,hw''⟩:=hw';subst hw'';have hb6:=hid (a_ hbl.out (below_regrown wr dq osq));generalize grow (redrawn wr dq) osq=w6 at *;clear x0 x1 z0 z1 cI cN;go_wp2;go_ret;exact ⟨rfl,hb6.out⟩
    · have hltz:¬ (k:Int)<(n:Int):=by omega
      obtain rfl:k=n:=by omega
      have hR:=hyes.out (fun j hj hj'=>hG.out j (by rw [← hn.out];exact hj) hj hj');subst hR;clear hG;go_wp2;go_ret;exact ⟨rfl,hbl.out⟩
 · have hd:decide (A=B)=false:=decide_eq_false (fun e=>hlen (by rw [e]))
   rw [hd];have hz:¬ (A.length:Int)=(B.length:Int):=by omega
   clear hA hB hak hbk hlen hd;generalize A.length=al at *;generalize B.length=bl at *;go_enter Tryz.func12,Tryz.ntmps12
   go_wp2;go_ret;exact ⟨rfl,Below.refl _ _⟩
set_option maxRecDepth 20000 in
set_option maxHeartbeats 4000000 in
theorem a7n (g:Gm) (rv nv lv pv:Value) (w:World) (hV:GmV w rv nv lv pv g) (hb:BndG g) (hnl:∀ t∈g.allN,t.length≤1000000) (hu:¬ UsG g) :
 Calls Tryz.prog 11 #[gmA rv nv lv pv g.start] w fun e w'=>e=.returned (.tuple #[.slice none 0 0,.int .i64 10])∧Below w.heap.size w w':=by
 have GU:=hid (fun u (hu:Below w.heap.size w u)=>a7m g _ _ _ _ u (hV.keep hu) hb hnl);rw [a7c hu] at GU;have hB1:=al' w (.cells #[rv,nv,lv,pv,.int .i64 g.start] 27);have k1:=b_ w (.cells #[rv,nv,lv,pv,.int .i64 g.start] 27);obtain ⟨W,hW⟩:∃ x,w.alloc (.cells #[rv,nv,lv,pv,.int .i64 g.start] 27)=x:=⟨_,rfl⟩;rw [hW] at hB1 k1;have hB:=hid hB1;obtain ⟨y0,y1,y2,y3,y4⟩:=l_ k1;clear hV hb hnl hB1 k1 hu;generalize g.start=st at *;go_enter Tryz.func11,Tryz.ntmps11
 go_wp2_with (go_at_call 27;refine (GU.out _ hB.out).mono ?_;clear GU;rintro e w3 ⟨rfl,hc3⟩;have hc3:=hid hc3)
 go_ret2;exact ⟨rfl,a_ hB.out hc3.out⟩
def c3m (g:Gm) (w:World) (e:Ending) (w':World):Prop:=
 (UsG g→a0A g→∃ v,e=.returned (.tuple #[v,.int .i64 0])∧Sts w' v (N_ g))∧(UsG g→¬ a0A g→e=.returned (.tuple #[.slice none 0 0,.int .i64 3]))∧(¬ UsG g→e=.returned (.tuple #[.slice none 0 0,.int .i64 10]))∧Below w.heap.size w w'
set_option maxRecDepth 20000 in
theorem a7o (g:Gm) (rv nv lv pv:Value) (w:World) (hV:GmV w rv nv lv pv g) (hb:BndG g) (hnl:∀ t∈g.allN,t.length≤1000000) :
 Calls Tryz.prog 11 #[gmA rv nv lv pv g.start] w (c3m g w):=by
 by_cases hu:UsG g
 · exact (b1f g rv nv lv pv w hV hb hnl hu).mono fun e w' h=>⟨fun _=>h.1,fun _=>h.2.1,fun hn=>absurd hu hn,h.2.2⟩
 · exact (a7n g rv nv lv pv w hV hb hnl hu).mono fun e w' h=>⟨fun h1=>absurd h1 hu,fun h1=>absurd h1 hu,fun _=>h.1,h.2⟩
theorem a1C {g:Gm} (h:a0A g):(N_ g).length≤240:=by
 unfold N_;rw [a0i];exact h
theorem a0W {g:Gm} (hu:UsG g):∀ x:St,x∈N_ g→x.1.length≤369∧x.2.length≤33:=fun x hx=>by
 have hall:g.all≤32:=by
  have h1:g.terms≤g.rules.length:=a0d g.rules _
  have:=hu.snd.rules
  have:=hu.snd.nonts
  unfold Gm.all;omega
 have hK:=(KrI.fin hu.snd).few;unfold N_ at hx;generalize a7S g=K at *;obtain ⟨j,hj,rfl⟩:=List.getElem_of_mem hx;have hj':j<K.length:=by rw [a0i] at hj;exact hj
 have e:(a6c g K K.length)[j]=(K[j],if j<K.length then a0J g K K[j] else []):=a0Z (K:=K) hj';rw [e,if_pos hj'];exact ⟨hK _ (List.getElem_mem hj'),by rw [a3K];omega⟩
noncomputable def a1s (g:Gm) (L:List St):Bool:=open Classical in decide (UsG g∧a0A g∧L=N_ g)
open Classical in
theorem R_ {g:Gm} {L:List St}:a1s g L=true↔UsG g∧a0A g∧L=N_ g:=by
 unfold a1s;rw [decide_eq_true_eq]
theorem a5X {g:Gm} {L:List St} (h:¬ (UsG g∧a0A g)):a1s g L=false:=Bool.eq_false_iff.2 fun e=>h ⟨(R_.1 e).1,(R_.1 e).2.1⟩
open Classical in
theorem a9C {g:Gm} {L:List St} (h1:UsG g) (h2:a0A g):a1s g L=decide (L=N_ g):=by
 rw [Bool.eq_iff_iff,R_,decide_eq_true_eq];exact ⟨fun h=>h.2.2,fun h=>⟨h1,h2,h⟩⟩
end Go.Proofs.YtjgedijclkoemaaGreatDoor
namespace Go.Proofs.YtjgedijclkoemaaGreatDoor
open Go.RowKit Go.Maps
def rsK (g:Gm):Nat→Nat
 | 0=>0
 | k+1=>rsK g k+(g.prods.getD k ⟨0,[],0⟩).right.length
theorem b5I {g:Gm} {k:Nat} (h:k<g.prods.length):rsK g (k+1)=rsK g k+g.prods[k].right.length:=by
 show rsK g k+(g.prods.getD k ⟨0,[],0⟩).right.length=_
 rw [List.getD_eq_getElem?_getD,List.getElem?_eq_getElem h,Option.getD_some]
structure FitsH (g:Gm):Prop where
 rules:g.rules.length≤10
 nonts:g.nonts.length≤10
 levels:g.levels.length≤20
 prods:g.prods.length≤24
 rule:∀ j (h:j<g.rules.length),g.rules[j].re.length≤30∧g.rules[j].name.length≤40
 nont:∀ j (h:j<g.nonts.length),g.nonts[j].length≤40
 prod:∀ j (h:j<g.prods.length),g.prods[j].right.length≤8
 sum:rsK g g.prods.length≤60
def HvyA (g:Gm) (w:World) (e:Ending) (w':World):Prop:=∃ b,e=.returned (.bool b)∧(b=false↔FitsH g)∧Below w.heap.size w w'
theorem HvyA.yes {g:Gm} {w w':World} (h:Below w.heap.size w w') (hf:¬ FitsH g):HvyA g w (.returned (.bool true)) w':=⟨true,rfl,⟨fun h=>(by cases h),fun h=>absurd h hf⟩,h⟩
theorem HvyA.no {g:Gm} {w w':World} (h:Below w.heap.size w w') (hf:FitsH g):HvyA g w (.returned (.bool false)) w':=⟨false,rfl,⟨fun _=>hf,fun _=>rfl⟩,h⟩
set_option maxRecDepth 20000 in
set_option maxHeartbeats 2000000 in
theorem b8b (rv nv lv pv:Value) (g:Gm) (w:World) (h:GmV w rv nv lv pv g) :
 Calls Tryz.prog 9 #[gmA rv nv lv pv g.start] w (HvyA g w):=by
 obtain ⟨a,c,rfl⟩:=h.rules.shape;obtain ⟨na,nc,rfl⟩:=h.nonts.shape;obtain ⟨la,lc,rfl⟩:=h.levels.shape;obtain ⟨pa,pc,rfl⟩:=h.prods.shape;have hV:=hid h;clear h;obtain ⟨st,hst⟩:∃ x,g.start=x:=⟨_,rfl⟩;rw [hst];obtain ⟨n,hn⟩:∃ n,Hid (g.rules.length=n):=⟨_,hid rfl⟩;obtain ⟨nn,hnn⟩:∃ n,Hid (g.nonts.length=n):=⟨_,hid rfl⟩;obtain ⟨nl,hnl⟩:∃ n,Hid (g.levels.length=n):=⟨_,hid rfl⟩;obtain ⟨np,hnp⟩:∃ n,Hid (g.prods.length=n):=⟨_,hid rfl⟩;rw [hn.out,hnn.out,hnl.out,hnp.out] at hV ⊢;obtain ⟨W1,hW1⟩:∃ x,w.alloc (.cells #[.slice a n c,.slice na nn nc,.slice la nl lc,.slice pa np pc,.int .i64 st] 27)=x:=⟨_,rfl⟩;have hB1:Hid (Below w.heap.size w W1):=by rw [← hW1];exact hid (al' w _)
 have hk1:Hid (W1.heap[w.heap.size]?=some (.cells #[.slice a n c,.slice na nn nc,.slice la nl lc,.slice pa np pc,.int .i64 st] 27)):=by rw [← hW1];exact hid (b_ w _)
 have y0:W1.cell? ⟨w.heap.size,0,none⟩=some (.slice a n c):=c_ hk1.out rfl;have y1:W1.cell? ⟨w.heap.size,1,none⟩=some (.slice na nn nc):=c_ hk1.out rfl;have y2:W1.cell? ⟨w.heap.size,2,none⟩=some (.slice la nl lc):=c_ hk1.out rfl;have y3:W1.cell? ⟨w.heap.size,3,none⟩=some (.slice pa np pc):=c_ hk1.out rfl;have hV1:=hid (hV.out.keep hB1.out);clear hV hk1 hst;by_cases hbig:n≤10∧nn≤10∧nl≤20∧np≤24
 · obtain ⟨b1,b2,b3,b4⟩:=hbig
   have c1:¬ (10:Int)<(n:Int):=by omega
   have c2:¬ (10:Int)<(nn:Int):=by omega
   have c3:¬ (20:Int)<(nl:Int):=by omega
   have c4:¬ (24:Int)<(np:Int):=by omega
   go_enter Tryz.func9,Tryz.ntmps9
   go_wp2;clear hW1 c1 c2 c3 c4;go_loopw [32] (fun i wr=>∃ k:Nat,k≤n∧i=.int .i64 (k:Int)∧Hid (∀ j (h:j<g.rules.length),j<k→g.rules[j].re.length≤30∧g.rules[j].name.length≤40)∧wr=W1) (fun i _=>n - (intOf i).toNat)
   case atStart=>exact ⟨0,Nat.zero_le _,rfl,hid (fun j _ hj=>absurd hj (Nat.not_lt_zero _)),rfl⟩
   case round =>
    obtain ⟨k,hk,rfl,hS,hwr⟩:=hrel;subst wr;by_cases hlt:k<n
    · have hltz:(k:Int)<(n:Int):=by omega
      have hkl:k<g.rules.length:=by rw [hn.out];exact hlt
      obtain ⟨b,o,he,-,v,x0,x1,-,hC⟩:=hV1.out.rules.at hkl;subst he;obtain ⟨ra,rc,rfl,-⟩:=hC;have hsz:=o_ g.rules[k].name
      have hS1:Hid (g.rules[k].re.length≤30→g.rules[k].name.length≤40→∀ j (h:j<g.rules.length),j<k+1→g.rules[j].re.length≤30∧g.rules[j].name.length≤40):=hid (fun p1 p2 j h hj=>by
       rcases Nat.lt_or_ge j k with h8 | h8
       · exact hS.out j h h8
       · obtain rfl:j=k:=by omega
         exact ⟨p1,p2⟩)
      have hF1:Hid (30<g.rules[k].re.length→¬ FitsH g):=hid (fun h9 h8=>absurd (h8.rule k hkl).1 (by omega));have hF2:Hid (40<g.rules[k].name.length→¬ FitsH g):=hid (fun h9 h8=>absurd (h8.rule k hkl).2 (by omega));generalize g.rules[k].re.length=rl at *;generalize g.rules[k].name=T at *;by_cases h1:30<rl
      · have h1z:(30:Int)<(rl:Int):=by omega
        clear hS1;go_wp2;go_ret;exact HvyA.yes hB1.out (hF1.out h1)
      · have h1z:¬ (30:Int)<(rl:Int):=by omega
        by_cases h2:40<T.length
        · have h2z:(40:Int)<(T.length:Int):=by omega
          clear hS1;go_wp2;go_ret;exact HvyA.yes hB1.out (hF2.out h2)
        · have h2z:¬ (40:Int)<(T.length:Int):=by omega
          have hS2:=hid (hS1.out (by omega) (by omega));clear hS1;go_wp2;go_roundw
          case rel=>exact ⟨k+1,by omega,by go_num,hS2,by first | rfl | trivial⟩
          case measure=>simp [intOf];omega
    · have hltz:¬ (k:Int)<(n:Int):=by omega
      obtain rfl:k=n:=by omega
      go_wp2;have hS9:=hid (fun j (h:j<g.rules.length)=>hS.out j h (by rw [← hn.out];exact h));clear hS hlt hltz hk;go_loopw [57] (fun i wr=>∃ q:Nat,q≤nn∧i=.int .i64 (q:Int)∧Hid (∀ j (h:j<g.nonts.length),j<q→g.nonts[j].length≤40)∧wr=W1) (fun i _=>nn - (intOf i).toNat)
      case atStart=>exact ⟨0,Nat.zero_le _,rfl,hid (fun j _ hj=>absurd hj (Nat.not_lt_zero _)),by first | rfl | trivial⟩
      case round =>
       obtain ⟨q,hk,rfl,hS,hwr⟩:=hrel;subst wr;by_cases hlt:q<nn
       · have hltz:(q:Int)<(nn:Int):=by omega
         have hkl:q<g.nonts.length:=by rw [hnn.out];exact hlt
         obtain ⟨b,o,he,-,x0⟩:=hV1.out.nonts.at hkl;subst he;rw [Nat.mul_one] at x0;unfold a4F at x0;have hsz:=o_ g.nonts[q]
         have hS1:Hid (g.nonts[q].length≤40→∀ j (h:j<g.nonts.length),j<q+1→g.nonts[j].length≤40):=hid (fun p1 j h hj=>by
          rcases Nat.lt_or_ge j q with h8 | h8
          · exact hS.out j h h8
          · obtain rfl:j=q:=by omega
            exact p1)
         have hF1:Hid (40<g.nonts[q].length→¬ FitsH g):=hid (fun h9 h8=>absurd (h8.nont q hkl) (by omega));generalize g.nonts[q]=T at *;by_cases h2:40<T.length
         · have h2z:(40:Int)<(T.length:Int):=by omega
           clear hS1;go_wp2;go_ret;exact HvyA.yes hB1.out (hF1.out h2)
         · have h2z:¬ (40:Int)<(T.length:Int):=by omega
           have hS2:=hid (hS1.out (by omega));clear hS1;go_wp2;go_roundw
           case rel=>exact ⟨q+1,by omega,by go_num,hS2,by first | rfl | trivial⟩
           case measure=>simp [intOf];omega
       · have hltz:¬ (q:Int)<(nn:Int):=by omega
         obtain rfl:q=nn:=by omega
         go_wp2;have hN9:=hid (fun j (h:j<g.nonts.length)=>hS.out j h (by rw [← hnn.out];exact h));clear hS hlt hltz hk;go_loopw [5,71] (fun m i wr=>∃ r:Nat,r≤np∧m=.int .i64 (rsK g r:Int)∧i=.int .i64 (r:Int)∧Hid (∀ j (h:j<g.prods.length),j<r→g.prods[j].right.length≤8)∧rsK g r≤8 * r∧wr=W1) (fun _ i _=>np - (intOf i).toNat)
         case atStart=>exact ⟨0,Nat.zero_le _,rfl,rfl,hid (fun j _ hj=>absurd hj (Nat.not_lt_zero _)),Nat.le_refl _,by first | rfl | trivial⟩
         case round =>
          obtain ⟨r,hk,rfl,rfl,hS,hrs,hwr⟩:=hrel;subst wr;by_cases hlt:r<np
          · have hltz:(r:Int)<(np:Int):=by omega
            have hkl:r<g.prods.length:=by rw [hnp.out];exact hlt
            obtain ⟨b,o,he,-,v,-,x1,-,hC⟩:=hV1.out.prods.at hkl;subst he;obtain ⟨ra,rc,rfl,-⟩:=hC
            have hS1:Hid (g.prods[r].right.length≤8→∀ j (h:j<g.prods.length),j<r+1→g.prods[j].right.length≤8):=hid (fun p1 j h hj=>by
             rcases Nat.lt_or_ge j r with h8 | h8
             · exact hS.out j h h8
             · obtain rfl:j=r:=by omega
               exact p1)
            have hF1:Hid (8<g.prods[r].right.length→¬ FitsH g):=hid (fun h9 h8=>absurd (h8.prod r hkl) (by omega));have hrn:=hid (b5I hkl);generalize g.prods[r].right.length=rl at *;by_cases h2:8<rl
            · have h2z:(8:Int)<(rl:Int):=by omega
              clear hS1;generalize rsK g r=rs at *;go_wp2;go_ret;exact HvyA.yes hB1.out (hF1.out h2)
            · have h2z:¬ (8:Int)<(rl:Int):=by omega
              have hS2:=hid (hS1.out (by omega));clear hS1;generalize rsK g r=rs at *;go_wp2;go_roundw
              case rel=>exact ⟨r+1,by omega,by rw [hrn.out];go_num,by go_num,hS2,by rw [hrn.out];omega,by first | rfl | trivial⟩
              case measure=>simp [intOf];omega
          · have hltz:¬ (r:Int)<(np:Int):=by omega
            obtain rfl:r=np:=by omega
            by_cases hsm:rsK g r≤60
            · have hfit:Hid (FitsH g):=hid ⟨by rw [hn.out];exact b1,by rw [hnn.out];exact b2,by rw [hnl.out];exact b3,by rw [hnp.out];exact b4,hS9.out,hN9.out,fun j h=>hS.out j h (by rw [← hnp.out];exact h),by rw [hnp.out];exact hsm⟩
              have hz:¬ (60:Int)<(rsK g r:Int):=by omega
              generalize rsK g r=rs at *;go_wp2;go_ret;exact HvyA.no hB1.out hfit.out
            · have hNF:Hid (¬ FitsH g):=hid (fun h9=>hsm (by have:=h9.sum;rw [hnp.out] at this;exact this))
              have hz:(60:Int)<(rsK g r:Int):=by omega
              generalize rsK g r=rs at *;go_wp2;go_ret;exact HvyA.yes hB1.out hNF.out
 · have hb':(24:Int)<(np:Int)∨(¬ (24:Int)<(np:Int)∧(10:Int)<(n:Int))∨(¬ (24:Int)<(np:Int)∧¬ (10:Int)<(n:Int)∧(10:Int)<(nn:Int))∨(¬ (24:Int)<(np:Int)∧¬ (10:Int)<(n:Int)∧¬ (10:Int)<(nn:Int)∧(20:Int)<(nl:Int)):=by omega
   have hNF:Hid (¬ FitsH g):=hid (fun h9=>hbig ⟨by rw [← hn.out];exact h9.rules,by rw [← hnn.out];exact h9.nonts,by rw [← hnl.out];exact h9.levels,by rw [← hnp.out];exact h9.prods⟩);clear hbig;rcases hb' with c1 | ⟨c1,c2⟩ | ⟨c1,c2,c3⟩ | ⟨c1,c2,c3,c4⟩
   · go_enter Tryz.func9,Tryz.ntmps9
     go_wp2;go_ret;exact HvyA.yes hB1.out hNF.out
   · go_enter Tryz.func9,Tryz.ntmps9
     go_wp2;go_ret;exact HvyA.yes hB1.out hNF.out
   · go_enter Tryz.func9,Tryz.ntmps9
     go_wp2;go_ret;exact HvyA.yes hB1.out hNF.out
   · go_enter Tryz.func9,Tryz.ntmps9
     go_wp2;go_ret;exact HvyA.yes hB1.out hNF.out
set_option maxRecDepth 20000 in
theorem a1L (rv nv lv pv:Value) (g:Gm) (w:World) (h:GmV w rv nv lv pv g) (hf:¬ FitsH g):Calls Tryz.prog 9 #[gmA rv nv lv pv g.start] w fun e w'=>e=.returned (.bool true)∧Below w.heap.size w w':=
 (b8b rv nv lv pv g w h).mono (by
  rintro e w' ⟨b,rfl,hb,hw⟩;cases b with
  | true=>exact ⟨rfl,hw⟩
  | false=>exact absurd (hb.1 rfl) hf)
set_option maxRecDepth 20000 in
theorem a0N (rv nv lv pv:Value) (g:Gm) (w:World) (h:GmV w rv nv lv pv g) (hf:FitsH g):Calls Tryz.prog 9 #[gmA rv nv lv pv g.start] w fun e w'=>e=.returned (.bool false)∧Below w.heap.size w w':=
 (b8b rv nv lv pv g w h).mono (by
  rintro e w' ⟨b,rfl,hb,hw⟩;rw [hb.2 hf];exact ⟨rfl,hw⟩)
theorem FitsH.fits {g:Gm} (h:FitsH g):Fits12 g:=⟨by have:=h.rules;omega,by have:=h.nonts;omega,by have:=h.levels;omega,by have:=h.prods;omega,fun j hj=>by have:=h.rule j hj;omega,fun j hj=>by have:=h.nont j hj;omega,fun j hj=>by have:=h.prod j hj;omega⟩
end Go.Proofs.YtjgedijclkoemaaGreatDoor
namespace Go.Proofs.YtjgedijclkoemaaGreatDoor
open Go.RowKit Go.Maps Go.Sort
open Classical in
noncomputable def lB (g:Gm):List St:=if UsG g∧a0A g then N_ g else []
open Classical in
noncomputable def eB (g:Gm):Int:=if UsG g then (if a0A g then 0 else 3) else 10
open Classical in
theorem a1S {g:Gm} (h:UsG g∧a0A g):lB g=N_ g:=if_pos h
open Classical in
theorem a7J {g:Gm} (h:¬ (UsG g∧a0A g)):lB g=[]:=if_neg h
open Classical in
theorem a2y {g:Gm} (h:UsG g∧a0A g):eB g=0:=by unfold eB;rw [if_pos h.1,if_pos h.2]
open Classical in
theorem a8Y {g:Gm} (h:UsG g) (h2:¬ a0A g):eB g=3:=by unfold eB;rw [if_pos h,if_neg h2]
open Classical in
theorem b4q {g:Gm} (h:¬ UsG g):eB g=10:=by unfold eB;rw [if_neg h]
theorem a8X {g:Gm}:eB g=0↔UsG g∧a0A g:=by
 by_cases h:UsG g
 · by_cases h2:a0A g
   · exact ⟨fun _=>⟨h,h2⟩,a2y⟩
   · rw [a8Y h h2];exact ⟨fun e=>absurd e (by decide),fun e=>absurd e.2 h2⟩
 · rw [b4q h];exact ⟨fun e=>absurd e (by decide),fun e=>absurd e.1 h⟩
theorem a5j (g:Gm):(lB g).length≤240:=by
 by_cases h:UsG g∧a0A g
 · rw [a1S h];exact a1C h.2
 · rw [a7J h];exact Nat.zero_le _
theorem a5k (g:Gm):∀ x:St,x∈lB g→x.1.length≤369∧x.2.length≤33:=fun x hx=>by
 by_cases h:UsG g∧a0A g
 · rw [a1S h] at hx;exact a0W h.1 x hx
 · rw [a7J h] at hx;cases hx
def c0T (B:Nat) (w:World) (v:Value) (L:List St):Prop:=∀ u,Below w.heap.size w u→Sts u v L∧∀ (i:Nat) (hi:i<L.length) (s:Nat) (hs:s<L[i].2.length),∃ b o sb so cap,v=.slice (some ⟨sb,so,none⟩) L.length cap∧(∃ nc,u.cell? ⟨sb,so+i * 2+1,none⟩=some (.slice (some ⟨b,o,none⟩) L[i].2.length nc))∧B≤b∧u.frozen? ⟨b,o+s,none⟩=false∧∀ z,Sts (u.setCell ⟨b,o+s,none⟩ (.int .i64 z)) v (L.set i (L[i].1,L[i].2.set s z))
structure AutOK (w0:World):Prop where
 build:∀ (g:Gm) (rv nv lv pv:Value) (u:World),Below w0.heap.size w0 u→FitsH g→GmV u rv nv lv pv g→Calls Tryz.prog 10 #[gmA rv nv lv pv g.start] u fun e w'=>∃ v,e=.returned (.tuple #[v,.int .i64 (eB g)])∧c0T u.heap.size w' v (lB g)∧Below u.heap.size u w'
structure WkOK17 (w0:World):Prop where
 wakes:∀ u:World,Below w0.heap.size w0 u→Calls Tryz.prog 8 #[] u fun e w'=>e=.returned (.bool true)∧Below u.heap.size u w'
end Go.Proofs.YtjgedijclkoemaaGreatDoor
namespace Go.Proofs.YtjgedijclkoemaaGreatDoor
theorem a9u {g:Gm} {K:List Kr} {x:Kr}:∀ (s:Nat) (i:Nat) (hi:i<(K_ g K x s).length),K.length≤i→∃ t,0<t∧t≤s∧(K_ g K x s)[i]=I_ g x (t:Int)∧I_ g x (t:Int)≠[]
 | 0,i,hi,hk=>absurd hi (Nat.not_lt.2 hk)
 | s+1,i,hi,hk=>by
  have hp:=a5R g (K_ g K x s) x (s+1);by_cases h1:i<(K_ g K x s).length
  · obtain ⟨t,h2,h3,h4,h5⟩:=a9u s i h1 hk
    exact ⟨t,h2,by omega,by rw [← h4];exact (hp.getElem h1).symm,h5⟩
  · have hi':i<(a2e g (K_ g K x s) x (s+1)).length:=hi
    rcases a5S (g:=g) (K:=K_ g K x s) (x:=x) (s:=s+1) with e | e
    · exfalso;rw [e] at hi';exact h1 hi'
    · refine ⟨s+1,by omega,Nat.le_refl _,?_,e.2.1⟩
      have e2:K_ g K x (s+1)=K_ g K x s++[I_ g x ((s+1:Nat):Int)]:=e.1;have hi2:i<(K_ g K x s++[I_ g x ((s+1:Nat):Int)]).length:=by rw [← e2];exact hi
      have hie:i=(K_ g K x s).length:=by rw [List.length_append,List.length_singleton] at hi2;omega
      have:(K_ g K x (s+1))[i]=(K_ g K x s++[I_ g x ((s+1:Nat):Int)])[i]:=by simp only [e2]
      refine this.trans ?_;rw [List.getElem_append_right (by omega)];simp [hie]
theorem b0H {g:Gm}:∀ (n i:Nat) (hi:i<(m_ g n).length),0<i→∃ (j:Nat) (hj:j<(m_ g n).length) (t:Nat),j<i∧0<t∧t≤g.all∧(m_ g n)[i]=I_ g (m_ g n)[j] (t:Int)∧I_ g (m_ g n)[j] (t:Int)≠[]
 | 0,i,hi,h0=>by
  have:i<1:=hi
  omega
 | n+1,i,hi,h0=>by
  have hp:=a1A g n;have hl:=hp.length_le;by_cases h1:i<(m_ g n).length
  · obtain ⟨j,hj,t,h2,h3,h4,h5,h6⟩:=b0H n i h1 h0
    have e1:(m_ g (n+1))[i]=(m_ g n)[i]:=(hp.getElem h1).symm;have e2:(m_ g (n+1))[j]'(by omega)=(m_ g n)[j]:=(hp.getElem hj).symm;exact ⟨j,by omega,t,h2,h3,h4,by rw [e1,e2];exact h5,by rw [e2];exact h6⟩
  · by_cases hn:n<(m_ g n).length
    · have e:=W_ hn
      have hi':i<(K_ g (m_ g n) (m_ g n)[n] g.all).length:=by rw [← e];exact hi
      obtain ⟨t,h2,h3,h4,h5⟩:=a9u g.all i hi' (by omega);have e2:(m_ g (n+1))[n]'(by omega)=(m_ g n)[n]:=(hp.getElem hn).symm;refine ⟨n,by omega,t,by omega,h2,h3,?_,by rw [e2];exact h5⟩;rw [e2,← h4];simp only [e]
    · exfalso
      rw [a0m (Nat.le_of_not_lt hn) (n+1) (Nat.le_succ n)] at hi;exact h1 hi
theorem b7T {K M:List Kr} (h:K <+: M) {i:Nat} (hi:i<K.length) (hj:i<M.length):K[i]=M[i]:=h.getElem hi
structure FinI (g:Gm) (K:List Kr):Prop where
 kr:KrI g K
 pos:0<K.length
 first:K[0]=[(-1,0)]
 got:∀ (i:Nat) (hi:i<K.length) (s:Nat),0<s→s≤g.all→I_ g K[i] (s:Int)≠[]→I_ g K[i] (s:Int)∈K
 new:∀ (i:Nat) (hi:i<K.length),0<i→∃ (j:Nat) (hj:j<K.length) (t:Nat),j<i∧0<t∧t≤g.all∧K[i]=I_ g K[j] (t:Int)∧I_ g K[j] (t:Int)≠[]
theorem FinI.of {g:Gm} (hg:SndG g) {n:Nat} (h:(m_ g n).length≤n):FinI g (m_ g n):=by
 have hp0:=X_ g (Nat.zero_le n);have h1:0<(m_ g 0).length:=Nat.zero_lt_one;have h2:0<(m_ g n).length:=Nat.lt_of_lt_of_le h1 hp0.length_le;refine ⟨KrI.build hg n,h2,?_,fun i hi s h0 hs hne=>?_,b0H n⟩
 · have e:=b7T hp0 h1 h2
   have e2:(m_ g 0)[0]=[(-1,0)]:=rfl;exact e.symm.trans e2
 · have hii:i<(m_ g i).length:=by
    apply Classical.byContradiction
    intro hn
    have:=a0m (Nat.le_of_not_lt hn) n (by omega)
    rw [this] at hi;exact hn hi
   have hq:=X_ g (show i≤n by omega);have hp:=X_ g (show i+1≤n by omega);have ex:=b7T hq hii hi;rw [← ex] at hne ⊢;rw [W_ hii] at hp;exact hp.subset (a3C h0 hs hne)
theorem FinI.fin {g:Gm} (hg:SndG g) (h:a0A g):FinI g (a7S g):=by
 unfold a0A at h;unfold a7S at h ⊢;exact FinI.of hg (Nat.le_trans h (by decide))
end Go.Proofs.YtjgedijclkoemaaGreatDoor
