/- FirstProds' walk. -/
import Derived.Test.YtfhokapfkclckaaGreatJA
namespace Go.Proofs.YtfhokapfkclckaaGreat
open Go.RowKit Go.Maps Go.Sort
def fstU (g:Gm) (T:List (List Int)):List Int:=T.foldl (fun L t => unionL L (firL g t)) []
def fstN (g:Gm) (T:List (List Int)):Bool:=T.any (goneB (nulL g))
theorem fstU_snoc (g:Gm) (T:List (List Int)) (t:List Int):fstU g (T ++ [t]) = unionL (fstU g T) (firL g t):=by
 unfold fstU
 rw [List.foldl_append]
 rfl
theorem fstN_snoc (g:Gm) (T:List (List Int)) (t:List Int):fstN g (T ++ [t]) = (fstN g T || goneB (nulL g) t):=by
 unfold fstN
 rw [List.any_append]
 simp
theorem foldU_mem (g:Gm) (x:Int):∀ (T:List (List Int)) (A:List Int),x ∈ T.foldl (fun L t => unionL L (firL g t)) A ↔ x ∈ A ∨ ∃ t ∈ T,x ∈ firL g t
 | [],A => ⟨fun h => .inl h,fun h => h.elim id (fun ⟨_,h,_⟩ => absurd h List.not_mem_nil)⟩
 | t :: T,A => by
  rw [List.foldl_cons,foldU_mem g x T,unionL_mem]
  constructor
  · rintro ((h | h) | ⟨s,h1,h2⟩)
    · exact .inl h
    · exact .inr ⟨t,List.mem_cons_self,h⟩
    · exact .inr ⟨s,List.mem_cons_of_mem _ h1,h2⟩
  · rintro (h | ⟨s,h1,h2⟩)
    · exact .inl (.inl h)
    · rcases List.mem_cons.1 h1 with rfl | h1
      · exact .inl (.inr h2)
      · exact .inr ⟨s,h1,h2⟩
theorem foldU_up (g:Gm):∀ (T:List (List Int)) (A:List Int),Up A → Up (T.foldl (fun L t => unionL L (firL g t)) A)
 | [],_,h => h
 | t :: T,A,_ => foldU_up g T _ (by unfold unionL;exact ofL_up _)
theorem foldU_len (g:Gm):∀ (T:List (List Int)) (A:List Int),(∀ t ∈ T,(firL g t).length ≤ 16) → (T.foldl (fun L t => unionL L (firL g t)) A).length ≤ A.length + 16 * T.length
 | [],_,_ => Nat.le_refl _
 | t :: T,A,h => by
  have h1:=foldU_len g T (unionL A (firL g t)) (fun s hs => h s (List.mem_cons_of_mem _ hs))
  have h2:=unionL_len A (firL g t)
  have h3:=h t List.mem_cons_self
  rw [List.foldl_cons,List.length_cons]
  omega
theorem rgtS_mem {g:Gm} {s:Int} {t:List Int}:t ∈ rgtS g s ↔ ∃ p ∈ g.prods,p.left = s ∧ p.right = t:=by
 unfold rgtS
 rw [List.mem_map]
 constructor
 · rintro ⟨p,hp,rfl⟩
   rw [List.mem_filter] at hp
   exact ⟨p,hp.1,by simpa using hp.2,rfl⟩
 · rintro ⟨p,hp,h1,rfl⟩
   exact ⟨p,List.mem_filter.2 ⟨hp,by simpa using h1⟩,rfl⟩
theorem fstU_one {g:Gm} (hg:SndG g) {s:Int} (hs:(g.terms:Int) < s):fstU g (rgtS g s) = firL g [s]:=by
 refine up_uniq (foldU_up g _ _ List.Pairwise.nil) (by unfold firL;exact ofL_up _) (fun x => ?_)
 unfold fstU
 rw [foldU_mem,firL_mem hg]
 constructor
 · rintro (h | ⟨t,ht,hx⟩)
   · exact absurd h List.not_mem_nil
   · obtain ⟨p,hp,h1,rfl⟩:=rgtS_mem.1 ht
     rw [firL_mem hg] at hx
     exact ⟨(Beg.one (by omega)).2 ⟨p,hp,h1,hx.1⟩,hx.2⟩
 · rintro ⟨h1,h2⟩
   obtain ⟨p,hp,h3,h4⟩:=(Beg.one (by omega)).1 h1
   exact .inr ⟨p.right,rgtS_mem.2 ⟨p,hp,h3,rfl⟩,(firL_mem hg _ _).2 ⟨h4,h2⟩⟩
theorem fstN_one {g:Gm} (hg:SndG g) (s:Int):fstN g (rgtS g s) = goneB (nulL g) [s]:=by
 rw [Bool.eq_iff_iff,goneB_iff]
 unfold fstN
 rw [List.any_eq_true]
 constructor
 · rintro ⟨t,ht,h1⟩ n hn
   obtain ⟨p,hp,h2,rfl⟩:=rgtS_mem.1 ht
   obtain rfl:n = s:=by simpa using hn
   rw [goneB_iff] at h1
   exact (nulL_mem hg n).2 (Van.iff.2 ⟨p,hp,h2,fun m hm => (nulL_mem hg m).1 (h1 m hm)⟩)
 · intro h
   obtain ⟨p,hp,h2,h3⟩:=Van.iff.1 ((nulL_mem hg s).1 (h s List.mem_cons_self))
   exact ⟨p.right,rgtS_mem.2 ⟨p,hp,h2,rfl⟩,goneB_iff.2 (fun n hn => (nulL_mem hg n).2 (h3 n hn))⟩
set_option maxRecDepth 20000 in
set_option maxHeartbeats 16000000 in
theorem firstProdsWalk (HF:FstOK) (HW:WkOK15) (rv nv lv pv:Value) (g:Gm) (w:World) (h:GmV w rv nv lv pv g):Calls Tryz.prog 7 #[gmA rv nv lv pv g.start] w fun e w' => e = .returned (.bool true) ∧ Below w.heap.size w w':=by
 obtain ⟨na,nc,rfl⟩:=h.nonts.shape
 obtain ⟨pa,pc,rfl⟩:=h.prods.shape
 have hKp:=hid (fun u (hu:Below w.heap.size w u) => h.keep hu)
 have hB1:=al' w (.cells #[rv,.slice na g.nonts.length nc,lv,.slice pa g.prods.length pc,.int .i64 g.start] 27)
 have k1:=heap_new w (.cells #[rv,.slice na g.nonts.length nc,lv,.slice pa g.prods.length pc,.int .i64 g.start] 27)
 obtain ⟨W,hW⟩:∃ x,w.alloc (.cells #[rv,.slice na g.nonts.length nc,lv,.slice pa g.prods.length pc,.int .i64 g.start] 27) = x:=⟨_,rfl⟩
 rw [hW] at hB1 k1
 have hk1:=hid (fun u (hu:Below W.heap.size W u) => cells5m (hs_keep k1 hu))
 have hB:=hid hB1
 have GW:=hid (HW.wakes W)
 by_cases hf:Fits12 g
 · have GL:=hid (fun u (hu:Below w.heap.size w u) => longNo _ _ _ _ g u (hKp.out u hu) hf)
   have GS:=hid (fun u (hu:Below w.heap.size w u) => refSound g _ _ _ _ u (hKp.out u hu) hf.bnd hf.names)
   by_cases hg:SndG g
   · rw [soundB_yes hg] at GS
     have GT:=hid (fun u (hu:Below w.heap.size w u) => refTermsC _ _ _ _ g u (hKp.out u hu) (by have:=hg.rules;omega))
     have GO:=hid (fun (t:List Int) u v (hs:SymP g t) (hl:t.length ≤ 1000) (hu:Below W.heap.size W u) (hv:Nums u v t) => HF.ofYes g _ _ _ _ v t u hf hg hs hl (hKp.out u (bl_step hB1 hu)) hv)
     have hS1:Hid (∀ (k:Nat) (z:Int),k < g.nonts.length → z = (g.terms:Int) + 1 + (k:Int) → SymP g [z]):=hid (fun k z hk hz n hn => by
      have e:n = z:=by simpa using hn
      have e2:g.all = g.terms + g.nonts.length:=rfl
      omega)
     have hSR:Hid (∀ q (hq:q < g.prods.length),SymP g g.prods[q].right ∧ g.prods[q].right.length ≤ 30):=hid (fun q hq => ⟨fun n hn => right_sym hg (List.getElem_mem hq) n hn,hf.prod q hq⟩)
     have hFl:Hid (∀ t,SymP g t → (firL g t).length ≤ 16):=hid (fun t ht => firL_len hg ht)
     have b2:=hg.nonts
     have b4:=hg.prods
     have htm:g.terms ≤ 16:=Nat.le_trans (terms_le15 g) hg.rules
     have hKq:Hid (∀ k (hk:k < g.prods.length),∃ b o q1 q3,pa = some ⟨b,o,none⟩ ∧ ∀ u,Below w.heap.size w u → u.cell? ⟨b,o + k * 3,none⟩ = some (.int .i64 g.prods[k].left) ∧ u.cell? ⟨b,o + k * 3 + 1,none⟩ = some (.slice q1 g.prods[k].right.length q3) ∧ u.cell? ⟨b,o + k * 3 + 2,none⟩ = some (.int .i64 g.prods[k].prec) ∧ Nums u (.slice q1 g.prods[k].right.length q3) g.prods[k].right):=hid (fun k hk => by
      obtain ⟨b,o,e,-,hx⟩:=h.prods.at hk
      obtain ⟨v,x0,x1,x2,hN⟩:=hx
      have hN2:=hN
      obtain ⟨q1,q3,rfl,_⟩:=hN2
      exact ⟨b,o,q1,q3,e,fun u hu => ⟨keep_cell hu x0,keep_cell hu x1,keep_cell hu x2,hN.keep hu⟩⟩)
     obtain ⟨UU,hUU⟩:∃ f:Int → Nat → List Int,∀ z q,f z q = fstU g (rgtK g z q):=⟨_,fun _ _ => rfl⟩
     obtain ⟨NN,hNN⟩:∃ f:Int → Nat → Bool,∀ z q,f z q = fstN g (rgtK g z q):=⟨_,fun _ _ => rfl⟩
     have hU0:Hid (∀ z,UU z 0 = [] ∧ NN z 0 = false):=hid (fun z => ⟨by rw [hUU];rfl,by rw [hNN];rfl⟩)
     have hUy:Hid (∀ z q (hq:q < g.prods.length),g.prods[q].left = z → UU z (q + 1) = unionL (UU z q) (firL g g.prods[q].right) ∧ NN z (q + 1) = (NN z q || goneB (nulL g) g.prods[q].right)):=hid (fun z q hq e => ⟨by rw [hUU,hUU,rgtK_yes hq e,fstU_snoc],by rw [hNN,hNN,rgtK_yes hq e,fstN_snoc]⟩)
     have hUx:Hid (∀ z q (hq:q < g.prods.length),g.prods[q].left ≠ z → UU z (q + 1) = UU z q ∧ NN z (q + 1) = NN z q):=hid (fun z q hq e => ⟨by rw [hUU,hUU,rgtK_no hq e],by rw [hNN,hNN,rgtK_no hq e]⟩)
     have hUf:Hid (∀ z,(g.terms:Int) < z → UU z g.prods.length = firL g [z] ∧ NN z g.prods.length = goneB (nulL g) [z]):=hid (fun z hz => ⟨by rw [hUU,rgtK_all,fstU_one hg hz],by rw [hNN,rgtK_all,fstN_one hg]⟩)
     have hUl:Hid (∀ z q,q ≤ g.prods.length → (UU z q).length ≤ 640):=hid (fun z q hq => by
      rw [hUU]
      have h1:=foldU_len g (rgtK g z q) [] (fun t ht => by
       unfold rgtK at ht
       obtain ⟨p,hp,rfl⟩:=List.mem_map.1 ht
       exact firL_len hg (right_sym hg (List.mem_of_mem_take (List.mem_filter.1 hp).1)))
      have h2:=rgtK_len g z q
      have e:([]:List Int).length = 0:=rfl
      unfold fstU
      omega)
     clear hUU hNN h hB1 k1 hf hg HF HW hKp
     generalize nulL g = NL at *
     generalize firL g = FI at *
     obtain ⟨nn,hnn⟩:∃ n,Hid (g.nonts.length = n):=⟨_,hid rfl⟩
     obtain ⟨pn,hpn⟩:∃ n,Hid (g.prods.length = n):=⟨_,hid rfl⟩
     rw [hnn.out] at b2 hk1 hW GL GS GT GO hS1 ⊢
     rw [hpn.out] at b4 hk1 hW GL GS GT GO hUf hUl ⊢
     generalize g.start = st at *
     generalize g.terms = tm at *
     go_enter Tryz.func7,Tryz.ntmps7
     go_wp2_with (first
      | (go_at_call 8;refine GW.out.mono ?_;clear GW;rintro e w1 ⟨rfl,hc1⟩;have h1:=hid hc1;obtain ⟨x0,x1,x2,x3,x4⟩:=hk1.out w1 h1.out;clear hc1)
      | (go_at_call 9;refine (GL.out _ (bl_step hB.out h1.out)).mono ?_;clear GL;rintro e w2 ⟨rfl,hc2⟩;have h2:=hid (bl_step h1.out hc2);clear hc2 x0 x1 x2 x3 x4;obtain ⟨x0,x1,x2,x3,x4⟩:=hk1.out w2 h2.out)
      | (go_at_call 11;refine (GS.out _ (bl_step hB.out h2.out)).mono ?_;clear GS;rintro e w3 ⟨rfl,hc3⟩;have h3:=hid (bl_step h2.out hc3);clear hc3 x0 x1 x2 x3 x4;obtain ⟨x0,x1,x2,x3,x4⟩:=hk1.out w3 h3.out)
      | (go_at_call 21;refine (GT.out _ (bl_step hB.out h3.out)).mono ?_;clear GT;rintro e w4 ⟨rfl,hc4⟩;have h4:=hid (bl_step h3.out hc4);clear hc4 x0 x1 x2 x3 x4))
     clear hW
     go_loopw [4] (fun i wr => ∃ (k:Nat) (z:Int),k ≤ nn ∧ i = .int .i64 z ∧ Hid (z = (tm:Int) + 1 + (k:Int)) ∧ Hid (Below W.heap.size W wr)) (fun i _ => ((tm:Int) + 1 + (nn:Int) - intOf i).toNat)
     case atStart => exact ⟨0,_,Nat.zero_le _,rfl,hid (by omega),h4⟩
     case round =>
      obtain ⟨k,z,hk,rfl,hz,hbl⟩:=hrel
      have hz1:0 < z:=by have:=hz.out;omega
      have hz2:z ≤ 40:=by have:=hz.out;omega
      obtain ⟨y0,y1,y2,y3,y4⟩:=hk1.out wr hbl.out
      by_cases hlt:k < nn
      · have hltz:z ≤ (tm:Int) + (nn:Int):=by have:=hz.out;omega
        have hsz:=hid (hS1.out k z hlt hz.out)
        have GA:=hid (fun u v hu hv => GO.out [z] u v hsz.out (by simp) hu hv)
        have l1:=hFl.out [z] hsz.out
        obtain ⟨e1,e2⟩:=hUf.out z (by have:=hz.out;omega)
        rw [← e1] at l1 GA
        rw [← e2] at GA
        have e1:=hid e1
        have e2:=hid e2
        have hal:=al' wr (.cells #[.int .i64 z] 3)
        have hDa:=hid (Nums.of_row (Own.lit1 wr z))
        have hba:=hid (bl_step hbl.out hal)
        clear hal
        obtain ⟨L1,hL1⟩:∃ n,Hid (UU z pn = n):=⟨_,hid rfl⟩
        obtain ⟨NB,hNB⟩:∃ n,Hid (NN z pn = n):=⟨_,hid rfl⟩
        rw [hL1.out] at l1 GA
        rw [hNB.out] at GA
        have hNz:=hU0.out z
        have hz0:=hid hNz.2
        have hz1:=hid hNz.1
        clear hNz
        go_wp2_with (go_at_call 14;refine (GA.out _ _ hba.out hDa.out).mono ?_;clear GA;rintro e w5 ⟨v5,rfl,hN5,hc5⟩;obtain ⟨a5,c5,e5⟩:=shapeN15 hN5;subst e5;have hN5:=hid hN5;have h5:=hid (bl_step hba.out hc5);clear hc5 y0 y1 y2 y3 y4;obtain ⟨y0,y1,y2,y3,y4⟩:=hk1.out w5 h5.out)
        clear hDa hba hbl hltz y0 y1 y2 y3 y4
        go_loopw [7,8,45] (fun va bi j wr => ∃ q:Nat,q ≤ pn ∧ j = .int .i64 (q:Int) ∧ bi = .bool (NN z q) ∧ Hid (Nums wr va (UU z q)) ∧ Hid (Below w5.heap.size w5 wr)) (fun _ _ j _ => pn - (intOf j).toNat)
        case atStart => exact ⟨0,Nat.zero_le _,rfl,by rw [hz0.out],hid (by rw [hz1.out];exact Nums.nil _),hid (Below.refl _ _)⟩
        case round =>
         clear hz0 hz1
         obtain ⟨q,hq,rfl,rfl,hS,hbm⟩:=hrel
         obtain ⟨va,vc,rfl⟩:=shapeN15 hS.out
         have hbw:=hid (bl_step h5.out hbm.out)
         obtain ⟨y0,y1,y2,y3,y4⟩:=hk1.out wr hbw.out
         by_cases hlq:q < pn
         · have hlqz:(q:Int) < (pn:Int):=by omega
           have hql:q < g.prods.length:=by rw [hpn.out];exact hlq
           obtain ⟨b,o,q1,q3,e,hx⟩:=hKq.out q hql
           subst e
           obtain ⟨x0,x1,x2,hN⟩:=hx wr (bl_step hB.out hbw.out)
           obtain ⟨hs1,hs2⟩:=hSR.out q hql
           have hal9:=al' wr (.cells #[.int .i64 g.prods[q].left,.slice q1 g.prods[q].right.length q3,.int .i64 g.prods[q].prec] 43)
           have e0:=heap_new wr (.cells #[.int .i64 g.prods[q].left,.slice q1 g.prods[q].right.length q3,.int .i64 g.prods[q].prec] 43)
           obtain ⟨wa,hwa⟩:∃ x,wr.alloc (.cells #[.int .i64 g.prods[q].left,.slice q1 g.prods[q].right.length q3,.int .i64 g.prods[q].prec] 43) = x:=⟨_,rfl⟩
           rw [hwa] at hal9 e0
           have f0:=blk_cell (o:=0) e0 rfl
           have f1:=blk_cell (o:=1) e0 rfl
           have hba:=hid (bl_step hbw.out hal9)
           have hbz:=hid (bl_step hbm.out hal9)
           obtain ⟨z0,z1,z2,z3,z4⟩:=hk1.out wa hba.out
           have hNa:=hN.keep hal9
           have hSa:=hid (hS.out.keep hal9)
           have lU:=hUl.out z q hq
           have lF:=hFl.out _ hs1
           have GB:=hid (GO.out g.prods[q].right wa _ hs1 (by omega) hba.out hNa)
           have hyq:=hid (hUy.out z q hql)
           have hxq:=hid (hUx.out z q hql)
           clear hx hal9 e0 hN hNa hS hs1 hs2
           by_cases e:g.prods[q].left = z
           · replace hyq:=hyq.out e
             obtain ⟨hy1,hy2⟩:=hyq
             have hy1:=hid hy1
             clear hxq
             rw [e] at x0 hwa f0
             clear e
             generalize FI g.prods[q].right = FL at *
             generalize goneB NL g.prods[q].right = GN at *
             generalize g.prods[q].right.length = rl at *
             generalize g.prods[q].prec = pr at *
             have GU:=hid (fun u v (h1:Nums u (.slice va (UU z q).length vc) (UU z q)) (h2:Nums u v FL) => refUnion _ v _ _ u (by omega) (by omega) h1 h2)
             generalize (UU z q).length = ul at *
             generalize NN z q = NQ at *
             have hwu:=hid hwa
             cases NQ <;> cases GN
             all_goals
              go_wp2_with (first
               | (go_at_call 14;refine GB.out.mono ?_;clear GB;rintro e w6 ⟨v6,rfl,hN6,hc6⟩;obtain ⟨a6,c6,e6⟩:=shapeN15 hN6;subst e6;have hN6:=hid hN6;have h6:=hid (bl_step hbz.out hc6);have hS6:=hid (hSa.out.keep hc6);clear hc6)
               | (go_at_call 20;refine (GU.out _ _ hS6.out hN6.out).mono ?_;clear GU;rintro e w7 ⟨v7,rfl,hO7,hc7⟩;have hN7:=hid (Nums.of_row hO7);obtain ⟨a7,c7,e7⟩:=shapeN15 hN7.out;subst e7;have h7:=hid (bl_step h6.out hc7);clear hO7 hc7))
              go_roundw
              case rel => exact ⟨q + 1,by omega,by go_num,by rw [hy2];rfl,hid (by rw [hy1.out];exact hN7.out),h7⟩
              case measure => simp [intOf];omega
           · have ez:(g.prods[q].left == z) = false:=by rw [beq_eq_false_iff_ne];exact e
             replace hxq:=hxq.out e
             obtain ⟨hy1,hy2⟩:=hxq
             have hy1:=hid hy1
             clear hyq GB e
             generalize g.prods[q].right.length = rl at *
             generalize g.prods[q].prec = pr at *
             generalize g.prods[q].left = lq at *
             generalize (UU z q).length = ul at *
             go_wp2
             go_roundw
             case rel => exact ⟨q + 1,by omega,by go_num,by rw [hy2],hid (by rw [hy1.out];exact hSa.out),hbz⟩
             case measure => simp [intOf];omega
         · have hlqz:¬ (q:Int) < (pn:Int):=by omega
           obtain rfl:q = pn:=by omega
           have hS9:=hS.out
           rw [hL1.out] at hS9
           have GX:=hid (refSame _ _ _ _ wr (by omega) (by omega) (hN5.out.keep hbm.out) hS9)
           rw [decide_eq_true rfl] at GX
           rw [hL1.out]
           rw [hNB.out]
           clear hS hS9 y0 y1 y2 y3 y4
           generalize L1.length = ll at *
           cases NB
           all_goals
            go_wp2_with (go_at_call 12;refine GX.out.mono ?_;clear GX;rintro e w6 ⟨rfl,hc6⟩;have h6:=hid (bl_step hbw.out hc6);clear hc6)
            go_roundw
            case rel => exact ⟨k + 1,z + 1,by omega,by go_num,hid (by have:=hz.out;omega),h6⟩
            case measure => simp [intOf];have:=hz.out;omega
      · have hltz:¬ z ≤ (tm:Int) + (nn:Int):=by have:=hz.out;omega
        go_wp2
        go_ret
        exact ⟨rfl,bl_step hB.out hbl.out⟩
   · rw [soundB_no hg] at GS
     clear h hB1 k1 hf hg HF HW hKp
     generalize g.start = st at *
     generalize g.nonts.length = nn at *
     generalize g.prods.length = pn at *
     go_enter Tryz.func7,Tryz.ntmps7
     go_wp2_with (first
      | (go_at_call 8;refine GW.out.mono ?_;clear GW;rintro e w1 ⟨rfl,hc1⟩;have h1:=hid hc1;obtain ⟨x0,x1,x2,x3,x4⟩:=hk1.out w1 h1.out;clear hc1)
      | (go_at_call 9;refine (GL.out _ (bl_step hB.out h1.out)).mono ?_;clear GL;rintro e w2 ⟨rfl,hc2⟩;have h2:=hid (bl_step h1.out hc2);clear hc2 x0 x1 x2 x3 x4;obtain ⟨x0,x1,x2,x3,x4⟩:=hk1.out w2 h2.out)
      | (go_at_call 11;refine (GS.out _ (bl_step hB.out h2.out)).mono ?_;clear GS;rintro e w3 ⟨rfl,hc3⟩;have h3:=hid (bl_step h2.out hc3);clear hc3 x0 x1 x2 x3 x4))
     go_ret
     exact ⟨rfl,bl_step hB.out h3.out⟩
 · have GL:=hid (fun u (hu:Below w.heap.size w u) => longYes _ _ _ _ g u (hKp.out u hu) hf)
   clear h hB1 k1 hf HF HW hKp
   generalize g.start = st at *
   generalize g.nonts.length = nn at *
   generalize g.prods.length = pn at *
   go_enter Tryz.func7,Tryz.ntmps7
   go_wp2_with (first
    | (go_at_call 8;refine GW.out.mono ?_;clear GW;rintro e w1 ⟨rfl,hc1⟩;have h1:=hid hc1;obtain ⟨x0,x1,x2,x3,x4⟩:=hk1.out w1 h1.out;clear hc1)
    | (go_at_call 9;refine (GL.out _ (bl_step hB.out h1.out)).mono ?_;clear GL;rintro e w2 ⟨rfl,hc2⟩;have h2:=hid (bl_step h1.out hc2);clear hc2))
   go_ret
   exact ⟨rfl,bl_step hB.out h2.out⟩
end Go.Proofs.YtfhokapfkclckaaGreat
