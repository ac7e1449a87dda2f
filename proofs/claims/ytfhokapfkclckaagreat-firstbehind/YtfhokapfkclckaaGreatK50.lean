/- FirstOf's walk. FirstJoins' walk. The reference of layer 15: Behind. FirstBehind's walk. -/
import Derived.Test.YtfhokapfkclckaaGreatK32
import Derived.Test.YtfhokapfkclckaaGreatK23
import Derived.Test.YtfhokapfkclckaaGreatK28
import Derived.Test.YtfhokapfkclckaaGreatK49
import Derived.Test.YtfhokapfkclckaaGreatK35
import Derived.Test.YtfhokapfkclckaaGreatK36
import Derived.SizedLaws
namespace Go.Proofs.YtfhokapfkclckaaGreat
open Go.RowKit Go.Maps Go.Sort
theorem collapseWV {R F:World → Value → Prop} {G:Prop} (h:(∀ V v,F V v → R V v) → G) (pf:∀ V v,F V v → R V v):G:=h pf
end Go.Proofs.YtfhokapfkclckaaGreat
namespace Go.Proofs.YtfhokapfkclckaaGreat
open Go.RowKit Go.Maps Go.Sort Go.ChangeShapes Go.WideShapes
end Go.Proofs.YtfhokapfkclckaaGreat
namespace Go.Proofs.YtfhokapfkclckaaGreat
open Go.RowKit Go.Maps Go.Sort
set_option maxRecDepth 20000 in
set_option maxHeartbeats 16000000 in
theorem refBehind15 (g:Gm) (hg:SndG g) (hb:BndG g) (rv nv lv pv:Value) (w:World) (hV:GmV w rv nv lv pv g) :
 Calls Tryz.prog 19 #[gmA rv nv lv pv g.start] w fun e w' => ∃ hb,e = .returned (.slice (some ⟨hb,0,none⟩) (g.all + 1) (g.all + 1)) ∧ RowsL w' hb (behL g) ∧ Below w.heap.size w w':=by
 have hal:=all_le32 hg
 obtain ⟨na,nc,rfl⟩:=hV.nonts.shape
 obtain ⟨pa,pc,rfl⟩:=hV.prods.shape
 have hB1:=al' w (.cells #[rv,.slice na g.nonts.length nc,lv,.slice pa g.prods.length pc,.int .i64 g.start] 27)
 have k1:=heap_new w (.cells #[rv,.slice na g.nonts.length nc,lv,.slice pa g.prods.length pc,.int .i64 g.start] 27)
 obtain ⟨W,hW⟩:∃ x,w.alloc (.cells #[rv,.slice na g.nonts.length nc,lv,.slice pa g.prods.length pc,.int .i64 g.start] 27) = x:=⟨_,rfl⟩
 rw [hW] at hB1 k1
 have hk1:=hid (fun u (hu:Below W.heap.size W u) => cells5m (hs_keep k1 hu))
 have hB:=hid hB1
 have GT:=hid (fun u (hu:Below W.heap.size W u) => refTermsC rv _ lv _ g u (hV.keep (bl_step hB1 hu)) (by have:=hg.rules;omega))
 have GV:=hid (fun u (hu:Below W.heap.size W u) => refVanish g rv _ lv _ u (hV.keep (bl_step hB1 hu)) hb hg)
 have GR:=hid (fun u (hu:Below W.heap.size W u) => refReached g rv _ lv _ u (hV.keep (bl_step hB1 hu)) hb hg)
 have hKq:Hid (∀ k (hk:k < g.prods.length),∃ b o q1 q3,pa = some ⟨b,o,none⟩ ∧ ∀ u,Below W.heap.size W u → u.cell? ⟨b,o + k * 3,none⟩ = some (.int .i64 g.prods[k].left) ∧ u.cell? ⟨b,o + k * 3 + 1,none⟩ = some (.slice q1 g.prods[k].right.length q3) ∧ u.cell? ⟨b,o + k * 3 + 2,none⟩ = some (.int .i64 g.prods[k].prec) ∧ Nums u (.slice q1 g.prods[k].right.length q3) g.prods[k].right):=hid (fun k hk => by
  obtain ⟨b,o,e,-,hx⟩:=hV.prods.at hk
  obtain ⟨v,x0,x1,x2,hN⟩:=hx
  have hN2:=hN
  obtain ⟨q1,q3,rfl,_⟩:=hN2
  exact ⟨b,o,q1,q3,e,fun u hu => ⟨keep_cell (bl_step hB1 hu) x0,keep_cell (bl_step hB1 hu) x1,keep_cell (bl_step hB1 hu) x2,hN.keep (bl_step hB1 hu)⟩⟩)
 have GO:=hid (fun (t:List Int) u v (hs:∀ n ∈ t,1 ≤ n ∧ n ≤ (g.all:Int)) (hl:t.length ≤ 1000000) (hu:Below W.heap.size W u) (hv:Nums u v t) => refOf15 g rv _ lv _ v t u (hV.keep (bl_step hB1 hu)) hb hg hl hv hs)
 have hpd:Hid (∀ k (hk:k < g.prods.length),g.prods[k].right.length ≤ 8 ∧ ∀ n ∈ g.prods[k].right,1 ≤ n ∧ n ≤ (g.all:Int)):=hid (fun k hk => by
  have h2:=right_sym hg (List.getElem_mem hk)
  have:=hg.prod _ (List.getElem_mem hk)
  unfold pdB at this
  simp only [Bool.and_eq_true,decide_eq_true_eq,List.all_eq_true] at this
  exact ⟨this.1.1.1.2,h2⟩)
 have hfl:Hid (∀ t:List Int,(∀ n ∈ t,1 ≤ n ∧ n ≤ (g.all:Int)) → (firL g t).length ≤ 16):=hid (fun t ht => firL_len hg ht)
 have e1:ofL (vanL g) = nulL g:=rfl
 have e2:ofL (rcN g (g.nonts.length + 1)) = livL g:=rfl
 rw [e1] at GV
 rw [e2] at GR
 have hnl:=nulL_len hg
 have hll:Hid ((livL g).length ≤ 1000000):=hid (by unfold livL;exact Nat.le_trans (ofL_len _) (Nat.le_trans (rcN_len hg _) (Nat.le_trans hg.nonts (by decide))))
 have hn0:Hid (g.nonts.length = 0 → behL g = List.replicate (g.all + 1) []):=hid (behL_none hg)
 have hset:Hid (∀ s:Nat,1 ≤ s → s < g.all + 1 → (behI g s).set s (ofL (bhF g (s:Int)).all) = behI g (s + 1)):=hid (fun s h1 h2 => behI_set g h1 h2)
 have hI1:Hid (behI g 1 = List.replicate (g.all + 1) []):=hid (behI_one g)
 have hIl:Hid (∀ s,s ≤ g.all + 1 → (behI g s).length = g.all + 1):=hid (fun s hs => behI_len g hs)
 have hIa:Hid (behI g (g.all + 1) = behL g):=hid (behI_all g)
 have K1s:Hid (∀ s0,BK1 g s0 (g.all + 1) 0 ⟨[s0],[]⟩):=hid (fun s0 => BK1.start (bhI0 g s0))
 have K1l:Hid (∀ s0 f i s,1 ≤ s0 → s0 ≤ (g.all:Int) → BK1 g s0 f i s → s.ends.length ≤ 32 ∧ s.all.length ≤ 700000):=hid (fun s0 f i s h1 h2 h => h.len hg h1 h2)
 have K1g:Hid (∀ s0 f i s,1 ≤ s0 → s0 ≤ (g.all:Int) → BK1 g s0 f i s → ∀ hi:i < s.ends.length,∃ f',f = f' + 1 ∧ BK2 g s0 f' i s.ends[i] 0 ⟨s.ends,s.all ++ if s.ends[i] = g.start then [0] else []⟩):=hid (fun s0 f i s h1 h2 h hi => h.go hg h1 h2 hi)
 have K2l:Hid (∀ s0 f i n k s,1 ≤ s0 → s0 ≤ (g.all:Int) → BK2 g s0 f i n k s → s.ends.length ≤ 32 ∧ s.all.length ≤ 700000):=hid (fun s0 f i n k s h1 h2 h => h.len hg h1 h2)
 have K3l:Hid (∀ s0 f i n k j s,1 ≤ s0 → s0 ≤ (g.all:Int) → BK3 g s0 f i n k j s → s.ends.length ≤ 32 ∧ s.all.length ≤ 700000):=hid (fun s0 f i n k j s h1 h2 h => h.len hg h1 h2)
 have hb4:=hg.prods
 have htm:g.terms ≤ 16:=Nat.le_trans (terms_le15 g) hg.rules
 have hnn16:=hg.nonts
 clear hV hB1 k1 hb e1 e2 hg
 obtain ⟨NL,hNL⟩:∃ n,Hid (nulL g = n):=⟨_,hid rfl⟩
 obtain ⟨LV,hLV⟩:∃ n,Hid (livL g = n):=⟨_,hid rfl⟩
 rw [hNL.out] at GV GO hnl
 rw [hLV.out] at GR hll
 obtain ⟨tm,htm9⟩:∃ n,Hid (g.terms = n):=⟨_,hid rfl⟩
 obtain ⟨nn,hnn⟩:∃ n,Hid (g.nonts.length = n):=⟨_,hid rfl⟩
 obtain ⟨pn,hpn⟩:∃ n,Hid (g.prods.length = n):=⟨_,hid rfl⟩
 obtain ⟨N,hN9⟩:∃ n,Hid (g.all + 1 = n):=⟨_,hid rfl⟩
 have hNe:Hid (N = tm + nn + 1):=hid (by rw [← hN9.out,← htm9.out,← hnn.out];rfl)
 have hN33:N ≤ 33:=by have:=hN9.out;omega
 have hsN:Hid (∀ s:Nat,s < N → (s:Int) ≤ (g.all:Int)):=hid (fun s hs => by have:=hN9.out;omega)
 rw [hN9.out] at hn0 hset hI1 hIl hIa K1s ⊢
 rw [htm9.out] at htm GT
 rw [hnn.out] at hW hk1 hn0 hnn16 GT GV GR GO ⊢
 rw [hpn.out] at hW hk1 hb4 GT GV GR GO ⊢
 have hmk:=run_make_row' (P:=Tryz.prog) 36 30 (.slice none 0 0) 24 Tryz.underlying36 infoIs rfl .i64 .i64 N (by omega) (by omega)
 have hw1:IntKind.i64.wrap (IntKind.i64.wrap ((tm:Int) + (nn:Int)) + 1) = (N:Int):=by have:=hNe.out;rw [IntKind.wrap_i64,IntKind.wrap_i64];omega
 have hw2:(tm:Int) + (nn:Int) + 1 = (N:Int):=by have:=hNe.out;omega
 generalize g.start = st at *
 obtain ⟨y0,y1,y2,y3,y4⟩:=hk1.out W (Below.refl _ _)
 by_cases en:nn = 0
 · have ez:((nn:Int) == 0) = true:=by simp [en]
   have hb0:=hid (hn0.out en)
   clear en hset hI1 hIl hIa K1s K1l K1g K2l K3l hfl hpd GV GR GO hKq hn0
   go_enter Tryz.func19,Tryz.ntmps19
   go_wp2_with (go_at_call 21;refine (GT.out W (Below.refl _ _)).mono ?_;clear GT;rintro e w1 ⟨rfl,hc1⟩;clear y0 y1 y2 y3 y4;have a1:=al' w1 (.cells (madeCells #[.slice none 0 0] N) 30);have hR2:=made_slices w1 N;obtain ⟨x0,x1,x2,x3,x4⟩:=hk1.out w1 hc1;obtain ⟨W2,hW2⟩:∃ x,w1.alloc (.cells (madeCells #[.slice none 0 0] N) 30) = x:=⟨_,rfl⟩;rw [hW2] at a1 hR2;have h2:=hid (bl_step hc1 a1);obtain ⟨y0,y1,y2,y3,y4⟩:=hk1.out W2 h2.out;have hR2:=hid hR2;clear a1 hc1)
   go_ret
   exact ⟨_,rfl,by rw [hb0.out];exact hR2.out,bl_step hB.out h2.out⟩
 have ez:((nn:Int) == 0) = false:=by simp [en]
 clear en hn0
 go_enter Tryz.func19,Tryz.ntmps19
 go_wp2_with (first
  | (go_at_call 21;refine (GT.out W (Below.refl _ _)).mono ?_;clear GT;rintro e w1 ⟨rfl,hc1⟩;clear y0 y1 y2 y3 y4;have a1:=al' w1 (.cells (madeCells #[.slice none 0 0] N) 30);have hR2:=made_slices w1 N;obtain ⟨x0,x1,x2,x3,x4⟩:=hk1.out w1 hc1;have hmb:=hid hc1.size;obtain ⟨W2,hW2⟩:∃ x,w1.alloc (.cells (madeCells #[.slice none 0 0] N) 30) = x:=⟨_,rfl⟩;rw [hW2] at a1 hR2;have h2:=hid (bl_step hc1 a1);obtain ⟨y0,y1,y2,y3,y4⟩:=hk1.out W2 h2.out;have hR2:=hid hR2;clear a1 hc1)
  | (go_at_call 13;refine (GV.out W2 h2.out).mono ?_;clear GV;rintro e w3 ⟨v3,rfl,⟨B3,hO3⟩,hc3⟩;have hN3:=hid (Nums.of_row hO3);have hR3:=hid (hR2.out.keep hc3);have h3:=hid (bl_step h2.out hc3);clear hO3 hc3 y0 y1 y2 y3 y4 x0 x1 x2 x3 x4;obtain ⟨y0,y1,y2,y3,y4⟩:=hk1.out w3 h3.out)
  | (go_at_call 38;refine (GR.out w3 h3.out).mono ?_;clear GR;rintro e w4 ⟨v4,rfl,⟨B4,hO4⟩,hc4⟩;have hN4:=hid (Nums.of_row hO4);have hN34:=hid (hN3.out.keep hc4);have hR4:=hid (hR3.out.keep hc4);have h4:=hid (bl_step h3.out hc4);clear hO4 hc4 y0 y1 y2 y3 y4))
 clear hW hW2 hmk hw1 hw2 hR2 hR3 hN3 h2 h3 ez
 generalize w1.heap.size = mb at *
 have hR5:Hid (RowsL w4 mb (behI g 1)):=hid (by rw [hI1.out];exact hR4.out)
 have hK5:Hid (Kept (oneBlk mb) w4 w4):=hid (Kept.refl _ _)
 go_loopw [8] (fun i wr => ∃ s:Nat,1 ≤ s ∧ s ≤ N ∧ i = .int .i64 (s:Int) ∧ Hid (RowsL wr mb (behI g s)) ∧ Hid (Kept (oneBlk mb) w4 wr)) (fun i _ => N - (intOf i).toNat)
 case atStart => exact ⟨1,Nat.le_refl _,by have:=hNe.out;omega,rfl,hR5,hK5⟩
 case round =>
  clear hR5 hK5
  obtain ⟨s,hs1,hs2,rfl,hR,hK⟩:=hrel
  obtain ⟨wS,ew⟩:∃ x,x = wr:=⟨wr,rfl⟩
  subst ew
  have hBW:=hid (h4.out.trans (hK.out.below (fun k e => by rw [show k = mb from e];exact hmb.out) h4.out.size))
  have hN3:=hid (hN34.out.kept hR4.out hK.out)
  have hNL4:=hid (hN4.out.kept hR4.out hK.out)
  by_cases hlt:s < N
  · have hltz:(s:Int) < (N:Int):=by omega
    have hs9:=hid (hsN.out s hlt)
    have hs1z:=hid (show (1:Int) ≤ (s:Int) by omega)
    obtain ⟨v1,u1,hap1,hE1⟩:=(EaV.start wS).addE (s:Int) (Nat.zero_le _)
    obtain ⟨ga,gc,rfl⟩:=slice_of_row hE1.ends (by simp)
    simp only [List.nil_append,List.length_singleton] at hap1 hE1
    have hE1:=hid hE1
    have hK1:=hid (K1s.out (s:Int))
    go_wp2_with (at_builtin;refine wp_run15 _ rfl _ _ _ rfl _ _ rfl rfl hap1 ?_;clear hap1)
    go_loopg [9,10,11] N (fun gk ve va i u => ∃ (q:Nat) (S:BhS),q ≤ S.ends.length ∧ i = .int .i64 (q:Int) ∧ Hid (EaV wS u ve va S.ends S.all) ∧ Hid (BK1 g (s:Int) gk q S))
    case atStart => exact ⟨0,⟨[(s:Int)],[]⟩,Nat.zero_le _,rfl,hE1,hK1⟩
    case round =>
     clear hE1 hK1
     obtain ⟨q,S,hq,rfl,hE,hK1⟩:=hrel
     obtain ⟨lE,lA⟩:=K1l.out _ _ _ _ hs1z.out hs9.out hK1.out
     have hBu:=hid (bl_step hBW.out hE.out.low)
     obtain ⟨y0,y1,y2,y3,y4⟩:=hk1.out wr hBu.out
     obtain ⟨ea,ec,e9⟩:=shapeN15 (Nums.of_row hE.out.ends)
     subst e9
     by_cases hlq:q < S.ends.length
     · have hlqz:(q:Int) < (S.ends.length:Int):=by omega
       obtain ⟨f,hf,hK2⟩:=K1g.out _ _ _ _ hs1z.out hs9.out hK1.out hlq
       obtain ⟨eb,eo,ec',he,-,-,hcells⟩:=(Nums.of_row hE.out.ends).at (by omega)
       injection he with he1 _ he2
       subst he1 he2
       have hcq:=hcells q hlq
       clear hcells hK1
       generalize S.ends[q] = n at *
       have g4:=cell_regrown y4
       have gq:=cell_regrown hcq
       clear y0 y1 y2 y3 y4 hcq
       have hrel2:∃ (S1:BhS) (hB:True),Hid (BK2 g (s:Int) f q n 0 S1) ∧ S1 = ⟨S.ends,S.all ++ if n = st then [0] else []⟩:=⟨_,trivial,hid hK2,rfl⟩
       clear hK2
       obtain ⟨S1,-,hK2,hS1⟩:=hrel2
       by_cases en:n = st
       · rw [if_pos en] at hS1
         rw [en] at gq
         clear en
         go_wp2_with fail
         refine wp_region_quiet_below (by kernel_rfl) (by kernel_rfl) ?_
         repeat (first | go_big_quiet_step (fail) | quiet_step (fail))
         refine wpQuiet_nil ?_
         intro _ hw'
         obtain ⟨⟨dq,osq⟩,hw''⟩:=hw'
         subst hw''
         have hE6:=hE.out.keep (below_regrown wr dq osq)
         generalize grow (redrawn wr dq) osq = w2 at *
         obtain ⟨v7,u7,hap7,hE7⟩:=hE6.addA 0 (by omega)
         have hE8:Hid (EaV wS u7 (.slice (some ⟨eb,eo,none⟩) S.ends.length ec) v7 S1.ends S1.all):=hid (by rw [hS1];exact hE7)
         clear hE6 hE7 hE hS1 g4 gq
         go_wp2_with (at_builtin;refine wp_run15 _ rfl _ _ _ rfl _ _ rfl rfl hap7 ?_;clear hap7)
         have hq32:q ≤ 32:=by omega
         clear hBu lE lA hq hlq hlqz
         go_loopw [9,10,12] (fun ve va k u => ∃ (kk:Nat) (S:BhS),kk ≤ pn ∧ k = .int .i64 (kk:Int) ∧ Hid (EaV wS u ve va S.ends S.all) ∧ Hid (BK2 g (s:Int) f q n kk S)) (fun _ _ k _ => pn - (intOf k).toNat)
         case atStart => exact ⟨0,S1,Nat.zero_le _,rfl,hE8,hK2⟩
         case round =>
          clear hE8 hK2
          obtain ⟨kk,S2,hkk,rfl,hE,hK2⟩:=hrel
          have hBu:=hid (bl_step hBW.out hE.out.low)
          obtain ⟨y0,y1,y2,y3,y4⟩:=hk1.out wr hBu.out
          obtain ⟨ea,ec2,e9⟩:=shapeN15 (Nums.of_row hE.out.ends)
          obtain ⟨va0,hva0⟩:∃ x,x = u10:=⟨_,rfl⟩
          subst hva0
          subst e9
          by_cases hlk:kk < pn
          · have hlkz:(kk:Int) < (pn:Int):=by omega
            have hkl:kk < g.prods.length:=by rw [hpn.out];exact hlk
            obtain ⟨b,o,q1,q3,e,hx⟩:=hKq.out kk hkl
            subst e
            obtain ⟨hp1,hp2⟩:=hpd.out kk hkl
            have hp2:=hid hp2
            have hdead:=hid (fun (h:(livL g).contains g.prods[kk].left = false) => hK2.out.dead hkl h)
            have hlive:=hid (fun (h:(livL g).contains g.prods[kk].left = true) => hK2.out.live hkl h)
            have hstop:=hid (fun S (h:BK3 g (s:Int) f q n kk g.prods[kk].right.length S) => h.stop hkl (Nat.le_refl _))
            have hyes:=hid (fun j S (hj:j < g.prods[kk].right.length) (hn:g.prods[kk].right[j] = n) (h:BK3 g (s:Int) f q n kk j S) => h.yes hkl hj hn)
            have hno:=hid (fun j S (hj:j < g.prods[kk].right.length) (hn:g.prods[kk].right[j] ≠ n) (h:BK3 g (s:Int) f q n kk j S) => h.no hkl hj hn)
            have hfl2:=hid (fun j => hfl.out (g.prods[kk].right.drop (j + 1)) (fun n hn => hp2.out n (List.mem_of_mem_drop hn)))
            have hGO:=hid (fun j u v (hu:Below W.heap.size W u) (hv:Nums u v (g.prods[kk].right.drop (j + 1))) => GO.out (g.prods[kk].right.drop (j + 1)) u v (fun n hn => hp2.out n (List.mem_of_mem_drop hn)) (by rw [List.length_drop];omega) hu hv)
            rw [hLV.out] at hdead hlive
            rw [hNL.out] at hyes
            have hx:=hid hx
            obtain ⟨T,hT⟩:∃ y,Hid (g.prods[kk].right = y):=⟨_,hid rfl⟩
            rw [hT.out] at hp1 hx hstop hyes hno hfl2 hGO
            obtain ⟨L,hL⟩:∃ y,Hid (T.length = y):=⟨_,hid rfl⟩
            rw [hL.out] at hp1 hx hstop
            obtain ⟨x0,x1,x2,-⟩:=hx.out wr hBu.out
            generalize g.prods[kk].left = lq at *
            generalize g.prods[kk].prec = pr at *
            have hEa:=EaP.start hE.out (.cells #[.int .i64 lq,.slice q1 L q3,.int .i64 pr] 43)
            obtain ⟨wa,hwa⟩:∃ x,wr.alloc (.cells #[.int .i64 lq,.slice q1 L q3,.int .i64 pr] 43) = x:=⟨_,rfl⟩
            rw [hwa] at hEa
            have f0:=blk_cell (o:=0) hEa.box rfl
            have f1:=blk_cell (o:=1) hEa.box rfl
            have hEa:=hid hEa
            have GHl:=hid (fun u (hu:Below wS.heap.size wS u) => numHas v4 LV lq u hll.out (hNL4.out.keep hu))
            clear hE hK2
            obtain ⟨pb,hpb⟩:∃ y,wr.heap.size = y:=⟨_,rfl⟩
            rw [hpb] at hEa f0 f1
            cases hlv:LV.contains lq with
            | false =>
             rw [hlv] at GHl
             have hK3:=hid (hdead.out hlv)
             clear hlv hlive hyes hno hstop hdead hfl2 hGO
             go_wp2_with fail
             go_loopw [9,10,14] (fun ve va j u => ve = .slice ea S2.ends.length ec2 ∧ va = va0 ∧ j = .int .i64 0 ∧ u = wa) (fun _ _ _ _ => 0)
             case atStart => exact ⟨rfl,rfl,rfl,by first | rfl | trivial⟩
             case round =>
              obtain ⟨rfl,rfl,rfl,hwr⟩:=hrel
              subst wr
              by_cases hL0:0 < L
              · have hL0z:(0:Int) < (L:Int):=by omega
                go_wp2_with (go_at_call 28;refine (GHl.out _ hEa.out.ea.low).mono ?_;rintro e w5 ⟨rfl,hc5⟩;subst w5)
                go_roundw
                case rel => exact ⟨kk + 1,S2,by omega,by go_num,hid hEa.out.ea,hK3⟩
                case measure => simp [intOf];omega
              · have hL0z:¬ (0:Int) < (L:Int):=by omega
                go_wp2
                go_roundw
                case rel => exact ⟨kk + 1,S2,by omega,by go_num,hid hEa.out.ea,hK3⟩
                case measure => simp [intOf];omega
            | true =>
             rw [hlv] at GHl
             have hK3:=hid (hlive.out hlv)
             clear hlv hlive hdead
             go_wp2_with fail
             go_loopw [9,10,14] (fun ve va j u => ∃ (jj:Nat) (S:BhS),jj ≤ L ∧ j = .int .i64 (jj:Int) ∧ Hid (EaP wS u ve va S.ends S.all pb (.cells #[.int .i64 lq,.slice q1 L q3,.int .i64 pr] 43)) ∧ Hid (BK3 g (s:Int) f q n kk jj S)) (fun _ _ j _ => L - (intOf j).toNat)
             case atStart => exact ⟨0,S2,Nat.zero_le _,rfl,hEa,hK3⟩
             case round =>
              clear hEa hK3 f0 f1 x0 x1 x2 y0 y1 y2 y3 y4
              obtain ⟨jj,S3,hjj,rfl,hE,hK3⟩:=hrel
              obtain ⟨lE,lA⟩:=K3l.out _ _ _ _ _ _ _ hs1z.out hs9.out hK3.out
              have f0:=blk_cell (o:=0) hE.out.box rfl
              have f1:=blk_cell (o:=1) hE.out.box rfl
              have hBr:=hid (bl_step hBW.out hE.out.ea.low)
              have G0:=hid (GHl.out wr hE.out.ea.low)
              by_cases hlj:jj < L
              · have hljz:(jj:Int) < (L:Int):=by omega
                have hjl:jj < T.length:=by rw [hL.out];exact hlj
                have hNT:Nums wr (.slice q1 T.length q3) T:=by rw [hL.out];exact (hx.out wr hBr.out).2.2.2
                obtain ⟨rb,ro,rc,he,hle,-,hrc⟩:=hNT.at (by omega)
                injection he with he1 he3 he2
                subst he1 he2
                have hcr:=hrc jj hjl
                obtain ⟨hqe,hqn⟩:=List.getElem?_eq_some_iff.1 hK3.out.at
                obtain ⟨eb,eo,ec3,he,-,-,hcells⟩:=(Nums.of_row hE.out.ea.ends).at (by omega)
                subst he
                have hcq:=hcells q hqe
                rw [hqn] at hcq
                obtain ⟨j1,hj1⟩:∃ y,Hid (jj + 1 = y):=⟨_,hid rfl⟩
                have hwj:IntKind.i64.wrap ((jj:Int) + 1) = (j1:Int):=by rw [← hj1.out,IntKind.wrap_i64];omega
                have hj1z:(j1:Int) ≤ (L:Int):=by rw [← hj1.out];omega
                have hNt:=fun (u:World) => cutN (b:=rb) (o:=ro) (rl:=L) (c:=q3) (j1:=j1) (by rw [← hj1.out];exact hlj) (by rw [← hL.out];exact hle) u T hL.out
                have hNt2:=hid (fun u (hu:Below W.heap.size W u) => hNt u (hx.out u hu).2.2.2)
                have lF:=hfl2.out jj
                have gq:=cell_regrown hcq
                have g0:=cell_regrown f0
                have g1:=cell_regrown f1
                clear hcells
                by_cases en:T[jj] = n
                · have hyj:=hid (hyes.out jj S3 hjl en hK3.out)
                  rw [en] at hcr
                  have gr:=cell_regrown hcr
                  clear hcr hcq en hno hK3
                  go_wp2_with (go_at_call 28;refine G0.out.mono ?_;clear G0;rintro e w5 ⟨rfl,hc5⟩;subst w5)
                  refine wp_region_quiet_below (by kernel_rfl) (by kernel_rfl) ?_
                  repeat (first | go_big_quiet_step (fail) | quiet_step (fail))
                  refine wpQuiet_nil ?_
                  intro _ hw'
                  obtain ⟨⟨dq,osq⟩,hw''⟩:=hw'
                  subst hw''
                  have hE2:=hid (hE.out.keep (below_regrown wr dq osq))
                  generalize grow (redrawn wr dq) osq = w2 at *
                  clear gq g0 g1 gr hE f0 f1
                  have f0:=blk_cell (o:=0) hE2.out.box rfl
                  have f1:=blk_cell (o:=1) hE2.out.box rfl
                  have hB2:=hid (bl_step hBW.out hE2.out.ea.low)
                  obtain ⟨y0,y1,y2,y3,y4⟩:=hk1.out w2 hB2.out
                  have GC:=hid (hGO.out jj w2.drew _ hB2.out.drew (by rw [hj1.out];exact hNt2.out w2.drew hB2.out.drew))
                  go_wp2_with fail
                  rw [hj1.out] at GC lF hyj
                  generalize firL g (T.drop j1) = FL at *
                  apply collapseWV (F:=fun V v => Nums V v FL ∧ Below w2.heap.size w2 V)
                  case h =>
                   intro rest
                   go_region_law ((refine step_call15 (by rfl) 16 #[gmA rv (.slice na nn nc) lv (.slice (some ⟨b,o,none⟩) pn pc) st,(.slice (if q3 = j1 then some ⟨rb,ro,none⟩ else some ⟨rb,ro + j1,none⟩) (L - j1) (q3 - j1))] (by go_simp) GC.out ?_;rintro e w5 ⟨v5,rfl,⟨B5,hO5⟩,hc5⟩;refine ⟨_,rfl,?_⟩;have hN5:=hid (Nums.of_row hO5);have h5:=hid ((Below.refl w2.heap.size w2).drew.trans hc5);clear hO5 hc5))
                   all_goals exact rest w5 v5 ⟨hN5.out,h5.out⟩
                  case pf =>
                   rintro V v ⟨hNV,hBV⟩
                   obtain ⟨va9,vc9,e9⟩:=shapeN15 hNV
                   subst e9
                   obtain ⟨v8,u8,hap8,hE8⟩:=(hE2.out.keep hBV).addL hNV (by omega)
                   have f0:=blk_cell (o:=0) hE8.box rfl
                   have f1:=blk_cell (o:=1) hE8.box rfl
                   have hB8:=hid (bl_step hBW.out hE8.ea.low)
                   have GG:=hid (refGone v3 _ NL (T.drop j1) u8 (by omega) (by rw [List.length_drop,hL.out];omega) (hN3.out.keep hE8.ea.low) (hNt2.out u8 hB8.out))
                   have GH:=hid (numHas _ S3.ends lq u8 (by omega) (Nums.of_row hE8.ea.ends))
                   obtain ⟨v9,u9,hap9,hE9⟩:=hE8.addE lq (by omega)
                   have hE8:=hid hE8
                   have hE9:=hid hE9
                   clear hNV hBV hE2 GC
                   generalize goneB NL (T.drop j1) = gn at *
                   generalize S3.ends.contains lq = hs at *
                   cases gn with
                   | false =>
                    clear hap9 hE9 GH
                    go_wp2_with (first
                     | (at_builtin;refine wp_run15 _ rfl _ _ _ rfl _ _ rfl rfl hap8 ?_;clear hap8)
                     | (go_at_call 27;refine GG.out.mono ?_;clear GG;rintro e w5 ⟨rfl,hc5⟩;subst w5))
                    go_roundw
                    case rel => exact ⟨j1,⟨S3.ends,S3.all ++ FL⟩,by omega,rfl,hE8,hid (by have h9:=hyj.out;rw [Bool.false_and,if_neg (by decide)] at h9;exact h9)⟩
                    case measure => have:=hj1.out;simp [intOf];omega
                   | true =>
                    cases hs with
                    | true =>
                     clear hap9 hE9
                     go_wp2_with (first
                      | (at_builtin;refine wp_run15 _ rfl _ _ _ rfl _ _ rfl rfl hap8 ?_;clear hap8)
                      | (go_at_call 27;refine GG.out.mono ?_;clear GG;rintro e w5 ⟨rfl,hc5⟩;subst w5)
                      | (go_at_call 28;refine GH.out.mono ?_;clear GH;rintro e w5 ⟨rfl,hc5⟩;subst w5))
                     go_roundw
                     case rel => exact ⟨j1,⟨S3.ends,S3.all ++ FL⟩,by omega,rfl,hE8,hid (by have h9:=hyj.out;rw [Bool.true_and,Bool.not_true,if_neg (by decide)] at h9;exact h9)⟩
                     case measure => have:=hj1.out;simp [intOf];omega
                    | false =>
                     go_wp2_with (first
                      | (at_builtin;refine wp_run15 _ rfl _ _ _ rfl _ _ rfl rfl hap8 ?_;clear hap8)
                      | (at_builtin;refine wp_run15 _ rfl _ _ _ rfl _ _ rfl rfl hap9 ?_;clear hap9)
                      | (go_at_call 27;refine GG.out.mono ?_;clear GG;rintro e w5 ⟨rfl,hc5⟩;subst w5)
                      | (go_at_call 28;refine GH.out.mono ?_;clear GH;rintro e w5 ⟨rfl,hc5⟩;subst w5))
                     go_roundw
                     case rel => exact ⟨j1,⟨S3.ends ++ [lq],S3.all ++ FL⟩,by omega,rfl,hE9,hid (by have h9:=hyj.out;rw [Bool.true_and,Bool.not_false,if_pos rfl] at h9;exact h9)⟩
                     case measure => have:=hj1.out;simp [intOf];omega
                · have hnj:=hid (hno.out jj S3 hjl en hK3.out)
                  have ez:(T[jj] == n) = false:=by rw [beq_eq_false_iff_ne];exact en
                  generalize T[jj] = xj at *
                  have gr:=cell_regrown hcr
                  clear hcr hcq en hno hyes hK3
                  go_wp2_with (go_at_call 28;refine G0.out.mono ?_;clear G0;rintro e w5 ⟨rfl,hc5⟩;subst w5)
                  refine wp_region_quiet_below (by kernel_rfl) (by kernel_rfl) ?_
                  repeat (first | go_big_quiet_step (fail) | quiet_step (fail))
                  refine wpQuiet_nil ?_
                  intro _ hw'
                  obtain ⟨⟨dq,osq⟩,hw''⟩:=hw'
                  subst hw''
                  have hE2:=hid (hE.out.keep (below_regrown wr dq osq))
                  generalize grow (redrawn wr dq) osq = w2 at *
                  clear gq g0 g1 gr hE f0 f1
                  go_wp2
                  go_roundw
                  case rel => exact ⟨jj + 1,S3,by omega,by first | go_num | rw [← hj1.out],hE2,hnj⟩
                  case measure => have:=hj1.out;simp [intOf];omega
              · have hljz:¬ (jj:Int) < (L:Int):=by omega
                obtain rfl:jj = L:=by omega
                have hK4:=hid (hstop.out S3 hK3.out)
                clear hyes hno hstop hfl2 hGO
                go_wp2
                go_roundw
                case rel => exact ⟨kk + 1,S3,by omega,by go_num,hid hE.out.ea,hK4⟩
                case measure => simp [intOf];omega
          · have hlkz:¬ (kk:Int) < (pn:Int):=by omega
            have hK9:=hid (hK2.out.stop (by rw [hpn.out];omega))
            have hq9:q + 1 ≤ S2.ends.length:=by
             obtain ⟨h9,-⟩:=List.getElem?_eq_some_iff.1 hK2.out.2.1
             omega
            clear hK2
            go_wp2
            go_roundg f
            case measure => omega
            case rel => exact ⟨q + 1,S2,hq9,by go_num,hE,hK9⟩
       · rw [if_neg en,List.append_nil] at hS1
         have ez:(n == st) = false:=by rw [beq_eq_false_iff_ne];exact en
         clear en
         go_wp2_with fail
         refine wp_region_quiet_below (by kernel_rfl) (by kernel_rfl) ?_
         repeat (first | go_big_quiet_step (fail) | quiet_step (fail))
         refine wpQuiet_nil ?_
         intro _ hw'
         obtain ⟨⟨dq,osq⟩,hw''⟩:=hw'
         subst hw''
         have hE8:=hid (hE.out.keep (below_regrown wr dq osq))
         generalize grow (redrawn wr dq) osq = w2 at *
         have hS1:S1 = S:=hS1
         subst hS1
         clear hE g4 gq ez
         go_wp2_with fail
         have hq32:q ≤ 32:=by omega
         clear hBu lE lA hq hlq hlqz
         go_loopw [9,10,12] (fun ve va k u => ∃ (kk:Nat) (S:BhS),kk ≤ pn ∧ k = .int .i64 (kk:Int) ∧ Hid (EaV wS u ve va S.ends S.all) ∧ Hid (BK2 g (s:Int) f q n kk S)) (fun _ _ k _ => pn - (intOf k).toNat)
         case atStart => exact ⟨0,S1,Nat.zero_le _,rfl,hE8,hK2⟩
         case round =>
          clear hE8 hK2
          obtain ⟨kk,S2,hkk,rfl,hE,hK2⟩:=hrel
          have hBu:=hid (bl_step hBW.out hE.out.low)
          obtain ⟨y0,y1,y2,y3,y4⟩:=hk1.out wr hBu.out
          obtain ⟨ea,ec2,e9⟩:=shapeN15 (Nums.of_row hE.out.ends)
          obtain ⟨va0,hva0⟩:∃ x,x = u10:=⟨_,rfl⟩
          subst hva0
          subst e9
          by_cases hlk:kk < pn
          · have hlkz:(kk:Int) < (pn:Int):=by omega
            have hkl:kk < g.prods.length:=by rw [hpn.out];exact hlk
            obtain ⟨b,o,q1,q3,e,hx⟩:=hKq.out kk hkl
            subst e
            obtain ⟨hp1,hp2⟩:=hpd.out kk hkl
            have hp2:=hid hp2
            have hdead:=hid (fun (h:(livL g).contains g.prods[kk].left = false) => hK2.out.dead hkl h)
            have hlive:=hid (fun (h:(livL g).contains g.prods[kk].left = true) => hK2.out.live hkl h)
            have hstop:=hid (fun S (h:BK3 g (s:Int) f q n kk g.prods[kk].right.length S) => h.stop hkl (Nat.le_refl _))
            have hyes:=hid (fun j S (hj:j < g.prods[kk].right.length) (hn:g.prods[kk].right[j] = n) (h:BK3 g (s:Int) f q n kk j S) => h.yes hkl hj hn)
            have hno:=hid (fun j S (hj:j < g.prods[kk].right.length) (hn:g.prods[kk].right[j] ≠ n) (h:BK3 g (s:Int) f q n kk j S) => h.no hkl hj hn)
            have hfl2:=hid (fun j => hfl.out (g.prods[kk].right.drop (j + 1)) (fun n hn => hp2.out n (List.mem_of_mem_drop hn)))
            have hGO:=hid (fun j u v (hu:Below W.heap.size W u) (hv:Nums u v (g.prods[kk].right.drop (j + 1))) => GO.out (g.prods[kk].right.drop (j + 1)) u v (fun n hn => hp2.out n (List.mem_of_mem_drop hn)) (by rw [List.length_drop];omega) hu hv)
            rw [hLV.out] at hdead hlive
            rw [hNL.out] at hyes
            have hx:=hid hx
            obtain ⟨T,hT⟩:∃ y,Hid (g.prods[kk].right = y):=⟨_,hid rfl⟩
            rw [hT.out] at hp1 hx hstop hyes hno hfl2 hGO
            obtain ⟨L,hL⟩:∃ y,Hid (T.length = y):=⟨_,hid rfl⟩
            rw [hL.out] at hp1 hx hstop
            obtain ⟨x0,x1,x2,-⟩:=hx.out wr hBu.out
            generalize g.prods[kk].left = lq at *
            generalize g.prods[kk].prec = pr at *
            have hEa:=EaP.start hE.out (.cells #[.int .i64 lq,.slice q1 L q3,.int .i64 pr] 43)
            obtain ⟨wa,hwa⟩:∃ x,wr.alloc (.cells #[.int .i64 lq,.slice q1 L q3,.int .i64 pr] 43) = x:=⟨_,rfl⟩
            rw [hwa] at hEa
            have f0:=blk_cell (o:=0) hEa.box rfl
            have f1:=blk_cell (o:=1) hEa.box rfl
            have hEa:=hid hEa
            have GHl:=hid (fun u (hu:Below wS.heap.size wS u) => numHas v4 LV lq u hll.out (hNL4.out.keep hu))
            clear hE hK2
            obtain ⟨pb,hpb⟩:∃ y,wr.heap.size = y:=⟨_,rfl⟩
            rw [hpb] at hEa f0 f1
            cases hlv:LV.contains lq with
            | false =>
             rw [hlv] at GHl
             have hK3:=hid (hdead.out hlv)
             clear hlv hlive hyes hno hstop hdead hfl2 hGO
             go_wp2_with fail
             go_loopw [9,10,14] (fun ve va j u => ve = .slice ea S2.ends.length ec2 ∧ va = va0 ∧ j = .int .i64 0 ∧ u = wa) (fun _ _ _ _ => 0)
             case atStart => exact ⟨rfl,rfl,rfl,by first | rfl | trivial⟩
             case round =>
              obtain ⟨rfl,rfl,rfl,hwr⟩:=hrel
              subst wr
              by_cases hL0:0 < L
              · have hL0z:(0:Int) < (L:Int):=by omega
                go_wp2_with (go_at_call 28;refine (GHl.out _ hEa.out.ea.low).mono ?_;rintro e w5 ⟨rfl,hc5⟩;subst w5)
                go_roundw
                case rel => exact ⟨kk + 1,S2,by omega,by go_num,hid hEa.out.ea,hK3⟩
                case measure => simp [intOf];omega
              · have hL0z:¬ (0:Int) < (L:Int):=by omega
                go_wp2
                go_roundw
                case rel => exact ⟨kk + 1,S2,by omega,by go_num,hid hEa.out.ea,hK3⟩
                case measure => simp [intOf];omega
            | true =>
             rw [hlv] at GHl
             have hK3:=hid (hlive.out hlv)
             clear hlv hlive hdead
             go_wp2_with fail
             go_loopw [9,10,14] (fun ve va j u => ∃ (jj:Nat) (S:BhS),jj ≤ L ∧ j = .int .i64 (jj:Int) ∧ Hid (EaP wS u ve va S.ends S.all pb (.cells #[.int .i64 lq,.slice q1 L q3,.int .i64 pr] 43)) ∧ Hid (BK3 g (s:Int) f q n kk jj S)) (fun _ _ j _ => L - (intOf j).toNat)
             case atStart => exact ⟨0,S2,Nat.zero_le _,rfl,hEa,hK3⟩
             case round =>
              clear hEa hK3 f0 f1 x0 x1 x2 y0 y1 y2 y3 y4
              obtain ⟨jj,S3,hjj,rfl,hE,hK3⟩:=hrel
              obtain ⟨lE,lA⟩:=K3l.out _ _ _ _ _ _ _ hs1z.out hs9.out hK3.out
              have f0:=blk_cell (o:=0) hE.out.box rfl
              have f1:=blk_cell (o:=1) hE.out.box rfl
              have hBr:=hid (bl_step hBW.out hE.out.ea.low)
              have G0:=hid (GHl.out wr hE.out.ea.low)
              by_cases hlj:jj < L
              · have hljz:(jj:Int) < (L:Int):=by omega
                have hjl:jj < T.length:=by rw [hL.out];exact hlj
                have hNT:Nums wr (.slice q1 T.length q3) T:=by rw [hL.out];exact (hx.out wr hBr.out).2.2.2
                obtain ⟨rb,ro,rc,he,hle,-,hrc⟩:=hNT.at (by omega)
                injection he with he1 he3 he2
                subst he1 he2
                have hcr:=hrc jj hjl
                obtain ⟨hqe,hqn⟩:=List.getElem?_eq_some_iff.1 hK3.out.at
                obtain ⟨eb,eo,ec3,he,-,-,hcells⟩:=(Nums.of_row hE.out.ea.ends).at (by omega)
                subst he
                have hcq:=hcells q hqe
                rw [hqn] at hcq
                obtain ⟨j1,hj1⟩:∃ y,Hid (jj + 1 = y):=⟨_,hid rfl⟩
                have hwj:IntKind.i64.wrap ((jj:Int) + 1) = (j1:Int):=by rw [← hj1.out,IntKind.wrap_i64];omega
                have hj1z:(j1:Int) ≤ (L:Int):=by rw [← hj1.out];omega
                have hNt:=fun (u:World) => cutN (b:=rb) (o:=ro) (rl:=L) (c:=q3) (j1:=j1) (by rw [← hj1.out];exact hlj) (by rw [← hL.out];exact hle) u T hL.out
                have hNt2:=hid (fun u (hu:Below W.heap.size W u) => hNt u (hx.out u hu).2.2.2)
                have lF:=hfl2.out jj
                have gq:=cell_regrown hcq
                have g0:=cell_regrown f0
                have g1:=cell_regrown f1
                clear hcells
                by_cases en:T[jj] = n
                · have hyj:=hid (hyes.out jj S3 hjl en hK3.out)
                  rw [en] at hcr
                  have gr:=cell_regrown hcr
                  clear hcr hcq en hno hK3
                  go_wp2_with (go_at_call 28;refine G0.out.mono ?_;clear G0;rintro e w5 ⟨rfl,hc5⟩;subst w5)
                  refine wp_region_quiet_below (by kernel_rfl) (by kernel_rfl) ?_
                  repeat (first | go_big_quiet_step (fail) | quiet_step (fail))
                  refine wpQuiet_nil ?_
                  intro _ hw'
                  obtain ⟨⟨dq,osq⟩,hw''⟩:=hw'
                  subst hw''
                  have hE2:=hid (hE.out.keep (below_regrown wr dq osq))
                  generalize grow (redrawn wr dq) osq = w2 at *
                  clear gq g0 g1 gr hE f0 f1
                  have f0:=blk_cell (o:=0) hE2.out.box rfl
                  have f1:=blk_cell (o:=1) hE2.out.box rfl
                  have hB2:=hid (bl_step hBW.out hE2.out.ea.low)
                  obtain ⟨y0,y1,y2,y3,y4⟩:=hk1.out w2 hB2.out
                  have GC:=hid (hGO.out jj w2.drew _ hB2.out.drew (by rw [hj1.out];exact hNt2.out w2.drew hB2.out.drew))
                  go_wp2_with fail
                  rw [hj1.out] at GC lF hyj
                  generalize firL g (T.drop j1) = FL at *
                  apply collapseWV (F:=fun V v => Nums V v FL ∧ Below w2.heap.size w2 V)
                  case h =>
                   intro rest
                   go_region_law ((refine step_call15 (by rfl) 16 #[gmA rv (.slice na nn nc) lv (.slice (some ⟨b,o,none⟩) pn pc) st,(.slice (if q3 = j1 then some ⟨rb,ro,none⟩ else some ⟨rb,ro + j1,none⟩) (L - j1) (q3 - j1))] (by go_simp) GC.out ?_;rintro e w5 ⟨v5,rfl,⟨B5,hO5⟩,hc5⟩;refine ⟨_,rfl,?_⟩;have hN5:=hid (Nums.of_row hO5);have h5:=hid ((Below.refl w2.heap.size w2).drew.trans hc5);clear hO5 hc5))
                   all_goals exact rest w5 v5 ⟨hN5.out,h5.out⟩
                  case pf =>
                   rintro V v ⟨hNV,hBV⟩
                   obtain ⟨va9,vc9,e9⟩:=shapeN15 hNV
                   subst e9
                   obtain ⟨v8,u8,hap8,hE8⟩:=(hE2.out.keep hBV).addL hNV (by omega)
                   have f0:=blk_cell (o:=0) hE8.box rfl
                   have f1:=blk_cell (o:=1) hE8.box rfl
                   have hB8:=hid (bl_step hBW.out hE8.ea.low)
                   have GG:=hid (refGone v3 _ NL (T.drop j1) u8 (by omega) (by rw [List.length_drop,hL.out];omega) (hN3.out.keep hE8.ea.low) (hNt2.out u8 hB8.out))
                   have GH:=hid (numHas _ S3.ends lq u8 (by omega) (Nums.of_row hE8.ea.ends))
                   obtain ⟨v9,u9,hap9,hE9⟩:=hE8.addE lq (by omega)
                   have hE8:=hid hE8
                   have hE9:=hid hE9
                   clear hNV hBV hE2 GC
                   generalize goneB NL (T.drop j1) = gn at *
                   generalize S3.ends.contains lq = hs at *
                   cases gn with
                   | false =>
                    clear hap9 hE9 GH
                    go_wp2_with (first
                     | (at_builtin;refine wp_run15 _ rfl _ _ _ rfl _ _ rfl rfl hap8 ?_;clear hap8)
                     | (go_at_call 27;refine GG.out.mono ?_;clear GG;rintro e w5 ⟨rfl,hc5⟩;subst w5))
                    go_roundw
                    case rel => exact ⟨j1,⟨S3.ends,S3.all ++ FL⟩,by omega,rfl,hE8,hid (by have h9:=hyj.out;rw [Bool.false_and,if_neg (by decide)] at h9;exact h9)⟩
                    case measure => have:=hj1.out;simp [intOf];omega
                   | true =>
                    cases hs with
                    | true =>
                     clear hap9 hE9
                     go_wp2_with (first
                      | (at_builtin;refine wp_run15 _ rfl _ _ _ rfl _ _ rfl rfl hap8 ?_;clear hap8)
                      | (go_at_call 27;refine GG.out.mono ?_;clear GG;rintro e w5 ⟨rfl,hc5⟩;subst w5)
                      | (go_at_call 28;refine GH.out.mono ?_;clear GH;rintro e w5 ⟨rfl,hc5⟩;subst w5))
                     go_roundw
                     case rel => exact ⟨j1,⟨S3.ends,S3.all ++ FL⟩,by omega,rfl,hE8,hid (by have h9:=hyj.out;rw [Bool.true_and,Bool.not_true,if_neg (by decide)] at h9;exact h9)⟩
                     case measure => have:=hj1.out;simp [intOf];omega
                    | false =>
                     go_wp2_with (first
                      | (at_builtin;refine wp_run15 _ rfl _ _ _ rfl _ _ rfl rfl hap8 ?_;clear hap8)
                      | (at_builtin;refine wp_run15 _ rfl _ _ _ rfl _ _ rfl rfl hap9 ?_;clear hap9)
                      | (go_at_call 27;refine GG.out.mono ?_;clear GG;rintro e w5 ⟨rfl,hc5⟩;subst w5)
                      | (go_at_call 28;refine GH.out.mono ?_;clear GH;rintro e w5 ⟨rfl,hc5⟩;subst w5))
                     go_roundw
                     case rel => exact ⟨j1,⟨S3.ends ++ [lq],S3.all ++ FL⟩,by omega,rfl,hE9,hid (by have h9:=hyj.out;rw [Bool.true_and,Bool.not_false,if_pos rfl] at h9;exact h9)⟩
                     case measure => have:=hj1.out;simp [intOf];omega
                · have hnj:=hid (hno.out jj S3 hjl en hK3.out)
                  have ez:(T[jj] == n) = false:=by rw [beq_eq_false_iff_ne];exact en
                  generalize T[jj] = xj at *
                  have gr:=cell_regrown hcr
                  clear hcr hcq en hno hyes hK3
                  go_wp2_with (go_at_call 28;refine G0.out.mono ?_;clear G0;rintro e w5 ⟨rfl,hc5⟩;subst w5)
                  refine wp_region_quiet_below (by kernel_rfl) (by kernel_rfl) ?_
                  repeat (first | go_big_quiet_step (fail) | quiet_step (fail))
                  refine wpQuiet_nil ?_
                  intro _ hw'
                  obtain ⟨⟨dq,osq⟩,hw''⟩:=hw'
                  subst hw''
                  have hE2:=hid (hE.out.keep (below_regrown wr dq osq))
                  generalize grow (redrawn wr dq) osq = w2 at *
                  clear gq g0 g1 gr hE f0 f1
                  go_wp2
                  go_roundw
                  case rel => exact ⟨jj + 1,S3,by omega,by first | go_num | rw [← hj1.out],hE2,hnj⟩
                  case measure => have:=hj1.out;simp [intOf];omega
              · have hljz:¬ (jj:Int) < (L:Int):=by omega
                obtain rfl:jj = L:=by omega
                have hK4:=hid (hstop.out S3 hK3.out)
                clear hyes hno hstop hfl2 hGO
                go_wp2
                go_roundw
                case rel => exact ⟨kk + 1,S3,by omega,by go_num,hid hE.out.ea,hK4⟩
                case measure => simp [intOf];omega
          · have hlkz:¬ (kk:Int) < (pn:Int):=by omega
            have hK9:=hid (hK2.out.stop (by rw [hpn.out];omega))
            have hq9:q + 1 ≤ S2.ends.length:=by
             obtain ⟨h9,-⟩:=List.getElem?_eq_some_iff.1 hK2.out.2.1
             omega
            clear hK2
            go_wp2
            go_roundg f
            case measure => omega
            case rel => exact ⟨q + 1,S2,hq9,by go_num,hE,hK9⟩
     · have hlqz:¬ (q:Int) < (S.ends.length:Int):=by omega
       have hfin:=hK1.out.stop (by omega)
       subst hfin
       have hR6:=hid (fun u (hu:Below wS.heap.size wS u) => hR.out.keep hu)
       have hlo:=hid hE.out.low
       have hset9:=hid (hset.out s hs1 hlt)
       have hIl9:=hid (hIl.out s hs2)
       have G9:=hid (refOf _ _ wr (by omega) (Nums.of_row hE.out.all))
       have lO:=hid (Nat.le_trans (ofL_len (bhF g (s:Int)).all) (Nat.le_trans lA (by decide:700000 ≤ 1000000)))
       have hKs:=hid (fun u (hu:Below wS.heap.size wS u) (v:Value) => (hK.out.trans (Kept.of_below hu)).trans (set_kept (rb:=mb) (o:=s) (v:=v)))
       generalize (bhF g (s:Int)).all = AL at *
       generalize (bhF g (s:Int)).ends.length = el at *
       clear hE hK1 hK hR y0 y1 y2 y3 y4 hq lE lA hlq
       go_wp2_with (go_at_call 29;refine G9.out.mono ?_;clear G9;rintro e w5 ⟨v5,rfl,hO5,hc5⟩;obtain ⟨v5a,v5c,e5⟩:=shapeN15 (Nums.of_row hO5);subst e5;have hb5:=hid (bl_step hlo.out hc5);have hR7:=hR6.out w5 hb5.out;obtain ⟨y,ry,-,-⟩:=hR7.at (s:=(s:Int)) (by rw [hIl9.out];omega);rw [Int.toNat_natCast] at ry;have hfz:=hR7.free s;have hput:=hid (hR7.put s (Nums.of_row hO5) lO.out);rw [hset9.out] at hput;have hKa:=hid (hKs.out w5 hb5.out (.slice v5a (ofL AL).length v5c));clear hR7 hO5 hc5)
       go_roundw
       case rel => exact ⟨s + 1,by omega,by omega,by go_num,hput,hKa⟩
       case measure => simp [intOf];omega
  · have hltz:¬ (s:Int) < (N:Int):=by omega
    obtain rfl:s = N:=by omega
    have hR9:Hid (RowsL wS mb (behL g)):=hid (by have:=hR.out;rw [hIa.out] at this;exact this)
    clear hR
    go_wp2
    go_ret
    exact ⟨mb,rfl,hR9.out,bl_step hB.out hBW.out⟩
theorem RowsL.get {w:World} {mb:Nat} {H:List (List Int)} (h:RowsL w mb H) {k:Nat} (hk:k < H.length):∃ v,w.cell? ⟨mb,k,none⟩ = some v ∧ Nums w v H[k] ∧ H[k].length ≤ 1000000:=by
 obtain ⟨v,h1,h2,h3⟩:=h.at (s:=(k:Int)) (by rw [Int.toNat_natCast];exact hk)
 have e:atB H (k:Int) = H[k]:=by unfold atB;rw [Int.toNat_natCast,List.getD_eq_getElem?_getD,List.getElem?_eq_getElem hk,Option.getD_some]
 rw [e] at h2 h3
 rw [Int.toNat_natCast] at h1
 exact ⟨v,h1,h2,h3⟩
theorem RowsL.lst {w:World} {mb:Nat} {H:List (List Int)} (h:RowsL w mb H) (c:Nat):Lst15 w (.slice (some ⟨mb,0,none⟩) H.length c) H:=
 ⟨_,_,rfl,fun k hk => by
  obtain ⟨v,h1,h2,-⟩:=h.get hk
  exact ⟨mb,0,v,rfl,by rw [Nat.zero_add];exact h1,h2⟩⟩
theorem RowsL.lens {w:World} {mb:Nat} {H:List (List Int)} (h:RowsL w mb H):∀ l ∈ H,l.length ≤ 1000000:=fun l hl => by
 obtain ⟨k,hk,rfl⟩:=List.getElem_of_mem hl
 exact (h.get hk).choose_spec.2.2
set_option maxRecDepth 20000 in
theorem behindNoP (g:Gm) (hg:¬ SndG g) (rv nv lv pv:Value) (w:World) (hV:GmV w rv nv lv pv g) (hb:BndG g) (hnl:∀ t ∈ g.allN,t.length ≤ 1000000) :
 Calls Tryz.prog 17 #[gmA rv nv lv pv g.start] w fun e w' => e = .returned (.slice none 0 0) ∧ Below w.heap.size w w':=by
 have hB1:=al' w (.cells #[rv,nv,lv,pv,.int .i64 g.start] 27)
 have k1:=heap_new w (.cells #[rv,nv,lv,pv,.int .i64 g.start] 27)
 obtain ⟨W,hW⟩:∃ x,w.alloc (.cells #[rv,nv,lv,pv,.int .i64 g.start] 27) = x:=⟨_,rfl⟩
 rw [hW] at hB1 k1
 have hB:=hid hB1
 have G0:=hid (soundP g _ _ _ _ W (hV.keep hB1) hb hnl)
 rw [soundB_no hg] at G0
 obtain ⟨y0,y1,y2,y3,y4⟩:=cells5m k1
 clear hV hB1 k1 hb hg hnl
 generalize g.start = st at *
 go_enter Tryz.func17,Tryz.ntmps17
 go_wp2_with (go_at_call 23;refine G0.out.mono ?_;clear G0;rintro e w1 ⟨rfl,hc1⟩;have h1:=hid hc1;clear hc1)
 go_ret
 exact ⟨rfl,bl_step hB.out h1.out⟩
set_option maxRecDepth 20000 in
set_option maxHeartbeats 16000000 in
theorem firstBehindWalk (HW:WkOK15) (rv nv lv pv:Value) (g:Gm) (w:World) (h:GmV w rv nv lv pv g):Calls Tryz.prog 5 #[gmA rv nv lv pv g.start] w fun e w' => e = .returned (.bool true) ∧ Below w.heap.size w w':=by
 have hKp:=hid (fun u (hu:Below w.heap.size w u) => h.keep hu)
 have hB1:=al' w (.cells #[rv,nv,lv,pv,.int .i64 g.start] 27)
 have k1:=heap_new w (.cells #[rv,nv,lv,pv,.int .i64 g.start] 27)
 obtain ⟨W,hW⟩:∃ x,w.alloc (.cells #[rv,nv,lv,pv,.int .i64 g.start] 27) = x:=⟨_,rfl⟩
 rw [hW] at hB1 k1
 have hk1:=hid (fun u (hu:Below W.heap.size W u) => cells5m (hs_keep k1 hu))
 have hB:=hid hB1
 have GW:=hid (HW.wakes W)
 by_cases hf:Fits12 g
 · have GL:=hid (fun u (hu:Below w.heap.size w u) => longNo _ _ _ _ g u (hKp.out u hu) hf)
   have GS:=hid (fun u (hu:Below w.heap.size w u) => refSound g _ _ _ _ u (hKp.out u hu) hf.bnd hf.names)
   by_cases hg:SndG g
   · have GA:=hid (fun u (hu:Below w.heap.size w u) => behindP g hg _ _ _ _ u (hKp.out u hu) hf.bnd hf.names)
     have GR:=hid (fun u (hu:Below w.heap.size w u) => refBehind15 g hg hf.bnd _ _ _ _ u (hKp.out u hu))
     rw [soundB_yes hg] at GS
     have hal:=all_le32 hg
     have hlen:(behL g).length = g.all + 1:=behL_len g
     have GX:Hid (∀ u b b',RowsL u b (behL g) → RowsL u b' (behL g) → Calls Tryz.prog 18 #[.slice (some ⟨b,0,none⟩) (g.all + 1) (g.all + 1),.slice (some ⟨b',0,none⟩) (g.all + 1) (g.all + 1)] u fun e w' => e = .returned (.bool true) ∧ Below u.heap.size u w'):=hid (fun u b b' h1 h2 => by
      have:=refSameLists _ _ _ _ u (h1.lst (g.all + 1)) (h2.lst (g.all + 1)) (by omega) (by omega) h1.lens h2.lens
      rw [decide_eq_true rfl,hlen] at this
      exact this)
     clear h hB1 k1 hf hg HW hKp hlen
     generalize behL g = BH at *
     generalize g.all + 1 = N at *
     generalize g.start = st at *
     go_enter Tryz.func5,Tryz.ntmps5
     go_wp2_with (first
      | (go_at_call 8;refine GW.out.mono ?_;clear GW;rintro e w1 ⟨rfl,hc1⟩;have h1:=hid hc1;obtain ⟨x0,x1,x2,x3,x4⟩:=hk1.out w1 h1.out;clear hc1)
      | (go_at_call 9;refine (GL.out _ (bl_step hB.out h1.out)).mono ?_;clear GL;rintro e w2 ⟨rfl,hc2⟩;have h2:=hid (bl_step h1.out hc2);clear hc2 x0 x1 x2 x3 x4;obtain ⟨x0,x1,x2,x3,x4⟩:=hk1.out w2 h2.out)
      | (go_at_call 17;refine (GA.out _ (bl_step hB.out h2.out)).mono ?_;clear GA;rintro e w3 ⟨b3,rfl,hR3,hc3⟩;have hR3:=hid hR3;have h3:=hid (bl_step h2.out hc3);clear hc3 x0 x1 x2 x3 x4;obtain ⟨x0,x1,x2,x3,x4⟩:=hk1.out w3 h3.out)
      | (go_at_call 11;refine (GS.out _ (bl_step hB.out h3.out)).mono ?_;clear GS;rintro e w4 ⟨rfl,hc4⟩;have h4:=hid (bl_step h3.out hc4);have hR4:=hid (hR3.out.keep hc4);clear hc4 x0 x1 x2 x3 x4;obtain ⟨x0,x1,x2,x3,x4⟩:=hk1.out w4 h4.out)
      | (go_at_call 19;refine (GR.out _ (bl_step hB.out h4.out)).mono ?_;clear GR;rintro e w5 ⟨b5,rfl,hR5,hc5⟩;have h5:=hid (bl_step h4.out hc5);have hL5:=hid (hR4.out.keep hc5);have hR5:=hid hR5;clear hc5)
      | (go_at_call 18;refine (GX.out _ _ _ hL5.out hR5.out).mono ?_;clear GX;rintro e w6 ⟨rfl,hc6⟩;have h6:=hid (bl_step h5.out hc6);clear hc6))
     go_ret
     exact ⟨rfl,bl_step hB.out h6.out⟩
   · have GA:=hid (fun u (hu:Below w.heap.size w u) => behindNoP g hg _ _ _ _ u (hKp.out u hu) hf.bnd hf.names)
     rw [soundB_no hg] at GS
     clear h hB1 k1 hf hg HW hKp
     generalize g.start = st at *
     go_enter Tryz.func5,Tryz.ntmps5
     go_wp2_with (first
      | (go_at_call 8;refine GW.out.mono ?_;clear GW;rintro e w1 ⟨rfl,hc1⟩;have h1:=hid hc1;obtain ⟨x0,x1,x2,x3,x4⟩:=hk1.out w1 h1.out;clear hc1)
      | (go_at_call 9;refine (GL.out _ (bl_step hB.out h1.out)).mono ?_;clear GL;rintro e w2 ⟨rfl,hc2⟩;have h2:=hid (bl_step h1.out hc2);clear hc2 x0 x1 x2 x3 x4;obtain ⟨x0,x1,x2,x3,x4⟩:=hk1.out w2 h2.out)
      | (go_at_call 17;refine (GA.out _ (bl_step hB.out h2.out)).mono ?_;clear GA;rintro e w3 ⟨rfl,hc3⟩;have h3:=hid (bl_step h2.out hc3);clear hc3 x0 x1 x2 x3 x4;obtain ⟨x0,x1,x2,x3,x4⟩:=hk1.out w3 h3.out)
      | (go_at_call 11;refine (GS.out _ (bl_step hB.out h3.out)).mono ?_;clear GS;rintro e w4 ⟨rfl,hc4⟩;have h4:=hid (bl_step h3.out hc4);clear hc4 x0 x1 x2 x3 x4))
     go_ret
     exact ⟨rfl,bl_step hB.out h4.out⟩
 · have GL:=hid (fun u (hu:Below w.heap.size w u) => longYes _ _ _ _ g u (hKp.out u hu) hf)
   clear h hB1 k1 hf HW hKp
   generalize g.start = st at *
   go_enter Tryz.func5,Tryz.ntmps5
   go_wp2_with (first
    | (go_at_call 8;refine GW.out.mono ?_;clear GW;rintro e w1 ⟨rfl,hc1⟩;have h1:=hid hc1;obtain ⟨x0,x1,x2,x3,x4⟩:=hk1.out w1 h1.out;clear hc1)
    | (go_at_call 9;refine (GL.out _ (bl_step hB.out h1.out)).mono ?_;clear GL;rintro e w2 ⟨rfl,hc2⟩;have h2:=hid (bl_step h1.out hc2);clear hc2))
   go_ret
   exact ⟨rfl,bl_step hB.out h2.out⟩
end Go.Proofs.YtfhokapfkclckaaGreat
